/-
  Texts laid together in one: Ref06Token, Ref06Tokens.
-/
import Derived.WalkSpells
import Derived.WalkMore
import Derived.Deep.QuietTactic
import Derived.BigQuiet
import Derived.Test.YtbkkmabmkonnbaaGreatProg
import Derived.Test.YtbkkmabmkonnbaaGreatB08
import Derived.Test.YtbkkmabmkonnbaaGreatB19
import Derived.Test.YtbkkmabmkonnbaaGreatB18
import Derived.Test.YtbkkmabmkonnbaaGreatB16
/-
  Token of the document's answer. Nothing that was there turns.
-/
namespace Go.Proofs.YtbkkmabmkonnbaaGreat
open Go.RowKit
set_option maxRecDepth 10000
set_option linter.unusedVariables false
set_option linter.unusedSimpArgs false

/-- What Token answers: the token, how many bytes it is, what is wrong. -/
def tkT (l : List Int) (p : Nat) : TokT := match tokP l p with
  | .inr x => (x.1, strOfNums x.2.1, (p : Int))
  | .inl _ => (0, ⟨#[]⟩, 0)
def tkN (l : List Int) (p : Nat) : Nat := match tokP l p with
  | .inr x => x.2.2 - p
  | .inl _ => 0
def tkE (l : List Int) (p : Nat) : Int := match tokP l p with
  | .inr _ => 0
  | .inl e => e
theorem tk_ok {l : List Int} {p q : Nat} {k : Int} {t : List Int} (h : tokP l p = .inr (k, t, q)) : tkT l p = (k, strOfNums t, (p : Int)) ∧ tkN l p = q - p ∧ tkE l p = 0 := by
  unfold tkT tkN tkE; rw [h]; exact ⟨rfl, rfl, rfl⟩
theorem tk_bad {l : List Int} {p : Nat} {e : Int} (h : tokP l p = .inl e) : tkT l p = (0, ⟨#[]⟩, 0) ∧ tkN l p = 0 ∧ tkE l p = e := by
  unfold tkT tkN tkE; rw [h]; exact ⟨rfl, rfl, rfl⟩
theorem cut_str (s : ByteArray) (a b : Nat) : strOfNums (cutL (strI s) a b) = s.extract a b := by
  have : cutL (strI s) a b = strI (s.extract a b) := by rw [strI_extract]; rfl
  rw [this, str_of_strI]
theorem three_set6 {W : World} {g T : Nat} {a b c : Value} (h : W.heap[g]? = some (.cells #[a, b, c] T (0, 0))) (u v x : Value) :
    (((W.setCell ⟨g, 0, none⟩ u).setCell ⟨g, 1, none⟩ v).setCell ⟨g, 2, none⟩ x).heap[g]? = some (.cells #[u, v, x] T (0, 0)) := by
  simp only [World.setCell, Array.getElem?_modify, h]; simp

set_option maxHeartbeats 4000000 in
theorem refToken_any (s : ByteArray) (p : Nat) (w : World) (hs : s.size ≤ 16777216) (hp : p < s.size) :
    Calls Tryz.prog 41 #[.string s, .int .i64 p] w fun e w' => e = .returned (.tuple #[tokV (tkT (strI s) p), .int .i64 (tkN (strI s) p), .int .i64 (tkE (strI s) p)]) ∧ Below w.heap.size w w' := by
  have hs' : s.size ≤ 140737488351232 := by omega
  have hpi : (p : Int) < (s.size : Int) := by omega
  have n0 := nth_strI s p hp
  have HLEN := strI_len s
  obtain ⟨c0, c1⟩ := byte_lo s p hp
  have hL := fun wx => ref6Letter_any (s[p].toNat : Int) wx c0 c1
  have hD := fun wx => refDigit_any (s[p].toNat : Int) wx c0 c1
  have b1 : Below w.heap.size w (w.alloc (.cells #[.int .u8 0, .string ⟨#[]⟩, .int .i64 0] 55)) := (Below.refl _ w).alloc (Nat.le_refl _) _
  have k1 : (w.alloc (.cells #[.int .u8 0, .string ⟨#[]⟩, .int .i64 0] 55)).heap[w.heap.size]? = some (.cells #[.int .u8 0, .string ⟨#[]⟩, .int .i64 0] 55 (0, 0)) := heap_alloc_new w _
  have l1 : w.heap.size < (w.alloc (.cells #[.int .u8 0, .string ⟨#[]⟩, .int .i64 0] 55)).heap.size := by simp
  have HSET : Hid (∀ W, Below (w.alloc (.cells #[.int .u8 0, .string ⟨#[]⟩, .int .i64 0] 55)).heap.size (w.alloc (.cells #[.int .u8 0, .string ⟨#[]⟩, .int .i64 0] 55)) W → ∀ u v x, (((W.setCell ⟨w.heap.size, 0, none⟩ u).setCell ⟨w.heap.size, 1, none⟩ v).setCell ⟨w.heap.size, 2, none⟩ x).cell? ⟨w.heap.size, 0, none⟩ = some u ∧ (((W.setCell ⟨w.heap.size, 0, none⟩ u).setCell ⟨w.heap.size, 1, none⟩ v).setCell ⟨w.heap.size, 2, none⟩ x).cell? ⟨w.heap.size, 1, none⟩ = some v ∧ (((W.setCell ⟨w.heap.size, 0, none⟩ u).setCell ⟨w.heap.size, 1, none⟩ v).setCell ⟨w.heap.size, 2, none⟩ x).cell? ⟨w.heap.size, 2, none⟩ = some x ∧ Below w.heap.size w (((W.setCell ⟨w.heap.size, 0, none⟩ u).setCell ⟨w.heap.size, 1, none⟩ v).setCell ⟨w.heap.size, 2, none⟩ x)) := by
    intro W hb u v x
    have h := three_set6 ((hb.block _ l1).trans k1) u v x
    refine ⟨by rw [Lib.cell_of_heap h]; rfl, by rw [Lib.cell_of_heap h]; rfl, by rw [Lib.cell_of_heap h]; rfl, ?_⟩
    exact (((b1.trans (hb.mono b1.size)).setCell (by simp) _).setCell (by simp) _).setCell (by simp) _
  have HCELL : Hid (∀ W, Below (w.alloc (.cells #[.int .u8 0, .string ⟨#[]⟩, .int .i64 0] 55)).heap.size (w.alloc (.cells #[.int .u8 0, .string ⟨#[]⟩, .int .i64 0] 55)) W → W.cell? ⟨w.heap.size, 0, none⟩ = some (.int .u8 0) ∧ W.cell? ⟨w.heap.size, 1, none⟩ = some (.string ⟨#[]⟩) ∧ W.cell? ⟨w.heap.size, 2, none⟩ = some (.int .i64 0) ∧ W.frozen? ⟨w.heap.size, 0, none⟩ = false ∧ W.frozen? ⟨w.heap.size, 1, none⟩ = false ∧ W.frozen? ⟨w.heap.size, 2, none⟩ = false ∧ w.heap.size < W.heap.size) := by
    intro W hb
    have h := (hb.block _ l1).trans k1
    refine ⟨by rw [Lib.cell_of_heap h]; rfl, by rw [Lib.cell_of_heap h]; rfl, by rw [Lib.cell_of_heap h]; rfl, by simp [World.frozen?, h], by simp [World.frozen?, h], by simp [World.frozen?, h], Nat.lt_of_lt_of_le l1 hb.size⟩
  obtain ⟨d0, d1, d2, f0, f1, f2, l2⟩ := HCELL.out _ (Below.refl _ _)
  clear b1 k1 l1
  cases hl : letterB (s[p].toNat : Int)
  rotate_left
  · have ht : tokP (strI s) p = .inr (1, cutL (strI s) p (runE (strI s) p), runE (strI s) p) := by
      unfold tokP; rw [n0, if_pos hl]
    have HO := hid1 (tk_ok ht)
    rw [cut_str] at HO
    have r0 := runE_ge (strI s) p
    have r1 := runE_le (strI s) p (by omega)
    have hR := fun wx => refRun_any s p wx hs' (by omega)
    have hsz : (s.extract p (runE (strI s) p)).size = runE (strI s) p - p := by rw [ByteArray.size_extract]; omega
    rw [hl] at hL
    clear hl n0 ht hD HCELL
    generalize runE (strI s) p = r at *
    generalize s.extract p r = x at *
    go_enter Tryz.func41, Tryz.ntmps41
    go_wp2_with fail
    generalize w.alloc (.cells #[.int .u8 0, .string ⟨#[]⟩, .int .i64 0] 55) = w1 at *
    refine (hL _).mono ?_
    rintro e w2 ⟨rfl, rfl⟩
    go_wp2_with fail
    refine (hR _).mono ?_
    rintro e w2 ⟨rfl, rfl⟩
    go_wp2_with fail
    obtain ⟨e0, e1, e2, hbE⟩ := HSET.out _ (Below.refl _ _) (.int .u8 1) (.string x) (.int .i64 p)
    refine bodyPost_ret (v := .tuple #[.agg #[.int .u8 1, .string x, .int .i64 p], .int .i64 x.size, .int .i64 0]) ?_ rfl ⟨by rw [HO.out.1, HO.out.2.1, HO.out.2.2]; rw [← hsz]; rfl, hbE⟩
    simp only [results, Tryz.results41]
    first | (simp [go_sem, e0, e1, e2]; done) | (simp [go_sem, e0, e1, e2]; omega)
  rw [hl] at hL
  have e0 : ¬ (letterB (nth (strI s) p) = true) := by rw [n0, hl]; simp
  clear hl
  by_cases h37 : (s[p].toNat : Int) = 37
  · have hR := fun wx => refRun_any s (p + 1) wx hs' (by omega)
    have r0 := runE_ge (strI s) (p + 1)
    have r1 := runE_le (strI s) (p + 1) (by omega)
    have hsz : (s.extract (p + 1) (runE (strI s) (p + 1))).size = runE (strI s) (p + 1) - (p + 1) := by rw [ByteArray.size_extract]; omega
    have hP := fun wx => refPlain_any (s.extract (p + 1) (runE (strI s) (p + 1))) wx (by omega)
    have ec : strI (s.extract (p + 1) (runE (strI s) (p + 1))) = cutL (strI s) (p + 1) (runE (strI s) (p + 1)) := by rw [strI_extract]; rfl
    rw [ec] at hP
    have h37' : ((s[p].toNat : Int) == 37) = true := by simpa using h37
    have hpc : ((p : Int) + 1) = ((p + 1 : Nat) : Int) := by omega
    cases hpl : plainB (cutL (strI s) (p + 1) (runE (strI s) (p + 1)))
    · have HO := hid1 (tk_bad (show tokP (strI s) p = .inl 62 by unfold tokP; rw [if_neg e0, if_pos (n0.trans h37), if_neg (by rw [hpl]; simp)]))
      rw [hpl] at hP
      clear hpl n0 e0 hD HCELL h37 ec
      generalize runE (strI s) (p + 1) = r at *
      generalize s.extract (p + 1) r = x at *
      generalize cutL (strI s) (p + 1) r = y at *
      rw [← hpc] at hR
      clear hpc
      go_enter Tryz.func41, Tryz.ntmps41
      go_wp2_with fail
      generalize w.alloc (.cells #[.int .u8 0, .string ⟨#[]⟩, .int .i64 0] 55) = w1 at *
      refine (hL _).mono ?_
      rintro e w2 ⟨rfl, rfl⟩
      go_wp2_with fail
      refine (hR _).mono ?_
      rintro e w2 ⟨rfl, rfl⟩
      go_wp2_with fail
      refine (hP _).mono ?_
      rintro e w2 ⟨⟨z, rfl, _, _⟩, rfl⟩
      go_wp2_with fail
      obtain ⟨e0, e1, e2, hbE⟩ := HSET.out _ (Below.refl _ _) (.int .u8 0) (.string ⟨#[]⟩) (.int .i64 0)
      refine bodyPost_ret (v := .tuple #[.agg #[.int .u8 0, .string ⟨#[]⟩, .int .i64 0], .int .i64 0, .int .i64 62]) ?_ rfl ⟨by rw [HO.out.1, HO.out.2.1, HO.out.2.2]; rfl, hbE⟩
      simp only [results, Tryz.results41]
      first | (simp [go_sem, e0, e1, e2]; done) | (simp [go_sem, e0, e1, e2]; omega)
    · have HO := hid1 (tk_ok (show tokP (strI s) p = .inr (2, cutL (strI s) (p + 1) (runE (strI s) (p + 1)), runE (strI s) (p + 1)) by unfold tokP; rw [if_neg e0, if_pos (n0.trans h37), if_pos hpl]))
      rw [cut_str] at HO
      rw [hpl] at hP
      clear hpl n0 e0 hD HCELL h37 ec
      generalize runE (strI s) (p + 1) = r at *
      generalize s.extract (p + 1) r = x at *
      generalize cutL (strI s) (p + 1) r = y at *
      rw [← hpc] at hR
      clear hpc
      go_enter Tryz.func41, Tryz.ntmps41
      go_wp2_with fail
      generalize w.alloc (.cells #[.int .u8 0, .string ⟨#[]⟩, .int .i64 0] 55) = w1 at *
      refine (hL _).mono ?_
      rintro e w2 ⟨rfl, rfl⟩
      go_wp2_with fail
      refine (hR _).mono ?_
      rintro e w2 ⟨rfl, rfl⟩
      go_wp2_with fail
      refine (hP _).mono ?_
      rintro e w2 ⟨⟨z, rfl, _, _⟩, rfl⟩
      go_wp2_with fail
      obtain ⟨e0, e1, e2, hbE⟩ := HSET.out _ (Below.refl _ _) (.int .u8 2) (.string x) (.int .i64 p)
      refine bodyPost_ret (v := .tuple #[.agg #[.int .u8 2, .string x, .int .i64 p], .int .i64 ((x.size : Int) + 1), .int .i64 0]) ?_ rfl ⟨by rw [HO.out.1, HO.out.2.1, HO.out.2.2]; rw [show r - p = x.size + 1 by omega]; rfl, hbE⟩
      simp only [results, Tryz.results41]
      first | (simp [go_sem, e0, e1, e2]; done) | (simp [go_sem, e0, e1, e2]; omega)
  have e1 : ¬ (nth (strI s) p = 37) := by rw [n0]; exact h37
  have h37' : ((s[p].toNat : Int) == 37) = false := by simpa using h37
  clear h37
  by_cases hdm : (digitB (s[p].toNat : Int) || decide ((s[p].toNat : Int) = 45)) = true
  · have hR := fun wx => refRun_any s (p + 1) wx hs' (by omega)
    have r0 := runE_ge (strI s) (p + 1)
    have r1 := runE_le (strI s) (p + 1) (by omega)
    have hsz : (s.extract (p + 1) (runE (strI s) (p + 1))).size = runE (strI s) (p + 1) - (p + 1) := by rw [ByteArray.size_extract]; omega
    have hsy : (s.extract p (runE (strI s) (p + 1))).size = runE (strI s) (p + 1) - p := by rw [ByteArray.size_extract]; omega
    have hN := fun wx => refNumber_any (s.extract p (runE (strI s) (p + 1))) wx (by omega)
    have ec : strI (s.extract p (runE (strI s) (p + 1))) = cutL (strI s) p (runE (strI s) (p + 1)) := by rw [strI_extract]; rfl
    have hpc : ((p : Int) + 1) = ((p + 1 : Nat) : Int) := by omega
    have e2 : (digitB (nth (strI s) p) || decide (nth (strI s) p = 45)) = true := by rw [n0]; exact hdm
    rw [ec] at hN
    have HOK : Hid (numB (cutL (strI s) p (runE (strI s) (p + 1))) = true → numErr (cutL (strI s) p (runE (strI s) (p + 1))) = 0 ∧ (tkT (strI s) p = (3, s.extract p (runE (strI s) (p + 1)), (p : Int)) ∧ tkN (strI s) p = runE (strI s) (p + 1) - p ∧ tkE (strI s) p = 0)) := fun h => by
      refine ⟨by unfold numErr; rw [h]; rfl, ?_⟩
      have := tk_ok (show tokP (strI s) p = .inr (3, cutL (strI s) p (runE (strI s) (p + 1)), runE (strI s) (p + 1)) by unfold tokP; rw [if_neg e0, if_neg e1, if_pos e2, if_pos h])
      rw [cut_str] at this
      exact this
    have HBAD : Hid (numB (cutL (strI s) p (runE (strI s) (p + 1))) = false → numErr (cutL (strI s) p (runE (strI s) (p + 1))) ≠ 0 ∧ (tkT (strI s) p = (0, ⟨#[]⟩, 0) ∧ tkN (strI s) p = 0 ∧ tkE (strI s) p = 62)) := fun h =>
      ⟨by unfold numErr; rw [h]; decide, tk_bad (by unfold tokP; rw [if_neg e0, if_neg e1, if_pos e2, if_neg (by rw [h]; simp)])⟩
    clear n0 e0 e1 e2 HCELL ec
    have hpr : (p : Int) ≤ (p : Int) + 1 + ((s.extract (p + 1) (runE (strI s) (p + 1))).size : Int) := by omega
    have hqr : (p : Int) + 1 + ((s.extract (p + 1) (runE (strI s) (p + 1))).size : Int) ≤ (s.size : Int) := by omega
    have hrr : ((p : Int) + 1 + ((s.extract (p + 1) (runE (strI s) (p + 1))).size : Int)) = (runE (strI s) (p + 1) : Int) := by omega
    generalize runE (strI s) (p + 1) = r at *
    generalize numOut (cutL (strI s) p r) = no at *
    generalize numErr (cutL (strI s) p r) = ne at *
    rw [← hpc] at hR
    clear hpc
    cases hnb : numB (cutL (strI s) p r)
    · obtain ⟨hne, ho⟩ := HBAD.out hnb
      have HO := hid1 ho
      have hne' : (ne != 0) = true := by simpa using hne
      clear ho HOK HBAD hnb hne
      generalize s.extract (p + 1) r = x at *
      cases hd : digitB (s[p].toNat : Int)
      · have h45 : ((s[p].toNat : Int) == 45) = true := by rw [hd] at hdm; simpa using hdm
        rw [hd] at hD
        clear hd hdm
        go_enter Tryz.func41, Tryz.ntmps41
        go_wp2_with fail
        generalize w.alloc (.cells #[.int .u8 0, .string ⟨#[]⟩, .int .i64 0] 55) = w1 at *
        refine (hL _).mono ?_
        rintro e w2 ⟨rfl, rfl⟩
        go_wp2_with fail
        refine (hD _).mono ?_
        rintro e w2 ⟨rfl, rfl⟩
        go_wp2_with fail
        refine (hR _).mono ?_
        rintro e w2 ⟨rfl, rfl⟩
        go_wp2_with fail
        simp only [show p + 1 + (r - (p + 1)) = r by omega]
        refine (hN _).mono ?_
        rintro e w2 ⟨rfl, rfl⟩
        go_wp2_with fail
        obtain ⟨e0, e1, e2, hbE⟩ := HSET.out _ (Below.refl _ _) (.int .u8 0) (.string ⟨#[]⟩) (.int .i64 0)
        refine bodyPost_ret (v := .tuple #[.agg #[.int .u8 0, .string ⟨#[]⟩, .int .i64 0], .int .i64 0, .int .i64 62]) ?_ rfl ⟨by rw [HO.out.1, HO.out.2.1, HO.out.2.2]; rfl, hbE⟩
        simp only [results, Tryz.results41]
        first | (simp [go_sem, e0, e1, e2]; done) | (simp [go_sem, e0, e1, e2]; omega)
      · rw [hd] at hD
        clear hd hdm
        go_enter Tryz.func41, Tryz.ntmps41
        go_wp2_with fail
        generalize w.alloc (.cells #[.int .u8 0, .string ⟨#[]⟩, .int .i64 0] 55) = w1 at *
        refine (hL _).mono ?_
        rintro e w2 ⟨rfl, rfl⟩
        go_wp2_with fail
        refine (hD _).mono ?_
        rintro e w2 ⟨rfl, rfl⟩
        go_wp2_with fail
        refine (hR _).mono ?_
        rintro e w2 ⟨rfl, rfl⟩
        go_wp2_with fail
        simp only [show p + 1 + (r - (p + 1)) = r by omega]
        refine (hN _).mono ?_
        rintro e w2 ⟨rfl, rfl⟩
        go_wp2_with fail
        obtain ⟨e0, e1, e2, hbE⟩ := HSET.out _ (Below.refl _ _) (.int .u8 0) (.string ⟨#[]⟩) (.int .i64 0)
        refine bodyPost_ret (v := .tuple #[.agg #[.int .u8 0, .string ⟨#[]⟩, .int .i64 0], .int .i64 0, .int .i64 62]) ?_ rfl ⟨by rw [HO.out.1, HO.out.2.1, HO.out.2.2]; rfl, hbE⟩
        simp only [results, Tryz.results41]
        first | (simp [go_sem, e0, e1, e2]; done) | (simp [go_sem, e0, e1, e2]; omega)
    · obtain ⟨hne, ho⟩ := HOK.out hnb
      have HO := hid1 ho
      subst hne
      clear ho HOK HBAD hnb
      generalize s.extract (p + 1) r = x at *
      cases hd : digitB (s[p].toNat : Int)
      · have h45 : ((s[p].toNat : Int) == 45) = true := by rw [hd] at hdm; simpa using hdm
        rw [hd] at hD
        clear hd hdm
        go_enter Tryz.func41, Tryz.ntmps41
        go_wp2_with fail
        generalize w.alloc (.cells #[.int .u8 0, .string ⟨#[]⟩, .int .i64 0] 55) = w1 at *
        refine (hL _).mono ?_
        rintro e w2 ⟨rfl, rfl⟩
        go_wp2_with fail
        refine (hD _).mono ?_
        rintro e w2 ⟨rfl, rfl⟩
        go_wp2_with fail
        refine (hR _).mono ?_
        rintro e w2 ⟨rfl, rfl⟩
        go_wp2_with fail
        simp only [show p + 1 + (r - (p + 1)) = r by omega]
        refine (hN _).mono ?_
        rintro e w2 ⟨rfl, rfl⟩
        go_wp2_with fail
        obtain ⟨e0, e1, e2, hbE⟩ := HSET.out _ (Below.refl _ _) (.int .u8 3) (.string (s.extract p r)) (.int .i64 p)
        refine bodyPost_ret (v := .tuple #[.agg #[.int .u8 3, .string (s.extract p r), .int .i64 p], .int .i64 ((s.extract p r).size : Int), .int .i64 0]) ?_ rfl ⟨by rw [HO.out.1, HO.out.2.1, HO.out.2.2]; rw [← hsy]; rfl, hbE⟩
        simp only [results, Tryz.results41]
        first | (simp [go_sem, e0, e1, e2]; done) | (simp [go_sem, e0, e1, e2]; omega)
      · rw [hd] at hD
        clear hd hdm
        go_enter Tryz.func41, Tryz.ntmps41
        go_wp2_with fail
        generalize w.alloc (.cells #[.int .u8 0, .string ⟨#[]⟩, .int .i64 0] 55) = w1 at *
        refine (hL _).mono ?_
        rintro e w2 ⟨rfl, rfl⟩
        go_wp2_with fail
        refine (hD _).mono ?_
        rintro e w2 ⟨rfl, rfl⟩
        go_wp2_with fail
        refine (hR _).mono ?_
        rintro e w2 ⟨rfl, rfl⟩
        go_wp2_with fail
        simp only [show p + 1 + (r - (p + 1)) = r by omega]
        refine (hN _).mono ?_
        rintro e w2 ⟨rfl, rfl⟩
        go_wp2_with fail
        obtain ⟨e0, e1, e2, hbE⟩ := HSET.out _ (Below.refl _ _) (.int .u8 3) (.string (s.extract p r)) (.int .i64 p)
        refine bodyPost_ret (v := .tuple #[.agg #[.int .u8 3, .string (s.extract p r), .int .i64 p], .int .i64 ((s.extract p r).size : Int), .int .i64 0]) ?_ rfl ⟨by rw [HO.out.1, HO.out.2.1, HO.out.2.2]; rw [← hsy]; rfl, hbE⟩
        simp only [results, Tryz.results41]
        first | (simp [go_sem, e0, e1, e2]; done) | (simp [go_sem, e0, e1, e2]; omega)
  have e2 : ¬ ((digitB (nth (strI s) p) || decide (nth (strI s) p = 45)) = true) := by rw [n0]; exact hdm
  have hd : digitB (s[p].toNat : Int) = false := by cases h : digitB (s[p].toNat : Int) <;> simp [h] at hdm ⊢
  have h45 : ((s[p].toNat : Int) == 45) = false := by rw [hd] at hdm; simpa using hdm
  rw [hd] at hD
  clear hdm hd
  by_cases h34 : (s[p].toNat : Int) = 34
  · have hQ := fun wx => refQuoted_any s p wx hs hp
    have h34' : ((s[p].toNat : Int) == 34) = true := by simpa using h34
    cases hq : quotP (strI s) (p + 1) with
    | none =>
      have HO := hid1 (tk_bad (show tokP (strI s) p = .inl 61 by unfold tokP; rw [if_neg e0, if_neg e1, if_neg e2, if_pos (n0.trans h34), hq]))
      have q1 : quotN6 (strI s) p = 0 := by unfold quotN6; rw [hq]
      rw [q1] at hQ
      generalize strOfNums (quotR6 (strI s) p) = x at *
      clear hq n0 e0 e1 e2 q1 h34
      go_enter Tryz.func41, Tryz.ntmps41
      go_wp2_with fail
      generalize w.alloc (.cells #[.int .u8 0, .string ⟨#[]⟩, .int .i64 0] 55) = w1 at *
      refine (hL _).mono ?_
      rintro e w2 ⟨rfl, rfl⟩
      go_wp2_with fail
      refine (hD _).mono ?_
      rintro e w2 ⟨rfl, rfl⟩
      go_wp2_with fail
      refine (hQ _).mono ?_
      rintro e w2 ⟨rfl, hb2⟩
      obtain ⟨d0, d1, d2, f0, f1, f2, l2⟩ := HCELL.out _ hb2
      clear HCELL
      go_wp2_with fail
      obtain ⟨e0, e1, e2, hbE⟩ := HSET.out _ (hb2) (.int .u8 0) (.string ⟨#[]⟩) (.int .i64 0)
      refine bodyPost_ret (v := .tuple #[.agg #[.int .u8 0, .string ⟨#[]⟩, .int .i64 0], .int .i64 0, .int .i64 61]) ?_ rfl ⟨by rw [HO.out.1, HO.out.2.1, HO.out.2.2]; rfl, hbE⟩
      simp only [results, Tryz.results41]
      first | (simp [go_sem, e0, e1, e2]; done) | (simp [go_sem, e0, e1, e2]; omega)
    | some x =>
      obtain ⟨b, q⟩ := x
      have HO := hid1 (tk_ok (show tokP (strI s) p = .inr (4, b, q) by unfold tokP; rw [if_neg e0, if_neg e1, if_neg e2, if_pos (n0.trans h34), hq]))
      have hend := quotP_end hq
      have q1 : quotN6 (strI s) p = q - p := by unfold quotN6; rw [hq]
      have q2 : quotR6 (strI s) p = b := by unfold quotR6; rw [hq]
      rw [q1, q2] at hQ
      have hnz : (((q - p : Nat) : Int) == 0) = false := by simp; omega
      generalize strOfNums b = x at *
      generalize q - p = m at *
      clear hq n0 e0 e1 e2 q1 q2 h34 hend
      go_enter Tryz.func41, Tryz.ntmps41
      go_wp2_with fail
      generalize w.alloc (.cells #[.int .u8 0, .string ⟨#[]⟩, .int .i64 0] 55) = w1 at *
      refine (hL _).mono ?_
      rintro e w2 ⟨rfl, rfl⟩
      go_wp2_with fail
      refine (hD _).mono ?_
      rintro e w2 ⟨rfl, rfl⟩
      go_wp2_with fail
      refine (hQ _).mono ?_
      rintro e w2 ⟨rfl, hb2⟩
      obtain ⟨d0, d1, d2, f0, f1, f2, l2⟩ := HCELL.out _ hb2
      clear HCELL
      go_wp2_with fail
      obtain ⟨e0, e1, e2, hbE⟩ := HSET.out _ (hb2) (.int .u8 4) (.string x) (.int .i64 p)
      refine bodyPost_ret (v := .tuple #[.agg #[.int .u8 4, .string x, .int .i64 p], .int .i64 m, .int .i64 0]) ?_ rfl ⟨by rw [HO.out.1, HO.out.2.1, HO.out.2.2]; rfl, hbE⟩
      simp only [results, Tryz.results41]
      first | (simp [go_sem, e0, e1, e2]; done) | (simp [go_sem, e0, e1, e2]; omega)
  have e3 : ¬ (nth (strI s) p = 34) := by rw [n0]; exact h34
  have h34' : ((s[p].toNat : Int) == 34) = false := by simpa using h34
  clear h34
  by_cases h61 : (s[p].toNat : Int) = 61
  · have HO := hid1 (tk_ok (show tokP (strI s) p = .inr (5, [61], p + 1) by unfold tokP; rw [if_neg e0, if_neg e1, if_neg e2, if_neg e3, if_pos (n0.trans h61)]))
    have h61' : ((s[p].toNat : Int) == 61) = true := by simpa using h61
    clear n0 e0 e1 e2 e3 h61 HCELL
    go_enter Tryz.func41, Tryz.ntmps41
    go_wp2_with fail
    generalize w.alloc (.cells #[.int .u8 0, .string ⟨#[]⟩, .int .i64 0] 55) = w1 at *
    refine (hL _).mono ?_
    rintro e w2 ⟨rfl, rfl⟩
    go_wp2_with fail
    refine (hD _).mono ?_
    rintro e w2 ⟨rfl, rfl⟩
    go_wp2_with fail
    obtain ⟨e0, e1, e2, hbE⟩ := HSET.out _ (Below.refl _ _) (.int .u8 5) (.string ⟨#[61]⟩) (.int .i64 p)
    refine bodyPost_ret (v := .tuple #[.agg #[.int .u8 5, .string ⟨#[61]⟩, .int .i64 p], .int .i64 1, .int .i64 0]) ?_ rfl ⟨by rw [HO.out.1, HO.out.2.1, HO.out.2.2]; rw [show p + 1 - p = 1 by omega]; rfl, hbE⟩
    simp only [results, Tryz.results41]
    first | (simp [go_sem, e0, e1, e2]; done) | (simp [go_sem, e0, e1, e2]; omega)
  · have HO := hid1 (tk_bad (show tokP (strI s) p = .inl 60 by unfold tokP; rw [if_neg e0, if_neg e1, if_neg e2, if_neg e3, if_neg (by rw [n0]; exact h61)]))
    have h61' : ((s[p].toNat : Int) == 61) = false := by simpa using h61
    clear n0 e0 e1 e2 e3 h61 HCELL
    go_enter Tryz.func41, Tryz.ntmps41
    go_wp2_with fail
    generalize w.alloc (.cells #[.int .u8 0, .string ⟨#[]⟩, .int .i64 0] 55) = w1 at *
    refine (hL _).mono ?_
    rintro e w2 ⟨rfl, rfl⟩
    go_wp2_with fail
    refine (hD _).mono ?_
    rintro e w2 ⟨rfl, rfl⟩
    go_wp2_with fail
    obtain ⟨e0, e1, e2, hbE⟩ := HSET.out _ (Below.refl _ _) (.int .u8 0) (.string ⟨#[]⟩) (.int .i64 0)
    refine bodyPost_ret (v := .tuple #[.agg #[.int .u8 0, .string ⟨#[]⟩, .int .i64 0], .int .i64 0, .int .i64 60]) ?_ rfl ⟨by rw [HO.out.1, HO.out.2.1, HO.out.2.2]; rfl, hbE⟩
    simp only [results, Tryz.results41]
    first | (simp [go_sem, e0, e1, e2]; done) | (simp [go_sem, e0, e1, e2]; omega)

end Go.Proofs.YtbkkmabmkonnbaaGreat

/-
  Tokens of the document's answer: the tokens of the line in new memory. Nothing that was there turns.
-/
namespace Go.Proofs.YtbkkmabmkonnbaaGreat
open Go.RowKit
set_option maxRecDepth 10000
set_option linter.unusedVariables false
set_option linter.unusedSimpArgs false

theorem tokP_err {l : List Int} {p : Nat} {e : Int} (h : tokP l p = .inl e) : e ≠ 0 := by
  unfold tokP at h
  repeat' split at h
  all_goals first | (cases h; decide) | (cases h; done)
theorem allocOld2 {w : World} {k : Nat} {x : Obj} (h : w.heap[k]? = some x) (o : Obj) : (w.alloc o).heap[k]? = some x := (Below.heap_alloc _ _ _ (Array.getElem?_eq_some_iff.1 h).1).trans h
theorem own_low {w : World} {B B' e size n : Nat} {v : Value} {xs : List Value} (h : w.ownsRow B e size v n xs) (hB : B' ≤ B) : w.ownsRow B' e size v n xs := by
  refine ⟨h.1, ?_⟩
  rcases h.2 with hn | ⟨g, cap, cur, e1, e2, rest⟩
  · exact .inl hn
  · exact .inr ⟨g, cap, cur, e1, Nat.le_trans hB e2, rest⟩

set_option maxHeartbeats 4000000 in
theorem refTokens_any (s : ByteArray) (w : World) (hs : s.size ≤ 16777216) :
    Calls Tryz.prog 19 #[.string s] w fun e w' => ∃ v, e = .returned (.tuple #[v, .agg #[.int .i64 (toksP (strI s) 0).2.1, .int .i64 (toksP (strI s) 0).2.2]]) ∧ w'.ownsRow w.heap.size 55 3 v (toksP (strI s) 0).1.length ((toksP (strI s) 0).1.flatMap tokC) ∧ Below w.heap.size w w' := by
  obtain ⟨i0, hi, hz0, hz1, hz2⟩ := info_parts TokMake.info
  have HLEN := hid1 (strI_len s)
  have HJ0 : Hid (joinR [] (toksP (strI s) 0) = toksP (strI s) 0) := join_nil _ _
  have HEND : Hid (∀ acc k, ¬ (k < s.size ∧ nth (strI s) k ≠ 59) → joinR acc (toksP (strI s) k) = toksP (strI s) 0 → toksP (strI s) 0 = (acc, 0, 0)) := fun acc k h1 h2 => by
    rw [← h2, toksP_end (by rw [strI_len]; exact h1)]; simp [joinR]
  have HBL : Hid (∀ acc k, k < s.size → blankB (nth (strI s) k) = true → joinR acc (toksP (strI s) k) = toksP (strI s) 0 → joinR acc (toksP (strI s) (k + 1)) = toksP (strI s) 0) := fun acc k h1 h2 h3 => by
    rw [← toksP_blank (by rw [strI_len]; exact h1) h2]; exact h3
  have HER : Hid (∀ acc k e, k < s.size → nth (strI s) k ≠ 59 → blankB (nth (strI s) k) = false → tokP (strI s) k = .inl e → joinR acc (toksP (strI s) k) = toksP (strI s) 0 → toksP (strI s) 0 = ([], e, (k : Int))) := fun acc k e h1 h2 h3 h4 h5 => by
    rw [← h5, toksP_err (by rw [strI_len]; exact h1) h2 h3 h4]; simp [joinR, tokP_err h4]
  have HTK : Hid (∀ acc k kd t q, k < s.size → nth (strI s) k ≠ 59 → blankB (nth (strI s) k) = false → tokP (strI s) k = .inr (kd, t, q) → joinR acc (toksP (strI s) k) = toksP (strI s) 0 → joinR (acc ++ [(kd, strOfNums t, (k : Int))]) (toksP (strI s) q) = toksP (strI s) 0 ∧ k + 1 ≤ q ∧ q ≤ s.size) := fun acc k kd t q h1 h2 h3 h4 h5 => by
    have he := tokP_end (by rw [strI_len]; exact h1) h4
    rw [strI_len] at he
    refine ⟨?_, he.1, he.2⟩
    rw [← join_cons, ← toksP_tok (by rw [strI_len]; exact h1) h2 h3 h4]; exact h5
  have b1 : Below w.heap.size w (w.alloc (.cells #[.int .i64 0, .int .i64 0] 29)) := (Below.refl _ w).alloc (Nat.le_refl _) _
  have k1 : (w.alloc (.cells #[.int .i64 0, .int .i64 0] 29)).heap[w.heap.size]? = some (.cells #[.int .i64 0, .int .i64 0] 29 (0, 0)) := heap_alloc_new w _
  generalize hRR : toksP (strI s) 0 = R at *
  have HOUT : Hid (∀ (W : World), Below w.heap.size w W → W.heap[w.heap.size]? = some (.cells #[.int .i64 0, .int .i64 0] 29 (0, 0)) → ∀ u v, ((W.setCell ⟨w.heap.size, 0, none⟩ (.int .i64 u)).setCell ⟨w.heap.size, 1, none⟩ (.int .i64 v)).cell? ⟨w.heap.size, 0, none⟩ = some (.int .i64 u) ∧ ((W.setCell ⟨w.heap.size, 0, none⟩ (.int .i64 u)).setCell ⟨w.heap.size, 1, none⟩ (.int .i64 v)).cell? ⟨w.heap.size, 1, none⟩ = some (.int .i64 v) ∧ Below w.heap.size w ((W.setCell ⟨w.heap.size, 0, none⟩ (.int .i64 u)).setCell ⟨w.heap.size, 1, none⟩ (.int .i64 v)) ∧ W.cell? ⟨w.heap.size, 0, none⟩ = some (.int .i64 0) ∧ W.cell? ⟨w.heap.size, 1, none⟩ = some (.int .i64 0) ∧ W.frozen? ⟨w.heap.size, 0, none⟩ = false ∧ W.frozen? ⟨w.heap.size, 1, none⟩ = false) := by
    intro W hb hsp u v
    have h := spot_put hsp (.int .i64 u) (.int .i64 v)
    exact ⟨by rw [Lib.cell_of_heap h]; rfl, by rw [Lib.cell_of_heap h]; rfl, (hb.setCell (by simp) _).setCell (by simp) _, by rw [Lib.cell_of_heap hsp]; rfl, by rw [Lib.cell_of_heap hsp]; rfl, Lib.frozen_of_heap hsp 0, Lib.frozen_of_heap hsp 1⟩
  go_enter Tryz.func19, Tryz.ntmps19
  go_wp2_with fail
  go_loopw [4, 5] (fun v i wr => ∃ (k : Nat) (acc : List TokT), k ≤ s.size ∧ i = .int .i64 k ∧ acc.length ≤ k ∧ Hid (joinR acc (toksP (strI s) k) = R) ∧ wr.ownsRow (w.heap.size + 1) 55 3 v acc.length (acc.flatMap tokC) ∧ wr.heap[w.heap.size]? = some (.cells #[.int .i64 0, .int .i64 0] 29 (0, 0)) ∧ Below w.heap.size w wr) (fun _ i _ => s.size - (intOf i).toNat)
  case atStart => exact ⟨0, [], Nat.zero_le _, rfl, Nat.le_refl _, by show _ = _; rw [hRR]; exact HJ0.out, World.ownsRow_nil _ _ _ _, k1, b1⟩
  case round =>
    obtain ⟨k, acc, hk, rfl, hal, HI, hrow, hsp, hbel⟩ := hrel
    have hsz := hbel.size
    have hwl : w.heap.size < wr.heap.size := (Array.getElem?_eq_some_iff.1 hsp).1
    clear k1 b1
    by_cases hlt : k < s.size
    · have hki : (k : Int) < (s.size : Int) := by omega
      have nk := nth_strI s k hlt
      obtain ⟨c0, c1⟩ := byte_lo s k hlt
      by_cases h59 : (s[k].toNat : Int) = 59
      · have HO := hid1 (HEND.out acc k (fun h => h.2 (nk.trans h59)) HI.out)
        obtain ⟨e0, e1, hbE, z0, z1, f0, f1⟩ := HOUT.out wr hbel hsp 0 0
        have h59' : ((s[k].toNat : Int) != 59) = false := by simpa using h59
        have HROW := hid1 (own_low (ownsRow_setCell_below (ownsRow_setCell_below hrow (a := ⟨w.heap.size, 0, none⟩) (by simp) (.int .i64 0)) (a := ⟨w.heap.size, 1, none⟩) (by simp) (.int .i64 0)) (Nat.le_succ _))
        have HBE := hid1 hbE
        have E0 := hid1 e0
        have E1 := hid1 e1
        clear HI nk h59 HEND HBL HER HTK hrow hbel hsp HOUT hbE e0 e1 HJ0 hRR
        go_wp2_with fail
        refine bodyPost_ret (v := .tuple #[u4, .agg #[.int .i64 0, .int .i64 0]]) ?_ rfl ⟨u4, by rw [HO.out], by rw [HO.out]; exact HROW.out, HBE.out⟩
        simp only [results, Tryz.results19]
        simp [go_sem, E0.out, E1.out]
      have h59' : ((s[k].toNat : Int) != 59) = true := by simpa using h59
      have hB := fun wx => refBlank_any (s[k].toNat : Int) wx c0 c1
      cases hbl : blankB (s[k].toNat : Int)
      · have hT := fun wx => refToken_any s k wx hs hlt
        cases htk : tokP (strI s) k with
        | inl er =>
          have hne := tokP_err htk
          have HO := hid1 (HER.out acc k er hlt (by rw [nk]; exact h59) (by rw [nk]; exact hbl) htk HI.out)
          obtain ⟨q1, q2, q3⟩ := tk_bad htk
          rw [q1, q2, q3] at hT
          rw [hbl] at hB
          have hne' : (er != 0) = true := by simpa using hne
          clear hbl htk nk h59 HEND HBL HER HTK HI q1 q2 q3 HJ0 hRR hne
          unfold tokV at hT
          go_wp2_with fail
          refine (hB _).mono ?_
          rintro e w2 ⟨rfl, rfl⟩
          go_wp2_with fail
          refine (hT _).mono ?_
          rintro e w2 ⟨rfl, hb2⟩
          have hsp2 := (hb2.block _ hwl).trans hsp
          have hbel2 := hbel.trans (hb2.mono hsz)
          have hlt2 : w.heap.size < w2.heap.size := Nat.lt_of_lt_of_le hwl hb2.size
          obtain ⟨e0, e1, hbE, z0, z1, f0, f1⟩ := HOUT.out w2 hbel2 hsp2 er k
          have hX : w.heap.size < ((w2.setCell ⟨w.heap.size, 0, none⟩ (.int .i64 er)).setCell ⟨w.heap.size, 1, none⟩ (.int .i64 k)).heap.size := by simpa [World.setCell] using hlt2
          have HBE := hid1 (hbE.alloc hbE.size (.cells #[.int .u8 0, .string ⟨#[]⟩, .int .i64 0] 55))
          have E0 := hid1 ((((Below.refl _ ((w2.setCell ⟨w.heap.size, 0, none⟩ (.int .i64 er)).setCell ⟨w.heap.size, 1, none⟩ (.int .i64 k))).alloc (Nat.le_refl _) (.cells #[.int .u8 0, .string ⟨#[]⟩, .int .i64 0] 55)).cell (p := ⟨w.heap.size, 0, none⟩) hX).trans e0)
          have E1 := hid1 ((((Below.refl _ ((w2.setCell ⟨w.heap.size, 0, none⟩ (.int .i64 er)).setCell ⟨w.heap.size, 1, none⟩ (.int .i64 k))).alloc (Nat.le_refl _) (.cells #[.int .u8 0, .string ⟨#[]⟩, .int .i64 0] 55)).cell (p := ⟨w.heap.size, 1, none⟩) hX).trans e1)
          clear HOUT hbE e0 e1 hsp hbel hrow hb2 hsp2 hbel2 hX
          go_wp2_with fail
          refine bodyPost_ret (v := .tuple #[.slice none 0 0, .agg #[.int .i64 er, .int .i64 k]]) ?_ rfl ⟨_, by rw [HO.out], by rw [HO.out]; exact World.ownsRow_nil _ _ _ _, HBE.out⟩
          simp only [results, Tryz.results19]
          have E0 := E0.out
          have E1 := E1.out
          generalize ((w2.setCell ⟨w.heap.size, 0, none⟩ (.int .i64 er)).setCell ⟨w.heap.size, 1, none⟩ (.int .i64 k)).alloc (.cells #[.int .u8 0, .string ⟨#[]⟩, .int .i64 0] 55) = WF at *
          simp [go_sem, E0, E1]
        | inr x =>
          obtain ⟨kd, t, q⟩ := x
          obtain ⟨j1, j2, j3⟩ := HTK.out acc k kd t q hlt (by rw [nk]; exact h59) (by rw [nk]; exact hbl) htk HI.out
          have HN := hid1 j1
          obtain ⟨q1, q2, q3⟩ := tk_ok htk
          rw [q1, q2, q3] at hT
          rw [hbl] at hB
          clear hbl htk nk h59 HEND HBL HER HTK HI q1 q2 q3 HJ0 hRR HOUT j1
          unfold tokV at hT
          simp only at hT
          generalize strOfNums t = st at *
          have hqk : (k : Int) + ((q - k : Nat) : Int) = (q : Int) := by omega
          go_wp2_with fail
          refine (hB _).mono ?_
          rintro e w2 ⟨rfl, rfl⟩
          go_wp2_with fail
          refine (hT _).mono ?_
          rintro e w2 ⟨rfl, hb2⟩
          have hsp2 := (hb2.block _ hwl).trans hsp
          have hbel2 := hbel.trans (hb2.mono hsz)
          have hlt2 : w.heap.size < w2.heap.size := Nat.lt_of_lt_of_le hwl hb2.size
          have hrow2 := own_below hrow hb2
          have hsp3 := allocOld2 (allocOld2 hsp2 (.cells #[.int .u8 kd, .string st, .int .i64 k] 55)) (.cells #[.int .u8 kd, .string st, .int .i64 k] 55)
          have hbel3 := (hbel2.alloc hbel2.size (.cells #[.int .u8 kd, .string st, .int .i64 k] 55)).alloc (by have := hbel2.size; simp; omega) (.cells #[.int .u8 kd, .string st, .int .i64 k] 55)
          have hra := World.ownsRow.alloc (World.ownsRow.alloc hrow2 (.cells #[.int .u8 kd, .string st, .int .i64 k] 55)) (.cells #[.int .u8 kd, .string st, .int .i64 k] 55)
          have hnone : ∀ kk, u4.ownBlock = some kk → w.heap.size + 1 ≤ kk := fun kk e => (World.ownsRow.lt hrow2 kk e).1
          clear hsp hbel hrow hb2 hsp2 hbel2 hrow2
          go_wp2_with (at_builtin; refine wpList_append_own _ rfl (.tmp 37) (.tmp 39) 50 rfl (w.heap.size + 1) 55 i0 (.agg #[.int .u8 0, .string ⟨#[]⟩, .int .i64 0]) 3 32 Tryz.underlying50 hi hz0 hz1 hz2 rfl (by decide) _ acc.length (acc.flatMap tokC) rfl hra ⟨w2.heap.size + 1, 0, none⟩ 1 1 [.int .u8 kd, .string st, .int .i64 k] rfl rfl ?c1 ?c2 ?c3 ?c4 ?c5 ?_)
          case c1 =>
            intro j u hj
            match j, hj with
            | 0, hj => simp at hj; subst hj; simp [Addr.add]
            | 1, hj => simp at hj; subst hj; simp [Addr.add]
            | 2, hj => simp at hj; subst hj; simp [Addr.add]
          case c2 => intro u hu; simp at hu; rcases hu with rfl | rfl | rfl <;> rfl
          case c3 => unfold maxLen; omega
          case c4 => omega
          case c5 => simp; omega
          intro v2 w3 hown3 hgr3 _
          have hsp4 := (hgr3.block w.heap.size (by simp; omega) (fun e => by have := hnone _ e.symm; omega)).trans hsp3
          have hb4 : Below w.heap.size w w3 := hbel3.grown hgr3 (by simp; omega) (fun kk e => by have := hnone kk e; omega)
          have hrow4 : w3.ownsRow (w.heap.size + 1) 55 3 v2 (acc ++ [(kd, st, (k : Int))]).length ((acc ++ [(kd, st, (k : Int))]).flatMap tokC) := by
            rw [flatT_push, List.length_append]; exact hown3
          clear hown3 hgr3 hra hsp3 hbel3
          go_wp2_with fail
          go_roundw
          case rel => exact ⟨q, acc ++ [(kd, st, (k : Int))], j3, by first | rfl | (rw [hqk]) | go_num, by simp; omega, HN, hrow4, hsp4, hb4⟩
          case measure => simp [intOf]; omega
      · have HN := hid1 (HBL.out acc k hlt (by rw [nk]; exact hbl) HI.out)
        rw [hbl] at hB
        clear hbl nk h59 HEND HBL HER HTK HI HJ0 hRR HOUT
        go_wp2_with fail
        refine (hB _).mono ?_
        rintro e w2 ⟨rfl, rfl⟩
        go_wp2_with fail
        go_roundw
        case rel => exact ⟨k + 1, acc, by omega, by go_num, by omega, HN, hrow, hsp, hbel⟩
        case measure => simp [intOf]; omega
    · obtain rfl : k = s.size := by omega
      have HO := hid1 (HEND.out acc s.size (fun h => by omega) HI.out)
      obtain ⟨e0, e1, hbE, z0, z1, f0, f1⟩ := HOUT.out wr hbel hsp 0 0
      have HROW := hid1 (own_low (ownsRow_setCell_below (ownsRow_setCell_below hrow (a := ⟨w.heap.size, 0, none⟩) (by simp) (.int .i64 0)) (a := ⟨w.heap.size, 1, none⟩) (by simp) (.int .i64 0)) (Nat.le_succ _))
      have HBE := hid1 hbE
      have E0 := hid1 e0
      have E1 := hid1 e1
      clear HI HEND HBL HER HTK hrow hbel hsp HOUT hbE e0 e1 HJ0 hRR
      go_wp2_with fail
      refine bodyPost_ret (v := .tuple #[u4, .agg #[.int .i64 0, .int .i64 0]]) ?_ rfl ⟨u4, by rw [HO.out], by rw [HO.out]; exact HROW.out, HBE.out⟩
      simp only [results, Tryz.results19]
      simp [go_sem, E0.out, E1.out]

end Go.Proofs.YtbkkmabmkonnbaaGreat
