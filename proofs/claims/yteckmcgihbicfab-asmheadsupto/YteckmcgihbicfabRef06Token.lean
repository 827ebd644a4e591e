/-
  Token of the document's answer. Nothing that was there turns.
-/
import Derived.WalkSpells
import Derived.WalkMore
import Derived.Deep.QuietTactic
import Derived.BigQuiet
import Derived.Test.YteckmcgihbicfabProg
import Derived.Test.YteckmcgihbicfabToks
import Derived.Test.YteckmcgihbicfabRef06Quoted
namespace Go.Proofs.Yteckmcgihbicfab
open Go.RowKit
set_option maxRecDepth 10000
set_option linter.unusedVariables false
set_option linter.unusedSimpArgs false

/-- What Token answers: the token, how many bytes it is, what is wrong. -/
def tkT (l : List Int) (p : Nat) : TokT := match tokP l p with
  | .inr x => (x.1, strOfNums x.2.1, (p : Int))
  | .inl _ => (0, ⟨#[]⟩, 0)
def tkN (l : List Int) (p : Nat) : Nat := match tokP l p with
  | .inr x => x.2.2 - p
  | .inl _ => 0
def tkE (l : List Int) (p : Nat) : Int := match tokP l p with
  | .inr _ => 0
  | .inl e => e
theorem tk_ok {l : List Int} {p q : Nat} {k : Int} {t : List Int} (h : tokP l p = .inr (k, t, q)) : tkT l p = (k, strOfNums t, (p : Int)) ∧ tkN l p = q - p ∧ tkE l p = 0 := by
  unfold tkT tkN tkE; rw [h]; exact ⟨rfl, rfl, rfl⟩
theorem tk_bad {l : List Int} {p : Nat} {e : Int} (h : tokP l p = .inl e) : tkT l p = (0, ⟨#[]⟩, 0) ∧ tkN l p = 0 ∧ tkE l p = e := by
  unfold tkT tkN tkE; rw [h]; exact ⟨rfl, rfl, rfl⟩
theorem cut_str (s : ByteArray) (a b : Nat) : strOfNums (cutL (strI s) a b) = s.extract a b := by
  have : cutL (strI s) a b = strI (s.extract a b) := by rw [strI_extract]; rfl
  rw [this, str_of_strI]
theorem three_set {W : World} {g T : Nat} {a b c : Value} (h : W.heap[g]? = some (.cells #[a, b, c] T (0, 0))) (u v x : Value) :
    (((W.setCell ⟨g, 0, none⟩ u).setCell ⟨g, 1, none⟩ v).setCell ⟨g, 2, none⟩ x).heap[g]? = some (.cells #[u, v, x] T (0, 0)) := by
  simp only [World.setCell, Array.getElem?_modify, h]; simp

set_option maxHeartbeats 4000000 in
theorem refToken_any (s : ByteArray) (p : Nat) (w : World) (hs : s.size ≤ 16777216) (hp : p < s.size) :
    Calls Try.prog 38 #[.string s, .int .i64 p] w fun e w' => e = .returned (.tuple #[tokV (tkT (strI s) p), .int .i64 (tkN (strI s) p), .int .i64 (tkE (strI s) p)]) ∧ Below w.heap.size w w' := by
  have hs' : s.size ≤ 140737488351232 := by omega
  have hpi : (p : Int) < (s.size : Int) := by omega
  have n0 := nth_strI s p hp
  have HLEN := strI_len s
  obtain ⟨c0, c1⟩ := byte_lo s p hp
  have hL := fun wx => refLetter_any (s[p].toNat : Int) wx c0 c1
  have hD := fun wx => refDigit_any (s[p].toNat : Int) wx c0 c1
  have b1 : Below w.heap.size w (w.alloc (.cells #[.int .u8 0, .string ⟨#[]⟩, .int .i64 0] 77)) := (Below.refl _ w).alloc (Nat.le_refl _) _
  have k1 : (w.alloc (.cells #[.int .u8 0, .string ⟨#[]⟩, .int .i64 0] 77)).heap[w.heap.size]? = some (.cells #[.int .u8 0, .string ⟨#[]⟩, .int .i64 0] 77 (0, 0)) := heap_alloc_new w _
  have l1 : w.heap.size < (w.alloc (.cells #[.int .u8 0, .string ⟨#[]⟩, .int .i64 0] 77)).heap.size := by simp
  have HSET : Hid (∀ W, Below (w.alloc (.cells #[.int .u8 0, .string ⟨#[]⟩, .int .i64 0] 77)).heap.size (w.alloc (.cells #[.int .u8 0, .string ⟨#[]⟩, .int .i64 0] 77)) W → ∀ u v x, (((W.setCell ⟨w.heap.size, 0, none⟩ u).setCell ⟨w.heap.size, 1, none⟩ v).setCell ⟨w.heap.size, 2, none⟩ x).cell? ⟨w.heap.size, 0, none⟩ = some u ∧ (((W.setCell ⟨w.heap.size, 0, none⟩ u).setCell ⟨w.heap.size, 1, none⟩ v).setCell ⟨w.heap.size, 2, none⟩ x).cell? ⟨w.heap.size, 1, none⟩ = some v ∧ (((W.setCell ⟨w.heap.size, 0, none⟩ u).setCell ⟨w.heap.size, 1, none⟩ v).setCell ⟨w.heap.size, 2, none⟩ x).cell? ⟨w.heap.size, 2, none⟩ = some x ∧ Below w.heap.size w (((W.setCell ⟨w.heap.size, 0, none⟩ u).setCell ⟨w.heap.size, 1, none⟩ v).setCell ⟨w.heap.size, 2, none⟩ x)) := by
    intro W hb u v x
    have h := three_set ((hb.block _ l1).trans k1) u v x
    refine ⟨by rw [Lib.cell_of_heap h]; rfl, by rw [Lib.cell_of_heap h]; rfl, by rw [Lib.cell_of_heap h]; rfl, ?_⟩
    exact (((b1.trans (hb.mono b1.size)).setCell (by simp) _).setCell (by simp) _).setCell (by simp) _
  have HCELL : Hid (∀ W, Below (w.alloc (.cells #[.int .u8 0, .string ⟨#[]⟩, .int .i64 0] 77)).heap.size (w.alloc (.cells #[.int .u8 0, .string ⟨#[]⟩, .int .i64 0] 77)) W → W.cell? ⟨w.heap.size, 0, none⟩ = some (.int .u8 0) ∧ W.cell? ⟨w.heap.size, 1, none⟩ = some (.string ⟨#[]⟩) ∧ W.cell? ⟨w.heap.size, 2, none⟩ = some (.int .i64 0) ∧ W.frozen? ⟨w.heap.size, 0, none⟩ = false ∧ W.frozen? ⟨w.heap.size, 1, none⟩ = false ∧ W.frozen? ⟨w.heap.size, 2, none⟩ = false ∧ w.heap.size < W.heap.size) := by
    intro W hb
    have h := (hb.block _ l1).trans k1
    refine ⟨by rw [Lib.cell_of_heap h]; rfl, by rw [Lib.cell_of_heap h]; rfl, by rw [Lib.cell_of_heap h]; rfl, by simp [World.frozen?, h], by simp [World.frozen?, h], by simp [World.frozen?, h], Nat.lt_of_lt_of_le l1 hb.size⟩
  obtain ⟨d0, d1, d2, f0, f1, f2, l2⟩ := HCELL.out _ (Below.refl _ _)
  clear b1 k1 l1
  cases hl : letterB (s[p].toNat : Int)
  rotate_left
  · have ht : tokP (strI s) p = .inr (1, cutL (strI s) p (runE (strI s) p), runE (strI s) p) := by
      unfold tokP; rw [n0, if_pos hl]
    have HO := hid1 (tk_ok ht)
    rw [cut_str] at HO
    have r0 := runE_ge (strI s) p
    have r1 := runE_le (strI s) p (by omega)
    have hR := fun wx => refRun_any s p wx hs' (by omega)
    have hsz : (s.extract p (runE (strI s) p)).size = runE (strI s) p - p := by rw [ByteArray.size_extract]; omega
    rw [hl] at hL
    clear hl n0 ht hD HCELL
    generalize runE (strI s) p = r at *
    generalize s.extract p r = x at *
    go_enter Try.func38, Try.ntmps38
    go_wp2_with fail
    generalize w.alloc (.cells #[.int .u8 0, .string ⟨#[]⟩, .int .i64 0] 77) = w1 at *
    refine (hL _).mono ?_
    rintro e w2 ⟨rfl, rfl⟩
    go_wp2_with fail
    refine (hR _).mono ?_
    rintro e w2 ⟨rfl, rfl⟩
    go_wp2_with fail
    obtain ⟨e0, e1, e2, hbE⟩ := HSET.out _ (Below.refl _ _) (.int .u8 1) (.string x) (.int .i64 p)
    refine bodyPost_ret (v := .tuple #[.agg #[.int .u8 1, .string x, .int .i64 p], .int .i64 x.size, .int .i64 0]) ?_ rfl ⟨by rw [HO.out.1, HO.out.2.1, HO.out.2.2]; rw [← hsz]; rfl, hbE⟩
    simp only [results, Try.results38]
    first | (simp [go_sem, e0, e1, e2]; done) | (simp [go_sem, e0, e1, e2]; omega)
  rw [hl] at hL
  have e0 : ¬ (letterB (nth (strI s) p) = true) := by rw [n0, hl]; simp
  clear hl
  by_cases h37 : (s[p].toNat : Int) = 37
  · have hR := fun wx => refRun_any s (p + 1) wx hs' (by omega)
    have r0 := runE_ge (strI s) (p + 1)
    have r1 := runE_le (strI s) (p + 1) (by omega)
    have hsz : (s.extract (p + 1) (runE (strI s) (p + 1))).size = runE (strI s) (p + 1) - (p + 1) := by rw [ByteArray.size_extract]; omega
    have hP := fun wx => refPlain_any (s.extract (p + 1) (runE (strI s) (p + 1))) wx (by omega)
    have ec : strI (s.extract (p + 1) (runE (strI s) (p + 1))) = cutL (strI s) (p + 1) (runE (strI s) (p + 1)) := by rw [strI_extract]; rfl
    rw [ec] at hP
    have h37' : ((s[p].toNat : Int) == 37) = true := by simpa using h37
    have hpc : ((p : Int) + 1) = ((p + 1 : Nat) : Int) := by omega
    cases hpl : plainB (cutL (strI s) (p + 1) (runE (strI s) (p + 1)))
    · have HO := hid1 (tk_bad (show tokP (strI s) p = .inl 62 by unfold tokP; rw [if_neg e0, if_pos (n0.trans h37), if_neg (by rw [hpl]; simp)]))
      rw [hpl] at hP
      clear hpl n0 e0 hD HCELL h37 ec
      generalize runE (strI s) (p + 1) = r at *
      generalize s.extract (p + 1) r = x at *
      generalize cutL (strI s) (p + 1) r = y at *
      rw [← hpc] at hR
      clear hpc
      go_enter Try.func38, Try.ntmps38
      go_wp2_with fail
      generalize w.alloc (.cells #[.int .u8 0, .string ⟨#[]⟩, .int .i64 0] 77) = w1 at *
      refine (hL _).mono ?_
      rintro e w2 ⟨rfl, rfl⟩
      go_wp2_with fail
      refine (hR _).mono ?_
      rintro e w2 ⟨rfl, rfl⟩
      go_wp2_with fail
      refine (hP _).mono ?_
      rintro e w2 ⟨⟨z, rfl, _, _⟩, rfl⟩
      go_wp2_with fail
      obtain ⟨e0, e1, e2, hbE⟩ := HSET.out _ (Below.refl _ _) (.int .u8 0) (.string ⟨#[]⟩) (.int .i64 0)
      refine bodyPost_ret (v := .tuple #[.agg #[.int .u8 0, .string ⟨#[]⟩, .int .i64 0], .int .i64 0, .int .i64 62]) ?_ rfl ⟨by rw [HO.out.1, HO.out.2.1, HO.out.2.2]; rfl, hbE⟩
      simp only [results, Try.results38]
      first | (simp [go_sem, e0, e1, e2]; done) | (simp [go_sem, e0, e1, e2]; omega)
    · have HO := hid1 (tk_ok (show tokP (strI s) p = .inr (2, cutL (strI s) (p + 1) (runE (strI s) (p + 1)), runE (strI s) (p + 1)) by unfold tokP; rw [if_neg e0, if_pos (n0.trans h37), if_pos hpl]))
      rw [cut_str] at HO
      rw [hpl] at hP
      clear hpl n0 e0 hD HCELL h37 ec
      generalize runE (strI s) (p + 1) = r at *
      generalize s.extract (p + 1) r = x at *
      generalize cutL (strI s) (p + 1) r = y at *
      rw [← hpc] at hR
      clear hpc
      go_enter Try.func38, Try.ntmps38
      go_wp2_with fail
      generalize w.alloc (.cells #[.int .u8 0, .string ⟨#[]⟩, .int .i64 0] 77) = w1 at *
      refine (hL _).mono ?_
      rintro e w2 ⟨rfl, rfl⟩
      go_wp2_with fail
      refine (hR _).mono ?_
      rintro e w2 ⟨rfl, rfl⟩
      go_wp2_with fail
      refine (hP _).mono ?_
      rintro e w2 ⟨⟨z, rfl, _, _⟩, rfl⟩
      go_wp2_with fail
      obtain ⟨e0, e1, e2, hbE⟩ := HSET.out _ (Below.refl _ _) (.int .u8 2) (.string x) (.int .i64 p)
      refine bodyPost_ret (v := .tuple #[.agg #[.int .u8 2, .string x, .int .i64 p], .int .i64 ((x.size : Int) + 1), .int .i64 0]) ?_ rfl ⟨by rw [HO.out.1, HO.out.2.1, HO.out.2.2]; rw [show r - p = x.size + 1 by omega]; rfl, hbE⟩
      simp only [results, Try.results38]
      first | (simp [go_sem, e0, e1, e2]; done) | (simp [go_sem, e0, e1, e2]; omega)
  have e1 : ¬ (nth (strI s) p = 37) := by rw [n0]; exact h37
  have h37' : ((s[p].toNat : Int) == 37) = false := by simpa using h37
  clear h37
  by_cases hdm : (digitB (s[p].toNat : Int) || decide ((s[p].toNat : Int) = 45)) = true
  · have hR := fun wx => refRun_any s (p + 1) wx hs' (by omega)
    have r0 := runE_ge (strI s) (p + 1)
    have r1 := runE_le (strI s) (p + 1) (by omega)
    have hsz : (s.extract (p + 1) (runE (strI s) (p + 1))).size = runE (strI s) (p + 1) - (p + 1) := by rw [ByteArray.size_extract]; omega
    have hsy : (s.extract p (runE (strI s) (p + 1))).size = runE (strI s) (p + 1) - p := by rw [ByteArray.size_extract]; omega
    have hN := fun wx => refNumber_any (s.extract p (runE (strI s) (p + 1))) wx (by omega)
    have ec : strI (s.extract p (runE (strI s) (p + 1))) = cutL (strI s) p (runE (strI s) (p + 1)) := by rw [strI_extract]; rfl
    have hpc : ((p : Int) + 1) = ((p + 1 : Nat) : Int) := by omega
    have e2 : (digitB (nth (strI s) p) || decide (nth (strI s) p = 45)) = true := by rw [n0]; exact hdm
    rw [ec] at hN
    have HOK : Hid (numB (cutL (strI s) p (runE (strI s) (p + 1))) = true → numErr (cutL (strI s) p (runE (strI s) (p + 1))) = 0 ∧ (tkT (strI s) p = (3, s.extract p (runE (strI s) (p + 1)), (p : Int)) ∧ tkN (strI s) p = runE (strI s) (p + 1) - p ∧ tkE (strI s) p = 0)) := fun h => by
      refine ⟨by unfold numErr; rw [h]; rfl, ?_⟩
      have := tk_ok (show tokP (strI s) p = .inr (3, cutL (strI s) p (runE (strI s) (p + 1)), runE (strI s) (p + 1)) by unfold tokP; rw [if_neg e0, if_neg e1, if_pos e2, if_pos h])
      rw [cut_str] at this
      exact this
    have HBAD : Hid (numB (cutL (strI s) p (runE (strI s) (p + 1))) = false → numErr (cutL (strI s) p (runE (strI s) (p + 1))) ≠ 0 ∧ (tkT (strI s) p = (0, ⟨#[]⟩, 0) ∧ tkN (strI s) p = 0 ∧ tkE (strI s) p = 62)) := fun h =>
      ⟨by unfold numErr; rw [h]; decide, tk_bad (by unfold tokP; rw [if_neg e0, if_neg e1, if_pos e2, if_neg (by rw [h]; simp)])⟩
    clear n0 e0 e1 e2 HCELL ec
    have hpr : (p : Int) ≤ (p : Int) + 1 + ((s.extract (p + 1) (runE (strI s) (p + 1))).size : Int) := by omega
    have hqr : (p : Int) + 1 + ((s.extract (p + 1) (runE (strI s) (p + 1))).size : Int) ≤ (s.size : Int) := by omega
    have hrr : ((p : Int) + 1 + ((s.extract (p + 1) (runE (strI s) (p + 1))).size : Int)) = (runE (strI s) (p + 1) : Int) := by omega
    generalize runE (strI s) (p + 1) = r at *
    generalize numOut (cutL (strI s) p r) = no at *
    generalize numErr (cutL (strI s) p r) = ne at *
    rw [← hpc] at hR
    clear hpc
    cases hnb : numB (cutL (strI s) p r)
    · obtain ⟨hne, ho⟩ := HBAD.out hnb
      have HO := hid1 ho
      have hne' : (ne != 0) = true := by simpa using hne
      clear ho HOK HBAD hnb hne
      generalize s.extract (p + 1) r = x at *
      cases hd : digitB (s[p].toNat : Int)
      · have h45 : ((s[p].toNat : Int) == 45) = true := by rw [hd] at hdm; simpa using hdm
        rw [hd] at hD
        clear hd hdm
        go_enter Try.func38, Try.ntmps38
        go_wp2_with fail
        generalize w.alloc (.cells #[.int .u8 0, .string ⟨#[]⟩, .int .i64 0] 77) = w1 at *
        refine (hL _).mono ?_
        rintro e w2 ⟨rfl, rfl⟩
        go_wp2_with fail
        refine (hD _).mono ?_
        rintro e w2 ⟨rfl, rfl⟩
        go_wp2_with fail
        refine (hR _).mono ?_
        rintro e w2 ⟨rfl, rfl⟩
        go_wp2_with fail
        simp only [show p + 1 + (r - (p + 1)) = r by omega]
        refine (hN _).mono ?_
        rintro e w2 ⟨rfl, rfl⟩
        go_wp2_with fail
        obtain ⟨e0, e1, e2, hbE⟩ := HSET.out _ (Below.refl _ _) (.int .u8 0) (.string ⟨#[]⟩) (.int .i64 0)
        refine bodyPost_ret (v := .tuple #[.agg #[.int .u8 0, .string ⟨#[]⟩, .int .i64 0], .int .i64 0, .int .i64 62]) ?_ rfl ⟨by rw [HO.out.1, HO.out.2.1, HO.out.2.2]; rfl, hbE⟩
        simp only [results, Try.results38]
        first | (simp [go_sem, e0, e1, e2]; done) | (simp [go_sem, e0, e1, e2]; omega)
      · rw [hd] at hD
        clear hd hdm
        go_enter Try.func38, Try.ntmps38
        go_wp2_with fail
        generalize w.alloc (.cells #[.int .u8 0, .string ⟨#[]⟩, .int .i64 0] 77) = w1 at *
        refine (hL _).mono ?_
        rintro e w2 ⟨rfl, rfl⟩
        go_wp2_with fail
        refine (hD _).mono ?_
        rintro e w2 ⟨rfl, rfl⟩
        go_wp2_with fail
        refine (hR _).mono ?_
        rintro e w2 ⟨rfl, rfl⟩
        go_wp2_with fail
        simp only [show p + 1 + (r - (p + 1)) = r by omega]
        refine (hN _).mono ?_
        rintro e w2 ⟨rfl, rfl⟩
        go_wp2_with fail
        obtain ⟨e0, e1, e2, hbE⟩ := HSET.out _ (Below.refl _ _) (.int .u8 0) (.string ⟨#[]⟩) (.int .i64 0)
        refine bodyPost_ret (v := .tuple #[.agg #[.int .u8 0, .string ⟨#[]⟩, .int .i64 0], .int .i64 0, .int .i64 62]) ?_ rfl ⟨by rw [HO.out.1, HO.out.2.1, HO.out.2.2]; rfl, hbE⟩
        simp only [results, Try.results38]
        first | (simp [go_sem, e0, e1, e2]; done) | (simp [go_sem, e0, e1, e2]; omega)
    · obtain ⟨hne, ho⟩ := HOK.out hnb
      have HO := hid1 ho
      subst hne
      clear ho HOK HBAD hnb
      generalize s.extract (p + 1) r = x at *
      cases hd : digitB (s[p].toNat : Int)
      · have h45 : ((s[p].toNat : Int) == 45) = true := by rw [hd] at hdm; simpa using hdm
        rw [hd] at hD
        clear hd hdm
        go_enter Try.func38, Try.ntmps38
        go_wp2_with fail
        generalize w.alloc (.cells #[.int .u8 0, .string ⟨#[]⟩, .int .i64 0] 77) = w1 at *
        refine (hL _).mono ?_
        rintro e w2 ⟨rfl, rfl⟩
        go_wp2_with fail
        refine (hD _).mono ?_
        rintro e w2 ⟨rfl, rfl⟩
        go_wp2_with fail
        refine (hR _).mono ?_
        rintro e w2 ⟨rfl, rfl⟩
        go_wp2_with fail
        simp only [show p + 1 + (r - (p + 1)) = r by omega]
        refine (hN _).mono ?_
        rintro e w2 ⟨rfl, rfl⟩
        go_wp2_with fail
        obtain ⟨e0, e1, e2, hbE⟩ := HSET.out _ (Below.refl _ _) (.int .u8 3) (.string (s.extract p r)) (.int .i64 p)
        refine bodyPost_ret (v := .tuple #[.agg #[.int .u8 3, .string (s.extract p r), .int .i64 p], .int .i64 ((s.extract p r).size : Int), .int .i64 0]) ?_ rfl ⟨by rw [HO.out.1, HO.out.2.1, HO.out.2.2]; rw [← hsy]; rfl, hbE⟩
        simp only [results, Try.results38]
        first | (simp [go_sem, e0, e1, e2]; done) | (simp [go_sem, e0, e1, e2]; omega)
      · rw [hd] at hD
        clear hd hdm
        go_enter Try.func38, Try.ntmps38
        go_wp2_with fail
        generalize w.alloc (.cells #[.int .u8 0, .string ⟨#[]⟩, .int .i64 0] 77) = w1 at *
        refine (hL _).mono ?_
        rintro e w2 ⟨rfl, rfl⟩
        go_wp2_with fail
        refine (hD _).mono ?_
        rintro e w2 ⟨rfl, rfl⟩
        go_wp2_with fail
        refine (hR _).mono ?_
        rintro e w2 ⟨rfl, rfl⟩
        go_wp2_with fail
        simp only [show p + 1 + (r - (p + 1)) = r by omega]
        refine (hN _).mono ?_
        rintro e w2 ⟨rfl, rfl⟩
        go_wp2_with fail
        obtain ⟨e0, e1, e2, hbE⟩ := HSET.out _ (Below.refl _ _) (.int .u8 3) (.string (s.extract p r)) (.int .i64 p)
        refine bodyPost_ret (v := .tuple #[.agg #[.int .u8 3, .string (s.extract p r), .int .i64 p], .int .i64 ((s.extract p r).size : Int), .int .i64 0]) ?_ rfl ⟨by rw [HO.out.1, HO.out.2.1, HO.out.2.2]; rw [← hsy]; rfl, hbE⟩
        simp only [results, Try.results38]
        first | (simp [go_sem, e0, e1, e2]; done) | (simp [go_sem, e0, e1, e2]; omega)
  have e2 : ¬ ((digitB (nth (strI s) p) || decide (nth (strI s) p = 45)) = true) := by rw [n0]; exact hdm
  have hd : digitB (s[p].toNat : Int) = false := by cases h : digitB (s[p].toNat : Int) <;> simp [h] at hdm ⊢
  have h45 : ((s[p].toNat : Int) == 45) = false := by rw [hd] at hdm; simpa using hdm
  rw [hd] at hD
  clear hdm hd
  by_cases h34 : (s[p].toNat : Int) = 34
  · have hQ := fun wx => refQuoted_any s p wx hs hp
    have h34' : ((s[p].toNat : Int) == 34) = true := by simpa using h34
    cases hq : quotP (strI s) (p + 1) with
    | none =>
      have HO := hid1 (tk_bad (show tokP (strI s) p = .inl 61 by unfold tokP; rw [if_neg e0, if_neg e1, if_neg e2, if_pos (n0.trans h34), hq]))
      have q1 : quotN6 (strI s) p = 0 := by unfold quotN6; rw [hq]
      rw [q1] at hQ
      generalize strOfNums (quotR6 (strI s) p) = x at *
      clear hq n0 e0 e1 e2 q1 h34
      go_enter Try.func38, Try.ntmps38
      go_wp2_with fail
      generalize w.alloc (.cells #[.int .u8 0, .string ⟨#[]⟩, .int .i64 0] 77) = w1 at *
      refine (hL _).mono ?_
      rintro e w2 ⟨rfl, rfl⟩
      go_wp2_with fail
      refine (hD _).mono ?_
      rintro e w2 ⟨rfl, rfl⟩
      go_wp2_with fail
      refine (hQ _).mono ?_
      rintro e w2 ⟨rfl, hb2⟩
      obtain ⟨d0, d1, d2, f0, f1, f2, l2⟩ := HCELL.out _ hb2
      clear HCELL
      go_wp2_with fail
      obtain ⟨e0, e1, e2, hbE⟩ := HSET.out _ (hb2) (.int .u8 0) (.string ⟨#[]⟩) (.int .i64 0)
      refine bodyPost_ret (v := .tuple #[.agg #[.int .u8 0, .string ⟨#[]⟩, .int .i64 0], .int .i64 0, .int .i64 61]) ?_ rfl ⟨by rw [HO.out.1, HO.out.2.1, HO.out.2.2]; rfl, hbE⟩
      simp only [results, Try.results38]
      first | (simp [go_sem, e0, e1, e2]; done) | (simp [go_sem, e0, e1, e2]; omega)
    | some x =>
      obtain ⟨b, q⟩ := x
      have HO := hid1 (tk_ok (show tokP (strI s) p = .inr (4, b, q) by unfold tokP; rw [if_neg e0, if_neg e1, if_neg e2, if_pos (n0.trans h34), hq]))
      have hend := quotP_end hq
      have q1 : quotN6 (strI s) p = q - p := by unfold quotN6; rw [hq]
      have q2 : quotR6 (strI s) p = b := by unfold quotR6; rw [hq]
      rw [q1, q2] at hQ
      have hnz : (((q - p : Nat) : Int) == 0) = false := by simp; omega
      generalize strOfNums b = x at *
      generalize q - p = m at *
      clear hq n0 e0 e1 e2 q1 q2 h34 hend
      go_enter Try.func38, Try.ntmps38
      go_wp2_with fail
      generalize w.alloc (.cells #[.int .u8 0, .string ⟨#[]⟩, .int .i64 0] 77) = w1 at *
      refine (hL _).mono ?_
      rintro e w2 ⟨rfl, rfl⟩
      go_wp2_with fail
      refine (hD _).mono ?_
      rintro e w2 ⟨rfl, rfl⟩
      go_wp2_with fail
      refine (hQ _).mono ?_
      rintro e w2 ⟨rfl, hb2⟩
      obtain ⟨d0, d1, d2, f0, f1, f2, l2⟩ := HCELL.out _ hb2
      clear HCELL
      go_wp2_with fail
      obtain ⟨e0, e1, e2, hbE⟩ := HSET.out _ (hb2) (.int .u8 4) (.string x) (.int .i64 p)
      refine bodyPost_ret (v := .tuple #[.agg #[.int .u8 4, .string x, .int .i64 p], .int .i64 m, .int .i64 0]) ?_ rfl ⟨by rw [HO.out.1, HO.out.2.1, HO.out.2.2]; rfl, hbE⟩
      simp only [results, Try.results38]
      first | (simp [go_sem, e0, e1, e2]; done) | (simp [go_sem, e0, e1, e2]; omega)
  have e3 : ¬ (nth (strI s) p = 34) := by rw [n0]; exact h34
  have h34' : ((s[p].toNat : Int) == 34) = false := by simpa using h34
  clear h34
  by_cases h61 : (s[p].toNat : Int) = 61
  · have HO := hid1 (tk_ok (show tokP (strI s) p = .inr (5, [61], p + 1) by unfold tokP; rw [if_neg e0, if_neg e1, if_neg e2, if_neg e3, if_pos (n0.trans h61)]))
    have h61' : ((s[p].toNat : Int) == 61) = true := by simpa using h61
    clear n0 e0 e1 e2 e3 h61 HCELL
    go_enter Try.func38, Try.ntmps38
    go_wp2_with fail
    generalize w.alloc (.cells #[.int .u8 0, .string ⟨#[]⟩, .int .i64 0] 77) = w1 at *
    refine (hL _).mono ?_
    rintro e w2 ⟨rfl, rfl⟩
    go_wp2_with fail
    refine (hD _).mono ?_
    rintro e w2 ⟨rfl, rfl⟩
    go_wp2_with fail
    obtain ⟨e0, e1, e2, hbE⟩ := HSET.out _ (Below.refl _ _) (.int .u8 5) (.string ⟨#[61]⟩) (.int .i64 p)
    refine bodyPost_ret (v := .tuple #[.agg #[.int .u8 5, .string ⟨#[61]⟩, .int .i64 p], .int .i64 1, .int .i64 0]) ?_ rfl ⟨by rw [HO.out.1, HO.out.2.1, HO.out.2.2]; rw [show p + 1 - p = 1 by omega]; rfl, hbE⟩
    simp only [results, Try.results38]
    first | (simp [go_sem, e0, e1, e2]; done) | (simp [go_sem, e0, e1, e2]; omega)
  · have HO := hid1 (tk_bad (show tokP (strI s) p = .inl 60 by unfold tokP; rw [if_neg e0, if_neg e1, if_neg e2, if_neg e3, if_neg (by rw [n0]; exact h61)]))
    have h61' : ((s[p].toNat : Int) == 61) = false := by simpa using h61
    clear n0 e0 e1 e2 e3 h61 HCELL
    go_enter Try.func38, Try.ntmps38
    go_wp2_with fail
    generalize w.alloc (.cells #[.int .u8 0, .string ⟨#[]⟩, .int .i64 0] 77) = w1 at *
    refine (hL _).mono ?_
    rintro e w2 ⟨rfl, rfl⟩
    go_wp2_with fail
    refine (hD _).mono ?_
    rintro e w2 ⟨rfl, rfl⟩
    go_wp2_with fail
    obtain ⟨e0, e1, e2, hbE⟩ := HSET.out _ (Below.refl _ _) (.int .u8 0) (.string ⟨#[]⟩) (.int .i64 0)
    refine bodyPost_ret (v := .tuple #[.agg #[.int .u8 0, .string ⟨#[]⟩, .int .i64 0], .int .i64 0, .int .i64 60]) ?_ rfl ⟨by rw [HO.out.1, HO.out.2.1, HO.out.2.2]; rfl, hbE⟩
    simp only [results, Try.results38]
    first | (simp [go_sem, e0, e1, e2]; done) | (simp [go_sem, e0, e1, e2]; omega)

end Go.Proofs.Yteckmcgihbicfab
