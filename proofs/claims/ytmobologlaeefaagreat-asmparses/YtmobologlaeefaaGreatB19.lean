/-
  Texts laid together in one: AsmRowOf, MathF, Rdr, KitWords, Law02Raws, KitSpoilWords, Law02Apart, Ref02Wrong, Ref02At, MathRead, RowO, WordsJoin.
-/
import Derived.WalkSpells
import Derived.WalkMore
import Derived.BigRegion
import Derived.Test.YtmobologlaeefaaGreatProg
import Derived.Test.YtmobologlaeefaaGreatB03
import Derived.Test.YtmobologlaeefaaGreatB18
import Derived.Test.YtmobologlaeefaaGreatB01
import Derived.Maps.AppendAt
import Derived.Maps.Range
import Derived.OneCell
import Derived.Deep.QuietTactic
import Derived.BigQuiet
import Derived.Test.YtmobologlaeefaaGreatB09
import Derived.Deep.AppendLies
import Derived.Deep.RegionLaw
import Derived.Deep.DrawnRows
import Derived.Test.YtmobologlaeefaaGreatB07
import Derived.Test.YtmobologlaeefaaGreatB11
/-
  What rowOf of the layer asm returns: a line's tokens as a row.
-/
namespace Go.Proofs.YtmobologlaeefaaGreat
open Go.RowKit
set_option linter.unusedVariables false
set_option linter.unusedSimpArgs false
set_option maxRecDepth 10000

theorem own_shape7 {w : World} {B e size n : Nat} {v : Value} {xs : List Value} (h : w.ownsRow B e size v n xs) : ∃ a c, v = .slice a n c := by
  rcases h.2 with ⟨rfl, h0⟩ | ⟨g, cap, cur, rfl, _⟩
  · exact ⟨none, 0, by rw [h0]⟩
  · exact ⟨_, _, rfl⟩
theorem own_mono7 {w : World} {B B' e size n : Nat} {v : Value} {xs : List Value} (h : w.ownsRow B e size v n xs) (hB : B' ≤ B) : w.ownsRow B' e size v n xs := by
  refine ⟨h.1, ?_⟩
  rcases h.2 with hn | ⟨g, cap, cur, e1, e2, rest⟩
  · exact .inl hn
  · exact .inr ⟨g, cap, cur, e1, Nat.le_trans hB e2, rest⟩
/-- Tokens in memory of their own. -/
theorem toks_of_own {w : World} {B n c : Nat} {a : Option Addr} {l : List TokT} (h : w.ownsRow B 102 3 (.slice a n c) n (l.flatMap tokC)) (hl : l.length = n) : ToksV w a l ∧ ∀ b off, a = some ⟨b, off, none⟩ → B ≤ b ∧ b < w.heap.size := by
  have hh := h
  rcases h.2 with ⟨e, h0⟩ | ⟨g, cap, cur, e, h1, hg, _⟩
  · simp only [Value.slice.injEq] at e
    obtain ⟨rfl, rfl, rfl⟩ := e
    have : l = [] := List.length_eq_zero_iff.1 hl
    subst this
    exact ⟨toksV_nil, fun b off e => by simp at e⟩
  · simp only [Value.slice.injEq, true_and] at e
    obtain ⟨rfl, rfl⟩ := e
    refine ⟨ToksV.ofRow hh hl, fun b off e => ?_⟩
    simp only [Option.some.injEq, Addr.mk.injEq] at e
    obtain ⟨rfl, _, _⟩ := e
    exact ⟨h1, (Array.getElem?_eq_some_iff.1 hg).1⟩

set_option maxHeartbeats 2000000 in
theorem rowOf_any (s : ByteArray) (w : World) (hs : 32 * s.size + 64 ≤ 140737488351232) :
    Calls Tryz.prog 59 #[.string s] w fun e w' => ∃ a c, e = .returned (.tuple #[.agg #[.slice a (toksP (strI s) 0).1.length c, .int .i64 0, .int .i64 (s.size : Int)], .agg #[.int .i64 (toksP (strI s) 0).2.1, .int .i64 (toksP (strI s) 0).2.2]]) ∧ w'.ownsRow w.heap.size 102 3 (.slice a (toksP (strI s) 0).1.length c) (toksP (strI s) 0).1.length ((toksP (strI s) 0).1.flatMap tokC) ∧ Below w.heap.size w w' := by
  have hT := fun wx => tokens_any s wx hs
  obtain ⟨R, hR⟩ : ∃ R, R = toksP (strI s) 0 := ⟨_, rfl⟩
  rw [← hR] at hT ⊢
  clear hR
  obtain ⟨l, er, at_⟩ := R
  simp only at hT ⊢
  have kT : ((w.alloc (.cells #[.slice none 0 0, .int .i64 0, .int .i64 0] 122)).alloc (.cells #[.int .i64 0, .int .i64 0] 28)).heap[w.heap.size]? = some (.cells #[.slice none 0 0, .int .i64 0, .int .i64 0] 122 (0, 0)) := (Below.heap_alloc _ _ _ (by simp)).trans (heap_alloc_new w _)
  have kS : ((w.alloc (.cells #[.slice none 0 0, .int .i64 0, .int .i64 0] 122)).alloc (.cells #[.int .i64 0, .int .i64 0] 28)).heap[w.heap.size + 1]? = some (.cells #[.int .i64 0, .int .i64 0] 28 (0, 0)) := by simpa using heap_alloc_new (w.alloc (.cells #[.slice none 0 0, .int .i64 0, .int .i64 0] 122)) (.cells #[.int .i64 0, .int .i64 0] 28)
  have hb : Below w.heap.size w ((w.alloc (.cells #[.slice none 0 0, .int .i64 0, .int .i64 0] 122)).alloc (.cells #[.int .i64 0, .int .i64 0] 28)) := ((Below.refl _ w).alloc (Nat.le_refl _) _).alloc (by simp) _
  go_enter Tryz.func59, Tryz.ntmps59
  go_wp2_with fail
  generalize (w.alloc (.cells #[.slice none 0 0, .int .i64 0, .int .i64 0] 122)).alloc (.cells #[.int .i64 0, .int .i64 0] 28) = W at *
  refine (hT _).mono ?_
  rintro e w1 ⟨v1, rfl, hrow, hb1⟩
  obtain ⟨a1, c1, rfl⟩ := own_shape7 hrow
  have sS := (Array.getElem?_eq_some_iff.1 kS).1
  have hba : Below w1.heap.size w1 (w1.alloc (.cells #[.int .i64 er, .int .i64 at_] 28)) := (Below.refl _ w1).alloc (Nat.le_refl _) _
  have hb1a := hb1.trans (hba.mono hb1.size)
  have HT := hide ((hb1a.block _ (by omega)).trans kT)
  have HS := hide ((hb1a.block _ sS).trans kS)
  have HB := hide (hb.trans (hb1a.mono hb.size))
  have HO := hide (own_below hrow hba)
  have HK := hide (heap_alloc_new w1 (.cells #[.int .i64 er, .int .i64 at_] 28))
  have s1 : w.heap.size + 1 < w1.heap.size := Nat.lt_of_lt_of_le sS hb1.size
  clear hT hrow hb1 hba hb1a kT kS hb
  go_wp2_with fail
  generalize w1.alloc (.cells #[.int .i64 er, .int .i64 at_] 28) = W2 at *
  obtain ⟨ct, ft⟩ := blk_cells HT.out
  obtain ⟨cp, fp⟩ := blk_cells HS.out
  obtain ⟨ck, _⟩ := blk_cells HK.out
  have t0 := ct 0
  have t1 := ct 1
  have t2 := ct 2
  have p0 := cp 0
  have p1 := cp 1
  have k0 := ck 0
  have k1 := ck 1
  have n1 : w1.heap.size ≠ w.heap.size := by omega
  have n2 : w1.heap.size ≠ w.heap.size + 1 := by omega
  obtain ⟨x1, x2, x3⟩ := five_drew HT.out HS.out (.slice a1 l.length c1) (.int .i64 0) (.int .i64 (s.size : Int)) (.int .i64 er) (.int .i64 at_)
  have hOX : (((((((W2.setCell ⟨w.heap.size, 0, none⟩ (.slice a1 l.length c1)).setCell ⟨w.heap.size, 1, none⟩ (.int .i64 0)).setCell ⟨w.heap.size, 2, none⟩ (.int .i64 (s.size : Int))).setCell ⟨w.heap.size + 1, 0, none⟩ (.int .i64 er)).setCell ⟨w.heap.size + 1, 1, none⟩ (.int .i64 at_))).drew).ownsRow w.heap.size 102 3 (.slice a1 l.length c1) l.length (l.flatMap tokC) := by
    have hlt := sS
    have h5 := ownsRow_setCell_below (ownsRow_setCell_below (ownsRow_setCell_below (ownsRow_setCell_below (ownsRow_setCell_below HO.out (a := ⟨w.heap.size, 0, none⟩) (by simp; omega) (.slice a1 l.length c1)) (a := ⟨w.heap.size, 1, none⟩) (by simp; omega) (.int .i64 0)) (a := ⟨w.heap.size, 2, none⟩) (by simp; omega) (.int .i64 (s.size : Int))) (a := ⟨w.heap.size + 1, 0, none⟩) (by simp; omega) (.int .i64 er)) (a := ⟨w.heap.size + 1, 1, none⟩) (by simp; omega) (.int .i64 at_)
    generalize (((((W2.setCell ⟨w.heap.size, 0, none⟩ (.slice a1 l.length c1)).setCell ⟨w.heap.size, 1, none⟩ (.int .i64 0)).setCell ⟨w.heap.size, 2, none⟩ (.int .i64 (s.size : Int))).setCell ⟨w.heap.size + 1, 0, none⟩ (.int .i64 er)).setCell ⟨w.heap.size + 1, 1, none⟩ (.int .i64 at_)) = Y at *
    exact own_mono7 (own_below h5 (Below.refl _ _).drew) (by omega)
  have HOX := hide hOX
  have HY := hide (HB.out.trans x3)
  have HY1 := hide x1
  have HY2 := hide x2
  clear x1 x2 x3 ct cp ck HT HS HK HO HB hOX
  go_region
  generalize ((((((W2.setCell ⟨w.heap.size, 0, none⟩ (.slice a1 l.length c1)).setCell ⟨w.heap.size, 1, none⟩ (.int .i64 0)).setCell ⟨w.heap.size, 2, none⟩ (.int .i64 (s.size : Int))).setCell ⟨w.heap.size + 1, 0, none⟩ (.int .i64 er)).setCell ⟨w.heap.size + 1, 1, none⟩ (.int .i64 at_))).drew = X at *
  clear t0 t1 t2 p0 p1 k0 k1 ft fp
  go_wp2
  obtain ⟨e1, _⟩ := blk_cells HY1.out
  obtain ⟨e2, _⟩ := blk_cells HY2.out
  have a0 := e1 0
  have a1' := e1 1
  have a2 := e1 2
  have b0 := e2 0
  have b1 := e2 1
  refine bodyPost_ret (v := .tuple #[.agg #[.slice a1 l.length c1, .int .i64 0, .int .i64 (s.size : Int)], .agg #[.int .i64 er, .int .i64 at_]]) ?_ rfl ⟨a1, c1, rfl, HOX.out, HY.out⟩
  simp [results, Tryz.results59, go_sem, a0, a1', a2, b0, b1]

end Go.Proofs.YtmobologlaeefaaGreat

/-
  Plain arithmetic for the layer of frames: where the instructions of words lie. No condition but the bounds that each lemma names.
-/
namespace Go.Proofs.YtmobologlaeefaaGreat
open Go.RowKit

/-- How many words the instruction at a place says that it has. -/
def cntN (zs : List Int) (p : Nat) : Nat := (nth zs p).toNat / 65536
/-- Its operation. -/
def opI (zs : List Int) (p : Nat) : Int := nth zs p % 65536

theorem cntN_int (zs : List Int) (p : Nat) (h : 0 ≤ nth zs p) : nth zs p / 65536 = (cntN zs p : Int) := by unfold cntN; omega
theorem opI_lo (zs : List Int) (p : Nat) : 0 ≤ opI zs p := Int.emod_nonneg _ (by decide)
theorem opI_hi (zs : List Int) (p : Nat) : opI zs p < 65536 := Int.emod_lt_of_pos _ (by decide)

/-- No instruction begins there: it says no words, or more than are left. -/
def badAt (zs : List Int) (p : Nat) : Prop := cntN zs p = 0 ∨ zs.length < p + cntN zs p
def badB (zs : List Int) (p : Nat) : Bool := cntN zs p == 0 || decide (zs.length < p + cntN zs p)
theorem badB_true {zs : List Int} {p : Nat} (h : badAt zs p) : badB zs p = true := by
  unfold badB; rcases h with h | h <;> simp [h]
theorem badB_false {zs : List Int} {p : Nat} (h : ¬ badAt zs p) : badB zs p = false := by
  unfold badAt at h; unfold badB
  have h1 : ¬ cntN zs p = 0 := fun e => h (.inl e)
  have h2 : ¬ zs.length < p + cntN zs p := fun e => h (.inr e)
  simp [h1, h2]

def restF (zs : List Int) : Nat → Nat → List Nat
  | 0, _ => []
  | f + 1, p => if p < zs.length then (if badB zs p then [] else p :: restF zs f (p + cntN zs p)) else []
def stopF (zs : List Int) : Nat → Nat → Nat
  | 0, p => p
  | f + 1, p => if p < zs.length then (if badB zs p then p else stopF zs f (p + cntN zs p)) else p
/-- The places of the instructions from a place on. -/
def rest (zs : List Int) (p : Nat) : List Nat := restF zs (zs.length - p) p
/-- Where they end. -/
def stop (zs : List Int) (p : Nat) : Nat := stopF zs (zs.length - p) p

theorem restF_end (zs : List Int) (f p : Nat) (h : zs.length ≤ p) : restF zs f p = [] := by
  cases f with
  | zero => rfl
  | succ f => rw [restF, if_neg (by omega)]
theorem stopF_end (zs : List Int) (f p : Nat) (h : zs.length ≤ p) : stopF zs f p = p := by
  cases f with
  | zero => rfl
  | succ f => rw [stopF, if_neg (by omega)]
theorem cnt_pos {zs : List Int} {p : Nat} (h : badB zs p = false) : 0 < cntN zs p := by
  unfold badB at h; simp at h; omega
theorem cnt_fits {zs : List Int} {p : Nat} (h : badB zs p = false) : p + cntN zs p ≤ zs.length := by
  unfold badB at h; simp at h; omega

theorem restF_fuel (zs : List Int) : ∀ (f g p : Nat), zs.length - p ≤ f → zs.length - p ≤ g → restF zs f p = restF zs g p
  | 0, g, p, h, _ => by rw [restF_end zs 0 p (by omega), restF_end zs g p (by omega)]
  | f + 1, 0, p, _, h => by rw [restF_end zs 0 p (by omega), restF_end zs (f + 1) p (by omega)]
  | f + 1, g + 1, p, h1, h2 => by
    rw [restF, restF]
    by_cases hp : p < zs.length
    · rw [if_pos hp, if_pos hp]
      cases hb : badB zs p with
      | true => rfl
      | false =>
        have := cnt_pos hb
        simp only [Bool.false_eq_true, if_false]
        rw [restF_fuel zs f g (p + cntN zs p) (by omega) (by omega)]
    · rw [if_neg hp, if_neg hp]
theorem stopF_fuel (zs : List Int) : ∀ (f g p : Nat), zs.length - p ≤ f → zs.length - p ≤ g → stopF zs f p = stopF zs g p
  | 0, g, p, h, _ => by rw [stopF_end zs 0 p (by omega), stopF_end zs g p (by omega)]
  | f + 1, 0, p, _, h => by rw [stopF_end zs 0 p (by omega), stopF_end zs (f + 1) p (by omega)]
  | f + 1, g + 1, p, h1, h2 => by
    rw [stopF, stopF]
    by_cases hp : p < zs.length
    · rw [if_pos hp, if_pos hp]
      cases hb : badB zs p with
      | true => rfl
      | false =>
        have := cnt_pos hb
        simp only [Bool.false_eq_true, if_false]
        rw [stopF_fuel zs f g (p + cntN zs p) (by omega) (by omega)]
    · rw [if_neg hp, if_neg hp]

theorem rest_end (zs : List Int) (p : Nat) (h : zs.length ≤ p) : rest zs p = [] := restF_end zs _ p h
theorem stop_end (zs : List Int) (p : Nat) (h : zs.length ≤ p) : stop zs p = p := stopF_end zs _ p h
theorem rest_bad (zs : List Int) (p : Nat) (hp : p < zs.length) (h : badB zs p = true) : rest zs p = [] := by
  obtain ⟨f, hf⟩ : ∃ f, zs.length - p = f + 1 := ⟨zs.length - p - 1, by omega⟩
  rw [rest, hf, restF, if_pos hp, h]; rfl
theorem stop_bad (zs : List Int) (p : Nat) (hp : p < zs.length) (h : badB zs p = true) : stop zs p = p := by
  obtain ⟨f, hf⟩ : ∃ f, zs.length - p = f + 1 := ⟨zs.length - p - 1, by omega⟩
  rw [stop, hf, stopF, if_pos hp, h]; rfl
theorem rest_go (zs : List Int) (p : Nat) (hp : p < zs.length) (h : badB zs p = false) : rest zs p = p :: rest zs (p + cntN zs p) := by
  obtain ⟨f, hf⟩ : ∃ f, zs.length - p = f + 1 := ⟨zs.length - p - 1, by omega⟩
  have := cnt_pos h
  rw [rest, hf, restF, if_pos hp, h]
  simp only [Bool.false_eq_true, if_false]
  rw [restF_fuel zs f (zs.length - (p + cntN zs p)) (p + cntN zs p) (by omega) (by omega)]
  rfl
theorem stop_go (zs : List Int) (p : Nat) (hp : p < zs.length) (h : badB zs p = false) : stop zs p = stop zs (p + cntN zs p) := by
  obtain ⟨f, hf⟩ : ∃ f, zs.length - p = f + 1 := ⟨zs.length - p - 1, by omega⟩
  have := cnt_pos h
  rw [stop, hf, stopF, if_pos hp, h]
  simp only [Bool.false_eq_true, if_false]
  rw [stopF_fuel zs f (zs.length - (p + cntN zs p)) (p + cntN zs p) (by omega) (by omega)]
  rfl
theorem restF_len (zs : List Int) : ∀ (f p : Nat), (restF zs f p).length ≤ f
  | 0, _ => Nat.le_refl _
  | f + 1, p => by
    rw [restF]
    split
    · split
      · simp
      · have := restF_len zs f (p + cntN zs p)
        simp only [List.length_cons]; omega
    · simp
theorem rest_len (zs : List Int) (p : Nat) : (rest zs p).length ≤ zs.length - p := restF_len zs _ p
theorem restF_mem (zs : List Int) : ∀ (f p q : Nat), q ∈ restF zs f p → p ≤ q ∧ q < zs.length ∧ badB zs q = false
  | 0, _, _, h => by simp [restF] at h
  | f + 1, p, q, h => by
    rw [restF] at h
    by_cases hp : p < zs.length
    · rw [if_pos hp] at h
      cases hb : badB zs p with
      | true => rw [hb] at h; simp at h
      | false =>
        rw [hb] at h
        simp only [Bool.false_eq_true, if_false, List.mem_cons] at h
        rcases h with rfl | h
        · exact ⟨Nat.le_refl _, hp, hb⟩
        · have := restF_mem zs f (p + cntN zs p) q h
          exact ⟨by omega, this.2⟩
    · rw [if_neg hp] at h; simp at h
theorem rest_mem (zs : List Int) (p q : Nat) (h : q ∈ rest zs p) : p ≤ q ∧ q < zs.length ∧ badB zs q = false := restF_mem zs _ p q h

/-- Places as numbers. -/
def natI (l : List Nat) : List Int := l.map fun (q : Nat) => (q : Int)
theorem natI_len (l : List Nat) : (natI l).length = l.length := by simp [natI]
theorem nth_natI (l : List Nat) (k : Nat) (h : k < l.length) : nth (natI l) k = ((l.getD k 0 : Nat) : Int) := by
  simp [nth, natI, List.getD, h]

end Go.Proofs.YtmobologlaeefaaGreat

/-
  A reader in memory: its two cells lie in one block; what was there before it turns in that block alone. And what a slice of a list is.
-/
namespace Go.Proofs.YtmobologlaeefaaGreat
open Go.RowKit

/-- W0: the world in which the reader was made; wr: a later one. -/
structure Rd (T : TypeId) (W0 wr : World) (gr : Nat) (v : Value) (p : Nat) : Prop where
  grown : W0.grownBy wr (some gr)
  box : wr.heap[gr]? = some (.cells #[v, .int .i64 (p : Int)] T (0, 0))

theorem cell_of_two {w : World} {g : Nat} {a b : Value} {T : TypeId} (h : w.heap[g]? = some (.cells #[a, b] T (0, 0))) : w.cell? ⟨g, 0, none⟩ = some a ∧ w.cell? ⟨g, 1, none⟩ = some b ∧ w.frozen? ⟨g, 1, none⟩ = false := by
  refine ⟨?_, ?_, ?_⟩ <;> simp [World.cell?, World.frozen?, h]

theorem two_setCell {w : World} {g : Nat} {a b : Value} {T : TypeId} (h : w.heap[g]? = some (.cells #[a, b] T (0, 0))) (u : Value) : (w.setCell ⟨g, 1, none⟩ u).heap[g]? = some (.cells #[a, u] T (0, 0)) := by
  simp [World.setCell, Array.getElem?_modify, h]

theorem grown_setCell (w : World) (g j : Nat) (u : Value) : w.grownBy (w.setCell ⟨g, j, none⟩ u) (some g) :=
  ⟨rfl, rfl, rfl, by simp [World.setCell], fun k _ hne => Below.heap_setCell _ _ _ _ (fun e => hne (by rw [e]))⟩

theorem Rd.set {T : TypeId} {W0 wr : World} {gr : Nat} {v : Value} {p : Nat} (h : Rd T W0 wr gr v p) (q : Nat) (u : Int) (hu : u = (q : Int)) : Rd T W0 (wr.setCell ⟨gr, 1, none⟩ (.int .i64 u)) gr v q := by
  subst hu
  exact ⟨h.grown.trans (grown_setCell wr gr 1 _), two_setCell h.box _⟩

theorem Rd.lt {T : TypeId} {W0 wr : World} {gr : Nat} {v : Value} {p : Nat} (h : Rd T W0 wr gr v p) : gr < wr.heap.size := (Array.getElem?_eq_some_iff.1 h.box).1

/-- Where nothing that is there turns. -/
theorem Rd.below {T : TypeId} {W0 wr w' : World} {gr : Nat} {v : Value} {p : Nat} (h : Rd T W0 wr gr v p) (hb : Below wr.heap.size wr w') : Rd T W0 w' gr v p := by
  refine ⟨⟨hb.os.trans h.grown.os, hb.tape.trans h.grown.tape, hb.output.trans h.grown.output, Nat.le_trans h.grown.size hb.size, fun k hk hne => ?_⟩, by rw [hb.block gr h.lt]; exact h.box⟩
  rw [hb.block k (Nat.lt_of_lt_of_le hk h.grown.size)]
  exact h.grown.block k hk hne

/-- Where a block alone turns that is new since the reader was looked at. -/
theorem Rd.far {T : TypeId} {W0 w' w'' : World} {gr g : Nat} {v : Value} {p : Nat} (h : Rd T W0 w' gr v p) (h0 : W0.heap.size ≤ g) (hg : gr < g) (hgr : w'.grownBy w'' (some g)) : Rd T W0 w'' gr v p := by
  refine ⟨h.grown.andThen hgr (fun j hj => by cases hj; exact .inl h0), ?_⟩
  rw [hgr.block gr h.lt (fun e => by cases e; omega)]
  exact h.box

/-- The reader's words are as they were. -/
theorem Rd.view {T : TypeId} {W0 wr : World} {gr : Nat} {v : Value} {p : Nat} (h : Rd T W0 wr gr v p) {a : Option Addr} {zs : List Int} (hv : View .u32 W0 a zs) (hne : ∀ b off s, a = some ⟨b, off, s⟩ → b ≠ gr) : View .u32 wr a zs := by
  intro j hj
  obtain ⟨b, off, e, hlt, hc⟩ := hv j hj
  refine ⟨b, off, e, Nat.lt_of_lt_of_le hlt h.grown.size, ?_⟩
  rw [← hc]
  exact World.cell?_of_block (w := W0) (h.grown.block b hlt (fun e' => hne b off none e (by cases e'; rfl)))

/-- What is cut off at the front of a list. -/
theorem View.drop {k : IntKind} {w : World} {b off : Nat} {zs : List Int} (h : View k w (some ⟨b, off, none⟩) zs) (p : Nat) : View k w (some ⟨b, off + p, none⟩) (zs.drop p) := by
  intro j hj
  rw [List.length_drop] at hj
  obtain ⟨b', off', e, hb, hc⟩ := h (p + j) (by omega)
  simp at e
  obtain ⟨rfl, rfl⟩ := e
  refine ⟨b, off + p, rfl, hb, ?_⟩
  rw [Nat.add_assoc, hc]
  simp [nth, List.getD]

/-- The address of a slice that is cut at its front. -/
def cutA (a : Option Addr) (cap p : Nat) : Option Addr := if cap = p then a else a.map (·.add p)

theorem View.cut {k : IntKind} {w : World} {a : Option Addr} {cap : Nat} {zs : List Int} (h : View k w a zs) (hcap : zs.length ≤ cap) (p : Nat) : View k w (cutA a cap p) (zs.drop p) := by
  by_cases hp : p < zs.length
  · obtain ⟨b, off, rfl, _, _⟩ := h p hp
    rw [cutA, if_neg (by omega)]
    have := View.drop h p
    rw [Option.map_some, Addr.add_lit]
    exact this
  · rw [List.drop_of_length_le (by omega)]
    exact view_nil

theorem nth_drop (zs : List Int) (p j : Nat) : nth (zs.drop p) j = nth zs (p + j) := by simp [nth, List.getD]
theorem within_drop {m : Int} {zs : List Int} {n : Nat} (h : Within m zs) : Within m (zs.drop n) := fun z hz => h z (List.mem_of_mem_drop hz)

/-- What the call owns, nil or not, can be read. -/
theorem View.ofOwn {k : IntKind} {w : World} {B e n cap : Nat} {a : Option Addr} {zs : List Int} (h : w.ownsRow B e 1 (.slice a n cap) n (zs.map (Value.int k))) (hl : zs.length = n) : View k w a zs := by
  rcases h.2 with ⟨_, hn⟩ | ⟨g, cap', cur, hv, _⟩
  · have : zs = [] := List.eq_nil_of_length_eq_zero (by rw [hl]; simpa using hn)
    subst this; exact view_nil
  · cases hv; exact View.ofRow h hl

end Go.Proofs.YtmobologlaeefaaGreat

/-
  Words of the kit answers true of two lists that are the same.
-/
namespace Go.Proofs.YtmobologlaeefaaGreat
open Go.RowKit
set_option maxRecDepth 10000

end Go.Proofs.YtmobologlaeefaaGreat

/-
  raws of the laws of layer 2 answers true of two lists of instructions that are the same; head answers the words of a head.
-/
namespace Go.Proofs.YtmobologlaeefaaGreat
open Go.RowKit
set_option maxRecDepth 10000

end Go.Proofs.YtmobologlaeefaaGreat

/-
  SpoilWords of the kit writes over the words of a row of the call's own, and nothing else.
-/
namespace Go.Proofs.YtmobologlaeefaaGreat
open Go.RowKit
set_option maxRecDepth 10000

end Go.Proofs.YtmobologlaeefaaGreat

/-
  apart of the laws of layer 2 answers true of instructions each of which lies in memory of its own, and are the wanted ones; what was there ahead of them stays.
-/
namespace Go.Proofs.YtmobologlaeefaaGreat
open Go.RowKit

theorem Apart.info : (Tryz.prog.info? 22).map (fun i => (i.zero, i.size, i.bytes)) = some (some (.int .u32 0), 1, 4) := by kernel_rfl

/-- The instructions from the k-th on lie each in memory of its own, from block lo on; the row lies elsewhere. -/
def OwnR (w : World) (lo : Nat) (a : Option Addr) (k : Nat) (rs : List (Int × List Int)) : Prop :=
  ∀ j, k ≤ j → j < rs.length → ∃ b off aj cj nj, a = some ⟨b, off, none⟩ ∧ lo ≤ b ∧ b < w.heap.size ∧ w.cell? ⟨b, off + j * 2, none⟩ = some (.int .u16 (nthR rs j).1) ∧ w.cell? ⟨b, off + j * 2 + 1, none⟩ = some (.slice aj nj cj) ∧ (nthR rs j).2.length = nj ∧
    w.ownsRow lo 22 1 (.slice aj nj cj) nj ((nthR rs j).2.map (Value.int .u32)) ∧ Value.ownBlock (.slice aj nj cj) ≠ some b ∧
    ∀ i, k ≤ i → i < rs.length → i ≠ j → ∀ ai ci ni g, w.cell? ⟨b, off + i * 2 + 1, none⟩ = some (.slice ai ni ci) → Value.ownBlock (.slice ai ni ci) = some g → Value.ownBlock (.slice aj nj cj) ≠ some g

theorem own_grown {w w' : World} {B e size n : Nat} {v : Value} {xs : List Value} {ob : Option Nat} (h : w.ownsRow B e size v n xs) (hg : w.grownBy w' ob) (hne : ∀ g, ob = some g → v.ownBlock ≠ some g) : w'.ownsRow B e size v n xs := by
  refine ⟨h.1, ?_⟩
  rcases h.2 with hn | ⟨g, cap, cur, rfl, hb, hgg, rest⟩
  · exact .inl hn
  · exact .inr ⟨g, cap, cur, rfl, hb, by rw [hg.block g (Array.getElem?_eq_some_iff.1 hgg).1 (fun e => hne g e.symm rfl)]; exact hgg, rest⟩

/-- What is written in one instruction's words leaves the later ones. -/
theorem OwnR.next {w w' : World} {lo k b off : Nat} {a : Option Addr} {rs : List (Int × List Int)} {ak : Option Addr} {nk ck : Nat} (h : OwnR w lo a k rs) (ha : a = some ⟨b, off, none⟩) (hk : k < rs.length) (hc : w.cell? ⟨b, off + k * 2 + 1, none⟩ = some (.slice ak nk ck)) (hg : w.grownBy w' (Value.ownBlock (.slice ak nk ck))) : OwnR w' lo a (k + 1) rs := by
  obtain ⟨b0, off0, ak0, ck0, nk0, e0, _, _, _, hc0, _, _, hnb, _⟩ := h k (Nat.le_refl _) hk
  rw [ha] at e0
  simp at e0
  obtain ⟨rfl, rfl⟩ := e0
  rw [hc] at hc0
  simp at hc0
  obtain ⟨rfl, rfl, rfl⟩ := hc0
  have cell : ∀ o, w'.cell? ⟨b, o, none⟩ = w.cell? ⟨b, o, none⟩ := fun o => World.cell?_of_block (hg.block b (World.block_lt_of_cell? _ _ hc) (fun e => hnb e.symm))
  intro j hj hjl
  obtain ⟨b1, off1, aj, cj, nj, e1, hlo1, hb1, c1, c2, c3, c4, c5, c6⟩ := h j (by omega) hjl
  rw [ha] at e1
  simp at e1
  obtain ⟨rfl, rfl⟩ := e1
  refine ⟨b, off, aj, cj, nj, ha, hlo1, Nat.lt_of_lt_of_le hb1 hg.size, (cell _).trans c1, (cell _).trans c2, c3, own_grown c4 hg (fun g e => c6 k (Nat.le_refl _) hk (by omega) ak ck nk g hc e), c5, ?_⟩
  intro i hi hil hij ai ci ni g hci
  rw [cell] at hci
  exact c6 i (by omega) hil hij ai ci ni g hci

theorem grown_drew (w : World) (q : Nat) (ob : Option Nat) : w.grownBy (w.drewN q) ob := by
  have h := bel_drewN (Below.refl w.heap.size w) q
  exact ⟨h.os, h.tape, h.output, h.size, fun k hk _ => h.block k hk⟩

/-- An append and what is written in its row: nothing but the old row and new blocks. -/
theorem grown_new {w w1 w2 : World} {ob : Option Nat} {g H : Nat} (h1 : w.grownBy w1 ob) (hat : ob = some g ∨ g = H) (hH : w.heap.size = H) (h2 : w1.grownBy w2 (some g)) : w.grownBy w2 ob :=
  ⟨h2.os.trans h1.os, h2.tape.trans h1.tape, h2.output.trans h1.output, Nat.le_trans h1.size h2.size, fun k hk hne =>
    (h2.block k (Nat.lt_of_lt_of_le hk h1.size) (fun e => by
      cases e
      rcases hat with h | h
      · exact hne h.symm
      · omega)).trans (h1.block k hk hne)⟩

/-- What is written elsewhere leaves them all. -/
theorem OwnR.kept {w w' : World} {lo lo' k : Nat} {a : Option Addr} {rs : List (Int × List Int)} {ob : Option Nat} (h : OwnR w lo a k rs) (hg : w.grownBy w' ob) (hob : ∀ g, ob = some g → g < lo) (hlo : lo' ≤ lo) : OwnR w' lo' a k rs := by
  intro j hj hjl
  obtain ⟨b, off, aj, cj, nj, e1, hlo1, hb1, c1, c2, c3, c4, c5, c6⟩ := h j hj hjl
  have hne : some b ≠ ob := fun e => by have := hob b e.symm; omega
  have cell : ∀ o, w'.cell? ⟨b, o, none⟩ = w.cell? ⟨b, o, none⟩ := fun o => World.cell?_of_block (hg.block b hb1 hne)
  have c4' := own_grown c4 hg (fun g e e2 => by have := (c4.lt g e2).1; have := hob g e; omega)
  refine ⟨b, off, aj, cj, nj, e1, Nat.le_trans hlo hlo1, Nat.lt_of_lt_of_le hb1 hg.size, (cell _).trans c1, (cell _).trans c2, c3, ⟨c4'.1, ?_⟩, c5, fun i hi hil hij ai ci ni g hci => by rw [cell] at hci; exact c6 i hi hil hij ai ci ni g hci⟩
  rcases c4'.2 with h0 | ⟨g, cap, cur, e, hb, rest⟩
  · exact .inl h0
  · exact .inr ⟨g, cap, cur, e, Nat.le_trans hlo hb, rest⟩
theorem OwnR.below {w w' : World} {lo k : Nat} {a : Option Addr} {rs : List (Int × List Int)} (h : OwnR w lo a k rs) (hb : Below w.heap.size w w') : OwnR w' lo a k rs :=
  h.kept (ob := none) ⟨hb.os, hb.tape, hb.output, hb.size, fun k hk _ => hb.block k hk⟩ (fun g e => by cases e) (Nat.le_refl _)

theorem OwnR.view {w : World} {lo : Nat} {a : Option Addr} {rs : List (Int × List Int)} (h : OwnR w lo a 0 rs) : RawsV w a rs := by
  intro j hj
  obtain ⟨b, off, aj, cj, nj, e, _, hb, c1, c2, c3, c4, _⟩ := h j (Nat.zero_le _) hj
  refine ⟨b, off, aj, cj, nj, e, hb, c1, c2, c3, View.ofOwn c4 c3, ?_⟩
  rcases c4.2 with ⟨e1, e2⟩ | ⟨g, c', cur, e1, _, _, e4, _⟩
  · omega
  · cases e1; exact e4

end Go.Proofs.YtmobologlaeefaaGreat

/-
  What Wrong of the document's answer returns: what is wrong with a word of the head.
-/
namespace Go.Proofs.YtmobologlaeefaaGreat
open Go.RowKit
set_option maxRecDepth 10000

/-- What is wrong with a word of the head, by its place. -/
def wrongE (k : Nat) (x : Int) : Int :=
  if k = 0 then (if x = 50471687 then 21 else if x = 119734787 then 0 else 20)
  else if k = 1 then (if x = 65536 then 0 else 22)
  else if k = 3 then (if x = 0 then 24 else if 65536 < x then 24 else 0)
  else if k = 4 then (if x = 0 then 0 else 23)
  else 0

set_option maxHeartbeats 1000000 in
theorem refWrong_any (k : Nat) (x : Int) (w : World) (hk : k < 5) :
    Calls Tryz.prog 67 #[.int .i64 k, .int .u32 x] w fun e w' => e = .returned (.int .i64 (wrongE k x)) ∧ w = w' := by
  rcases (show k = 0 ∨ k = 1 ∨ k = 2 ∨ k = 3 ∨ k = 4 by omega) with rfl | rfl | rfl | rfl | rfl
  · by_cases h1 : x = 50471687
    · have HE : Hid (wrongE 0 x = 21) := by show _ = _; simp [wrongE, h1]
      have b1 : (x == 50471687) = true := by simpa using h1
      clear h1
      go_enter Tryz.func67, Tryz.ntmps67
      go_wp2
      go_ret
      exact ⟨ret_int HE.out.symm, rfl⟩
    · have b1 : (x == 50471687) = false := by simpa using h1
      by_cases h2 : x = 119734787
      · have HE : Hid (wrongE 0 x = 0) := by show _ = _; simp [wrongE, h2]
        have b2 : (x == 119734787) = true := by simpa using h2
        clear h1 h2
        go_enter Tryz.func67, Tryz.ntmps67
        go_wp2
        go_ret
        exact ⟨ret_int HE.out.symm, rfl⟩
      · have HE : Hid (wrongE 0 x = 20) := by show _ = _; simp [wrongE, h1, h2]
        have b2 : (x == 119734787) = false := by simpa using h2
        clear h1 h2
        go_enter Tryz.func67, Tryz.ntmps67
        go_wp2
        go_ret
        exact ⟨ret_int HE.out.symm, rfl⟩
  · by_cases h1 : x = 65536
    · have HE : Hid (wrongE 1 x = 0) := by show _ = _; simp [wrongE, h1]
      have b1 : (x == 65536) = true := by simpa using h1
      clear h1
      go_enter Tryz.func67, Tryz.ntmps67
      go_wp2
      go_ret
      exact ⟨ret_int HE.out.symm, rfl⟩
    · have HE : Hid (wrongE 1 x = 22) := by show _ = _; simp [wrongE, h1]
      have b1 : (x == 65536) = false := by simpa using h1
      clear h1
      go_enter Tryz.func67, Tryz.ntmps67
      go_wp2
      go_ret
      exact ⟨ret_int HE.out.symm, rfl⟩
  · go_enter Tryz.func67, Tryz.ntmps67
    go_wp2
    go_ret
    exact ⟨rfl, rfl⟩
  · by_cases h1 : x = 0
    · have HE : Hid (wrongE 3 x = 24) := by show _ = _; simp [wrongE, h1]
      have b1 : (x == 0) = true := by simpa using h1
      clear h1
      go_enter Tryz.func67, Tryz.ntmps67
      go_wp2
      go_ret
      exact ⟨ret_int HE.out.symm, rfl⟩
    · have b1 : (x == 0) = false := by simpa using h1
      by_cases h2 : 65536 < x
      · have HE : Hid (wrongE 3 x = 24) := by show _ = _; simp [wrongE, h1, h2]
        have b2 : decide (65536 < x) = true := decide_eq_true h2
        clear h1 h2
        go_enter Tryz.func67, Tryz.ntmps67
        go_wp2
        go_ret
        exact ⟨ret_int HE.out.symm, rfl⟩
      · have HE : Hid (wrongE 3 x = 0) := by show _ = _; simp [wrongE, h1, h2]
        have b2 : decide (65536 < x) = false := decide_eq_false h2
        clear h1 h2
        go_enter Tryz.func67, Tryz.ntmps67
        go_wp2
        go_ret
        exact ⟨ret_int HE.out.symm, rfl⟩
  · by_cases h1 : x = 0
    · have HE : Hid (wrongE 4 x = 0) := by show _ = _; simp [wrongE, h1]
      have b1 : (x == 0) = true := by simpa using h1
      clear h1
      go_enter Tryz.func67, Tryz.ntmps67
      go_wp2
      go_ret
      exact ⟨ret_int HE.out.symm, rfl⟩
    · have HE : Hid (wrongE 4 x = 23) := by show _ = _; simp [wrongE, h1]
      have b1 : (x == 0) = false := by simpa using h1
      clear h1
      go_enter Tryz.func67, Tryz.ntmps67
      go_wp2
      go_ret
      exact ⟨ret_int HE.out.symm, rfl⟩

end Go.Proofs.YtmobologlaeefaaGreat

/-
  What At of the document's answer returns: the instruction at a place, up to another one, its words in new memory.
-/
namespace Go.Proofs.YtmobologlaeefaaGreat
open Go.RowKit

theorem RefAt.info : (Tryz.prog.info? 22).map (fun i => (i.zero, i.size, i.bytes)) = some (some (.int .u32 0), 1, 4) := by kernel_rfl

theorem own_base {w : World} {B B' e size n : Nat} {v : Value} {xs : List Value} (h : w.ownsRow B e size v n xs) (hb : B' ≤ B) : w.ownsRow B' e size v n xs := by
  refine ⟨h.1, ?_⟩
  rcases h.2 with hn | ⟨g, cap, cur, rfl, hg, rest⟩
  · exact .inl hn
  · exact .inr ⟨g, cap, cur, rfl, Nat.le_trans hb hg, rest⟩

/-- The words from a place up to another one. -/
def midL (zs : List Int) (p k : Nat) : List Int := (zs.drop p).take k
theorem midL_snoc (zs : List Int) (p k : Nat) (h : p + k < zs.length) : midL zs p (k + 1) = midL zs p k ++ [nth zs (p + k)] := by
  unfold midL
  rw [take_snoc _ _ (by rw [List.length_drop]; omega), nth_drop]
theorem midL_len (zs : List Int) (p k : Nat) (h : p + k ≤ zs.length) : (midL zs p k).length = k := by
  unfold midL; rw [List.length_take, List.length_drop]; omega

set_option maxRecDepth 100000 in
set_option maxHeartbeats 2000000 in
theorem refAt_any (a : Option Addr) (n cap : Nat) (zs : List Int) (w : World) (p q : Nat) (ha : View .u32 w a zs) (hl : zs.length = n) (hw : Within 4294967296 zs) (hn : 4 * n ≤ 140737488351232) (hp : p < q) (hq : q ≤ n) :
    Calls Tryz.prog 69 #[.slice a n cap, .int .i64 p, .int .i64 q] w fun e w' => ∃ ax cx, e = .returned (.agg #[.int .u16 (opI zs p), .slice ax (q - p - 1) cx]) ∧
      w'.ownsRow w.heap.size 22 1 (.slice ax (q - p - 1) cx) (q - p - 1) ((midL zs (p + 1) (q - p - 1)).map (Value.int .u32)) ∧ Below w.heap.size w w' := by
  obtain ⟨i0, hi, hz0, hz1, hz2⟩ := info_parts RefAt.info
  have HL : Hid (zs.length = n) := hl
  obtain ⟨b, off, rfl, hbs, hc⟩ := ha p (by omega)
  have hx := hw.at (k := p) (by omega)
  have HO : Hid (opI zs p = nth zs p % 65536) := rfl
  generalize nth zs p = x at hc hx HO
  have hx0 := hx.1
  have hx1 := hx.2
  have hpi : (p : Int) < (n : Int) := by omega
  clear hl hw hx
  go_enter Tryz.func69, Tryz.ntmps69
  go_wp2
  go_loopw [8] (fun i wr => ∃ (k : Nat) (v : Value), p + 1 + k ≤ q ∧ i = .int .i64 ((p + 1 + k : Nat) : Int) ∧ wr.heap[w.heap.size + 1]? = some (.cells #[.int .u16 (x % 65536), v] 93 (0, 0)) ∧ wr.heap[w.heap.size]? = some (.cells #[.int .u16 0, .slice none 0 0] 93 (0, 0)) ∧
      wr.ownsRow (w.heap.size + 2) 22 1 v k ((midL zs (p + 1) k).map (Value.int .u32)) ∧ Below w.heap.size w wr)
    (fun i _ => q - (intOf i).toNat)
  case atStart =>
    refine ⟨0, .slice none 0 0, by omega, by go_num, ?_, ?_, World.ownsRow_nil _ _ _ _, ((Below.refl _ _).alloc (Nat.le_refl _) _).alloc (by simp) _⟩
    · have := heap_alloc_new (w.alloc (.cells #[.int .u16 0, .slice none 0 0] 93)) (.cells #[.int .u16 (x % 65536), .slice none 0 0] 93)
      simpa using this
    · rw [Below.heap_alloc _ _ _ (by simp)]
      exact heap_alloc_new w _
  case round =>
    obtain ⟨k, v, hkq, rfl, hbox, hres, hown, hnx⟩ := hrel
    have hsz := hnx.size
    have hlt1 : w.heap.size + 1 < wr.heap.size := (Array.getElem?_eq_some_iff.1 hbox).1
    by_cases hlt : p + 1 + k < q
    · obtain ⟨b2, off2, e2, hbs2, hc2⟩ := ha (p + 1 + k) (by rw [HL.out]; omega)
      simp at e2
      obtain ⟨rfl, rfl⟩ := e2
      have HM : Hid (midL zs (p + 1) (k + 1) = midL zs (p + 1) k ++ [nth zs (p + 1 + k)]) := midL_snoc zs (p + 1) k (by rw [HL.out]; omega)
      have hcr : wr.cell? ⟨b, off + (p + 1 + k), none⟩ = some (.int .u32 (nth zs (p + 1 + k))) := (hnx.cell (p := ⟨b, off + (p + 1 + k), none⟩) hbs).trans hc2
      generalize nth zs (p + 1 + k) = y at hcr HM hc2
      obtain ⟨c0, c1, f1⟩ := cell_of_two hbox
      obtain ⟨ax, cx, hv⟩ : ∃ a c, v = .slice a k c := by
        rcases hown.2 with ⟨rfl, rfl⟩ | ⟨g, c, cur, rfl, _⟩
        · exact ⟨none, 0, rfl⟩
        · exact ⟨_, c, rfl⟩
      subst hv
      have hpk : ((p + 1 + k : Nat) : Int) < (q : Int) := by omega
      have hpn : ((p + 1 + k : Nat) : Int) < (n : Int) := by omega
      have hp0 : (0 : Int) ≤ ((p + 1 + k : Nat) : Int) := by omega
      have hob : ∀ j, Value.ownBlock (.slice ax k cx) = some j → w.heap.size + 2 ≤ j := fun j hj => by
        rcases hown.2 with ⟨h1, _⟩ | ⟨g, c, cur, h1, h2, _⟩
        · rw [h1] at hj; simp [Value.ownBlock] at hj
        · rw [h1] at hj; simp [Value.ownBlock] at hj; omega
      clear hc hc2 ha
      have hkn : k < n := by omega
      generalize hj : p + 1 + k = j at hcr hpk hpn hp0 hlt hkq ⊢
      have HJ : Hid (p + 1 + k = j) := hj
      clear hj
      go_wp2
      go_region_law ((refine step_append_lies _ (by rfl) _ _ _ (by rfl) (w.heap.size + 2) 22 i0 (.int .u32 0) 1 4 Tryz.underlying85 hi hz0 hz1 hz2 rfl (by omega) (.slice ax k cx) k _ (by rfl) ((hown.alloc _).drew) ⟨wr.heap.size, 0, none⟩ 1 1 [.int .u32 y] (by rfl) (by rfl) (World.news_of_block (cs := #[.int .u32 y]) (t := 22) (fr := (0, 0)) (heap_alloc_new wr _)) (by simp [Value.oneCell']) (by omega) (by unfold maxLen; omega) (by omega) (by simp; omega) (wr.heap.size + 1) (by simp) ?_; intro g2 cap2 w1 hown1 hgrow1 hat1 hlt1'; have hbox1 := (hgrow1.block (w.heap.size + 1) (by simp; omega) (fun e => by have := hob _ e.symm; omega)).trans ((Below.heap_alloc wr _ _ hlt1).trans hbox); have hres1 := (hgrow1.block w.heap.size (by simp; omega) (fun e => by have := hob _ e.symm; omega)).trans ((Below.heap_alloc wr _ _ (by omega)).trans hres); obtain ⟨d0, d1, e1⟩ := cell_of_two hbox1))
      all_goals
        go_wp2
        go_roundw
        case rel =>
          refine ⟨k + 1, .slice (some ⟨g2, 0, none⟩) (k + 1) cap2, by have := HJ.out; omega, by have := HJ.out; go_num, two_setCell hbox1 _, ?_, ?_, ?_⟩
          · rw [Below.heap_setCell _ _ _ _ (by simp)]; exact hres1
          · rw [HM.out, List.map_append]
            exact ownsRow_setCell_below hown1 (by simp) _
          · exact (((hnx.alloc hsz _).drew).grown hgrow1 (by simp; omega) (fun k hk => by have := hob k hk; omega)).setCell (by simp) _
        case measure => simp [intOf]; omega
    · have ek : k = q - p - 1 := by omega
      subst ek
      obtain ⟨c0, c1, f1⟩ := cell_of_two hbox
      obtain ⟨r0, r1, fr1⟩ := cell_of_two hres
      have fr0 : wr.frozen? ⟨w.heap.size, 0, none⟩ = false := by simp [World.frozen?, hres]
      obtain ⟨ax, cx, hv⟩ : ∃ a c, v = .slice a (q - p - 1) c := by
        rcases hown.2 with ⟨rfl, h0⟩ | ⟨g, c, cur, rfl, _⟩
        · exact ⟨none, 0, by rw [h0]⟩
        · exact ⟨_, c, rfl⟩
      subst hv
      have hfin : ((wr.setCell ⟨w.heap.size, 0, none⟩ (.int .u16 (x % 65536))).setCell ⟨w.heap.size, 1, none⟩ (.slice ax (q - p - 1) cx)).heap[w.heap.size]? = some (.cells #[.int .u16 (x % 65536), .slice ax (q - p - 1) cx] 93 (0, 0)) := by
        simp [World.setCell, Array.getElem?_modify, hres]
      obtain ⟨z0, z1, _⟩ := cell_of_two hfin
      have HZ0 : Hid (_ = _) := z0
      have HZ1 : Hid (_ = _) := z1
      clear z0 z1 hfin
      go_wp2
      refine bodyPost_ret (v := .agg #[.int .u16 (x % 65536), .slice ax (q - p - 1) cx]) (by simp [results, Tryz.results69, go_sem, HZ0.out, HZ1.out]) rfl ⟨ax, cx, by rw [HO.out], ?_, ?_⟩
      · exact own_base (ownsRow_setCell_below (ownsRow_setCell_below hown (by simp) _) (by simp) _) (by omega)
      · exact (hnx.setCell (by simp) _).setCell (by simp) _

end Go.Proofs.YtmobologlaeefaaGreat

/-
  What Read answers, as a function on lists: its error with its place, or the instructions; and the row of instructions in memory while it is built.
-/
namespace Go.Proofs.YtmobologlaeefaaGreat
open Go.RowKit

/-- The first word of the head that lacks or is wrong, from place k on. -/
def headF (zs : List Int) : Nat → Nat → Int × Nat
  | 0, _ => (0, 0)
  | f + 1, k => if k < 5 then (if zs.length ≤ k then (14, k) else if wrongE k (nth zs k) ≠ 0 then (wrongE k (nth zs k), k) else headF zs f (k + 1)) else (0, 0)
def headE (zs : List Int) (k : Nat) : Int × Nat := headF zs (5 - k) k
theorem headE_end (zs : List Int) : headE zs 5 = (0, 0) := rfl
theorem headE_step (zs : List Int) (k : Nat) (h : k < 5) : headE zs k = if zs.length ≤ k then (14, k) else if wrongE k (nth zs k) ≠ 0 then (wrongE k (nth zs k), k) else headE zs (k + 1) := by
  rw [headE, show 5 - k = (5 - (k + 1)) + 1 by omega, headF, if_pos h]; rfl

/-- The error of Read, and its place. -/
def readE (zs : List Int) : Int × Nat :=
  if 1048576 < zs.length then (4, 1048576) else if (headE zs 0).1 ≠ 0 then headE zs 0 else if stop zs 5 < zs.length then (25, stop zs 5) else (0, 0)
/-- The instruction at a place. -/
def rawAt (zs : List Int) (p : Nat) : Int × List Int := (opI zs p, midL zs (p + 1) (cntN zs p - 1))
/-- The instructions. -/
def readR (zs : List Int) : List (Int × List Int) := (rest zs 5).map (rawAt zs)

/-- The cells of a row of instructions: each operation, and each list of words, which lies in another block than the row. -/
structure RowR (w : World) (lo : Nat) (ob : Option Nat) (rs : List (Int × List Int)) (cs : List Value) : Prop where
  len : cs.length = rs.length * 2
  each : ∀ j, j < rs.length → ∃ aj cj nj, cs[j * 2]? = some (.int .u16 (nthR rs j).1) ∧ cs[j * 2 + 1]? = some (.slice aj nj cj) ∧ (nthR rs j).2.length = nj ∧ View .u32 w aj (nthR rs j).2 ∧ nj ≤ cj ∧ ∀ b off s, aj = some ⟨b, off, s⟩ → ob ≠ some b ∧ b < w.heap.size ∧ lo ≤ b

theorem rowR_nil {w : World} {lo : Nat} {ob : Option Nat} : RowR w lo ob [] [] := ⟨rfl, fun j hj => by simp at hj⟩

theorem RowR.view {w : World} {B T g n cap lo : Nat} {rs : List (Int × List Int)} {cs : List Value} {ob : Option Nat} (h : RowR w lo ob rs cs) (hown : w.ownsRow B T 2 (.slice (some ⟨g, 0, none⟩) n cap) n cs) (hl : rs.length = n) : RawsV w (some ⟨g, 0, none⟩) rs := by
  intro j hj
  obtain ⟨aj, cj, nj, h1, h2, h3, h4, h5, _⟩ := h.each j hj
  have c1 := hown.cellAt (j * 2) (by omega)
  have c2 := hown.cellAt (j * 2 + 1) (by omega)
  rw [h1] at c1
  rw [h2] at c2
  exact ⟨g, 0, aj, cj, nj, rfl, World.block_lt_of_cell? _ _ c1, by rw [Nat.zero_add]; exact c1, by rw [Nat.zero_add]; exact c2, h3, h4, h5⟩

theorem RowR.viewAny {w : World} {B T n cap lo : Nat} {a : Option Addr} {rs : List (Int × List Int)} {cs : List Value} {ob : Option Nat} (h : RowR w lo ob rs cs) (hown : w.ownsRow B T 2 (.slice a n cap) n cs) (hl : rs.length = n) : RawsV w a rs := by
  rcases hown.2 with ⟨_, hn⟩ | ⟨g, cap', cur, hv, _⟩
  · have : rs = [] := List.eq_nil_of_length_eq_zero (by omega)
    subst this; exact fun j hj => by simp at hj
  · cases hv; exact h.view hown hl

/-- What is written in the row alone leaves the words as they were. -/
theorem view_grown {k : IntKind} {w w' : World} {a : Option Addr} {zs : List Int} {ob : Option Nat} (h : View k w a zs) (hg : w.grownBy w' ob) (hne : ∀ b off s, a = some ⟨b, off, s⟩ → ob ≠ some b) : View k w' a zs := by
  intro j hj
  obtain ⟨b, off, e, hlt, hc⟩ := h j hj
  refine ⟨b, off, e, Nat.lt_of_lt_of_le hlt hg.size, ?_⟩
  rw [← hc]
  exact World.cell?_of_block (w := w) (hg.block b hlt (fun e' => hne b off none e e'.symm))

theorem RowR.below {w w' : World} {lo : Nat} {ob : Option Nat} {rs : List (Int × List Int)} {cs : List Value} (h : RowR w lo ob rs cs) (hb : Below w.heap.size w w') : RowR w' lo ob rs cs := by
  refine ⟨h.len, fun j hj => ?_⟩
  obtain ⟨aj, cj, nj, h1, h2, h3, h4, h5, h6⟩ := h.each j hj
  exact ⟨aj, cj, nj, h1, h2, h3, h4.below hb, h5, fun b off s e => ⟨(h6 b off s e).1, Nat.lt_of_lt_of_le (h6 b off s e).2.1 hb.size, (h6 b off s e).2.2⟩⟩

theorem RowR.setCell {w : World} {lo : Nat} {ob : Option Nat} {rs : List (Int × List Int)} {cs : List Value} (h : RowR w lo ob rs cs) {g j : Nat} (hg : g < lo) (u : Value) : RowR (w.setCell ⟨g, j, none⟩ u) lo ob rs cs := by
  refine ⟨h.len, fun i hi => ?_⟩
  obtain ⟨aj, cj, nj, h1, h2, h3, h4, h5, h6⟩ := h.each i hi
  exact ⟨aj, cj, nj, h1, h2, h3, h4.setCell (fun b off s e => (h6 b off s e).2.2) hg u, h5, fun b off s e => ⟨(h6 b off s e).1, by have := (h6 b off s e).2.1; simpa [World.setCell] using this, (h6 b off s e).2.2⟩⟩

theorem nthR_lo (rs : List (Int × List Int)) (r : Int × List Int) (j : Nat) (h : j < rs.length) : nthR (rs ++ [r]) j = nthR rs j := by
  simp [nthR, List.getD, List.getElem?_append_left h]
theorem nthR_hi (rs : List (Int × List Int)) (r : Int × List Int) : nthR (rs ++ [r]) rs.length = r := by
  simp [nthR, List.getD]

/-- An instruction more. -/
theorem RowR.push {w w' : World} {v : Value} {g' H lo : Nat} {rs : List (Int × List Int)} {cs : List Value} {r : Int × List Int} {a : Option Addr} {n c : Nat}
    (h : RowR w lo v.ownBlock rs cs) (hv : View .u32 w a r.2) (hl : r.2.length = n) (hc : n ≤ c) (ha : ∀ b off s, a = some ⟨b, off, s⟩ → v.ownBlock ≠ some b ∧ b < H ∧ lo ≤ b) (hH : w.heap.size = H)
    (hg : w.grownBy w' v.ownBlock) (hat : v.ownBlock = some g' ∨ g' = H) : RowR w' lo (some g') (rs ++ [r]) (cs ++ [.int .u16 r.1, .slice a n c]) := by
  have key : ∀ b, v.ownBlock ≠ some b → b < H → lo ≤ b → (some g' ≠ some b ∧ b < w'.heap.size ∧ lo ≤ b) := fun b h1 h2 h0 => by
    refine ⟨fun e => ?_, by have := hg.size; omega, h0⟩
    cases e
    rcases hat with h3 | h3
    · exact h1 h3
    · omega
  refine ⟨by simp [h.len]; omega, fun j hj => ?_⟩
  rw [List.length_append, List.length_singleton] at hj
  by_cases hjl : j < rs.length
  · obtain ⟨aj, cj, nj, h1, h2, h3, h4, h5, h6⟩ := h.each j hjl
    rw [nthR_lo _ _ _ hjl]
    have hcl := h.len
    exact ⟨aj, cj, nj, by rw [List.getElem?_append_left (by omega)]; exact h1, by rw [List.getElem?_append_left (by omega)]; exact h2, h3, view_grown h4 hg (fun b off s e => (h6 b off s e).1), h5,
      fun b off s e => key b (h6 b off s e).1 (by have := (h6 b off s e).2.1; omega) (h6 b off s e).2.2⟩
  · obtain rfl : j = rs.length := by omega
    rw [nthR_hi]
    have hcl := h.len
    refine ⟨a, c, n, ?_, ?_, hl, view_grown hv hg (fun b off s e => (ha b off s e).1), hc, fun b off s e => key b (ha b off s e).1 (ha b off s e).2.1 (ha b off s e).2.2⟩
    · rw [List.getElem?_append_right (by omega), show rs.length * 2 - cs.length = 0 by omega]; rfl
    · rw [List.getElem?_append_right (by omega), show rs.length * 2 + 1 - cs.length = 1 by omega]; rfl

end Go.Proofs.YtmobologlaeefaaGreat

/-
  A row of instructions while it is built, each with words in memory of its own.
-/
namespace Go.Proofs.YtmobologlaeefaaGreat
open Go.RowKit
set_option linter.unusedVariables false

/-- What a step may turn that leaves what lies from block lo on in cells: a block below lo, or one that is no cells. -/
def Apartly (w : World) (lo : Nat) (row : Option Nat) : Prop := ∀ g, row = some g → g < lo ∨ ∃ o : Obj, w.heap[g]? = some o ∧ o.isCells = false

theorem own_apartly {w w' : World} {lo e size n : Nat} {v : Value} {xs : List Value} {row : Option Nat} (h : w.ownsRow lo e size v n xs) (hg : w.grownBy w' row) (hr : Apartly w lo row) : w'.ownsRow lo e size v n xs := by
  refine ⟨h.1, ?_⟩
  rcases h.2 with hn | ⟨g, cap, cur, rfl, hb, hgg, rest⟩
  · exact .inl hn
  · refine .inr ⟨g, cap, cur, rfl, hb, ?_, rest⟩
    rw [hg.block g (Array.getElem?_eq_some_iff.1 hgg).1 (fun e => ?_)]
    · exact hgg
    · rcases hr g e.symm with h1 | ⟨o, h1, h2⟩
      · omega
      · rw [hgg] at h1; cases h1; cases h2

structure RowO (w : World) (lo : Nat) (ob : Option Nat) (rs : List (Int × List Int)) (cs : List Value) : Prop where
  len : cs.length = rs.length * 2
  each : ∀ j, j < rs.length → ∃ aj cj nj, cs[j * 2]? = some (.int .u16 (nthR rs j).1) ∧ cs[j * 2 + 1]? = some (.slice aj nj cj) ∧ (nthR rs j).2.length = nj ∧
    w.ownsRow lo 22 1 (.slice aj nj cj) nj ((nthR rs j).2.map (Value.int .u32)) ∧ (∀ g, Value.ownBlock (.slice aj nj cj) = some g → ob ≠ some g) ∧
    ∀ i, i < rs.length → i ≠ j → ∀ ai ci ni g, cs[i * 2 + 1]? = some (.slice ai ni ci) → Value.ownBlock (.slice ai ni ci) = some g → Value.ownBlock (.slice aj nj cj) ≠ some g

theorem rowO_nil {w : World} {lo : Nat} {ob : Option Nat} : RowO w lo ob [] [] := ⟨rfl, fun j hj => by simp at hj⟩

theorem RowO.grown {w w' : World} {lo : Nat} {ob : Option Nat} {rs : List (Int × List Int)} {cs : List Value} {row : Option Nat} (h : RowO w lo ob rs cs) (hg : w.grownBy w' row) (hr : Apartly w lo row) : RowO w' lo ob rs cs := by
  refine ⟨h.len, fun j hj => ?_⟩
  obtain ⟨aj, cj, nj, h1, h2, h3, h4, h5, h6⟩ := h.each j hj
  exact ⟨aj, cj, nj, h1, h2, h3, own_apartly h4 hg hr, h5, h6⟩
theorem RowO.below {w w' : World} {lo : Nat} {ob : Option Nat} {rs : List (Int × List Int)} {cs : List Value} (h : RowO w lo ob rs cs) (hb : Below w.heap.size w w') : RowO w' lo ob rs cs :=
  h.grown (grown_of_below hb none) (fun g e => by cases e)

/-- An instruction more, whose words have been laid since w0. -/
theorem RowO.push {w0 w w' : World} {v : Value} {g' lo : Nat} {rs : List (Int × List Int)} {cs : List Value} {op : Int} {ms : List Int} {a : Option Addr} {n c : Nat}
    (h : RowO w0 lo v.ownBlock rs cs) (hb : Below w0.heap.size w0 w) (hs : w.ownsRow w0.heap.size 22 1 (.slice a n c) n (ms.map (Value.int .u32))) (hl : ms.length = n) (hv : ∀ b, v.ownBlock = some b → b < w0.heap.size) (hlo : lo ≤ w0.heap.size)
    (hg : w.grownBy w' v.ownBlock) (hat : v.ownBlock = some g' ∨ g' = w.heap.size) : RowO w' lo (some g') (rs ++ [(op, ms)]) (cs ++ [.int .u16 op, .slice a n c]) := by
  have hcl := h.len
  -- the new words' block
  have hnew : ∀ g, Value.ownBlock (.slice a n c) = some g → w0.heap.size ≤ g ∧ g < w.heap.size := fun g e => hs.lt g e
  have hold : ∀ i, i < rs.length → ∀ ai ci ni g, cs[i * 2 + 1]? = some (.slice ai ni ci) → Value.ownBlock (.slice ai ni ci) = some g → g < w0.heap.size := fun i hi ai ci ni g hc e => by
    obtain ⟨aj, cj, nj, _, h2, _, h4, _⟩ := h.each i hi
    rw [hc] at h2
    cases h2
    exact (h4.lt g e).2
  have hown : ∀ {sv : Value} {m : Nat} {xs : List Value} {B : Nat}, w.ownsRow B 22 1 sv m xs → (∀ g, sv.ownBlock = some g → v.ownBlock ≠ some g) → w'.ownsRow B 22 1 sv m xs := fun h1 h2 => own_grown h1 hg (fun g e e2 => h2 g e2 e)
  have hne : ∀ g, g < w.heap.size → v.ownBlock ≠ some g → some g' ≠ some g := fun g h1 h2 e => by
    cases e
    rcases hat with h3 | h3
    · exact h2 h3
    · omega
  refine ⟨by simp [hcl]; omega, fun j hj => ?_⟩
  rw [List.length_append, List.length_singleton] at hj
  by_cases hjl : j < rs.length
  · obtain ⟨aj, cj, nj, h1, h2, h3, h4, h5, h6⟩ := h.each j hjl
    rw [nthR_lo _ _ _ hjl]
    refine ⟨aj, cj, nj, by rw [List.getElem?_append_left (by omega)]; exact h1, by rw [List.getElem?_append_left (by omega)]; exact h2, h3, hown (own_below h4 hb) h5, fun g e => hne g (by have := (h4.lt g e).2; have := hb.size; omega) (h5 g e), ?_⟩
    intro i hi hij ai ci ni g hci e
    rw [List.length_append, List.length_singleton] at hi
    by_cases hil : i < rs.length
    · rw [List.getElem?_append_left (by omega)] at hci
      exact h6 i hil hij ai ci ni g hci e
    · obtain rfl : i = rs.length := by omega
      rw [List.getElem?_append_right (by omega), show rs.length * 2 + 1 - cs.length = 1 by omega] at hci
      simp at hci
      obtain ⟨rfl, rfl, rfl⟩ := hci
      intro e2
      have h7 := (hnew g e).1
      have h8 := hold j hjl aj cj nj g h2 e2
      omega
  · obtain rfl : j = rs.length := by omega
    rw [nthR_hi]
    refine ⟨a, c, n, ?_, ?_, hl, ?_, fun g e => hne g (hnew g e).2 (fun e2 => by have := hv g e2; have := (hnew g e).1; omega), ?_⟩
    · rw [List.getElem?_append_right (by omega), show rs.length * 2 - cs.length = 0 by omega]; rfl
    · rw [List.getElem?_append_right (by omega), show rs.length * 2 + 1 - cs.length = 1 by omega]; rfl
    · refine hown ⟨hs.1, ?_⟩ (fun g e e2 => by have := hv g e2; have := (hnew g e).1; omega)
      rcases hs.2 with h0 | ⟨g, cap, cur, e, hb', rest⟩
      · exact .inl h0
      · exact .inr ⟨g, cap, cur, e, Nat.le_trans hlo hb', rest⟩
    · intro i hi hij ai ci ni g hci e e2
      rw [List.length_append, List.length_singleton] at hi
      have hil : i < rs.length := by omega
      rw [List.getElem?_append_left (by omega)] at hci
      have := hold i hil ai ci ni g hci e
      have := (hnew g e2).1
      omega

/-- The whole row is as 'OwnR' says. -/
theorem RowO.own {w : World} {T n cap lo : Nat} {a : Option Addr} {rs : List (Int × List Int)} {cs : List Value} (h : RowO w lo (Value.ownBlock (.slice a n cap)) rs cs) (hown : w.ownsRow lo T 2 (.slice a n cap) n cs) (hl : rs.length = n) : OwnR w lo a 0 rs := by
  intro j _ hj
  rcases hown.2 with ⟨_, hn⟩ | ⟨g, cap', cur, hv, hb, hgg, _⟩
  · omega
  · cases hv
    obtain ⟨aj, cj, nj, h1, h2, h3, h4, h5, h6⟩ := h.each j hj
    have hcl := h.len
    have c1 := hown.cellAt (j * 2) (by omega)
    have c2 := hown.cellAt (j * 2 + 1) (by omega)
    rw [h1] at c1
    rw [h2] at c2
    refine ⟨g, 0, aj, cj, nj, rfl, hb, (Array.getElem?_eq_some_iff.1 hgg).1, by rw [Nat.zero_add]; exact c1, by rw [Nat.zero_add]; exact c2, h3, h4, fun e => h5 g e rfl, ?_⟩
    intro i _ hi hij ai ci ni g2 hci e
    have c3 := hown.cellAt (i * 2 + 1) (by omega)
    rw [Nat.zero_add, c3] at hci
    exact h6 i hi hij ai ci ni g2 hci e

end Go.Proofs.YtmobologlaeefaaGreat

/-
  What Join of the words package returns, for every list of words whose bytes take at most 2^47 - 4096: their bytes, in new memory.
-/
namespace Go.Proofs.YtmobologlaeefaaGreat
open Go.RowKit
set_option maxRecDepth 10000

theorem Join.info_u8 : (Tryz.prog.info? 5).map (fun i => (i.zero, i.size, i.bytes)) = some (some (.int .u8 0), 1, 1) := by kernel_rfl

set_option maxHeartbeats 400000 in
theorem join_any (a : Option Addr) (n cap : Nat) (zs : List Int) (w : World) (hv : View .u32 w a zs) (hl : zs.length = n) (hn : 4 * n ≤ 140737488351232) (hw : Within 4294967296 zs) :
    Calls Tryz.prog 83 #[.slice a n cap] w fun e w' => e = .returned (.slice (some ⟨w.heap.size, 0, none⟩) (4 * n) (4 * n)) ∧
      w'.ownsRow w.heap.size 5 1 (.slice (some ⟨w.heap.size, 0, none⟩) (4 * n) (4 * n)) (4 * n) ((joinL zs).map (Value.int .u8)) ∧ Below w.heap.size w w' := by
  obtain ⟨i0, hi, hz0, hz1, hz2⟩ := info_parts Join.info_u8
  have HL : Hid (zs.length = n) := hl
  clear hl
  go_enter Tryz.func83, Tryz.ntmps83
  go_wp2_with (at_make; refine wpList_make_own _ rfl _ _ 43 rfl w.heap.size 5 i0 (.int .u8 0) 1 Tryz.underlying43 hi hz0 hz1 _ _ _ (4 * n) rfl rfl (by omega) (by rw [hz2]; omega) (by unfold maxLen; omega) (Nat.le_refl _) ?_)
  intro w1 hown1 hgrow1
  have hb1 : Below w.heap.size w w1 := (Below.refl _ w).grown hgrow1 (Nat.le_refl _) (by simp)
  go_wp2
  go_loopw [3, 13] (fun v i wr => ∃ k : Nat, k ≤ n ∧ i = .int .i64 k ∧ v = .slice (some ⟨w.heap.size, 0, none⟩) (4 * k) (4 * n) ∧
      wr.ownsRow w.heap.size 5 1 (.slice (some ⟨w.heap.size, 0, none⟩) (4 * k) (4 * n)) (4 * k) ((joinL (zs.take k)).map (Value.int .u8)) ∧ Below w.heap.size w wr)
    (fun _ i _ => n - (intOf i).toNat)
  case atStart => exact ⟨0, Nat.zero_le _, rfl, rfl, hown1, hb1⟩
  case round =>
    obtain ⟨k, hk, rfl, rfl, hown, hnx⟩ := hrel
    by_cases hlt : k < n
    · obtain ⟨b, off, rfl, hbs, hc⟩ := hv k (by rw [HL.out]; exact hlt)
      have hx := hw.at (k := k) (by rw [HL.out]; exact hlt)
      have hJ := joinL_snoc zs k (by rw [HL.out]; exact hlt)
      obtain ⟨x, hxe⟩ : ∃ x, x = nth zs k := ⟨_, rfl⟩
      rw [← hxe] at hc hx hJ
      have HJ : Hid (joinL (zs.take (k + 1)) = joinL (zs.take k) ++ four x) := hJ
      have hcr : wr.cell? ⟨b, off + k, none⟩ = some (.int .u32 x) := (hnx.cell (p := ⟨b, off + k, none⟩) hbs).trans hc
      have hx0 := hx.1
      have hx1 := hx.2
      clear hx hxe hJ hc hw hv hown1 hgrow1 hb1
      go_wp2
      go_loopw [3, 17] (fun v i wq => ∃ p : Nat, p ≤ 4 ∧ i = .int .i64 p ∧ v = .slice (some ⟨w.heap.size, 0, none⟩) (4 * k + p) (4 * n) ∧
          wq.ownsRow w.heap.size 5 1 (.slice (some ⟨w.heap.size, 0, none⟩) (4 * k + p) (4 * n)) (4 * k + p) ((joinL (zs.take k) ++ (four x).take p).map (Value.int .u8)) ∧ Below w.heap.size w wq)
        (fun _ i _ => 4 - (intOf i).toNat)
      case atStart => exact ⟨0, by omega, rfl, rfl, by simpa using hown, hnx⟩
      case round =>
        obtain ⟨p, hp, rfl, rfl, hownp, hnp⟩ := hrel
        clear hcr hown hnx
        by_cases hplt : p < 4
        · go_wp2_with (first | (go_at_call 115; refine (byteAt_any _ _ _ hx0 hx1 (by omega) (by omega)).mono ?_; rintro e w' ⟨rfl, rfl⟩) | (at_builtin; refine wpList_append_fits _ rfl (.tmp 20) (.tmp 24) 43 rfl w.heap.size 5 i0 1 Tryz.underlying43 hi hz1 w.heap.size (4 * k + p) (4 * n) _ rfl (hownp.alloc _) ⟨wr.heap.size, 0, none⟩ 1 1 [.int .u8 (byt x p)] rfl rfl (cell_one_new _ _ _) (ints_oneCell .u8 [byt x p]) (by omega) ?_; intro w4 hown4 hgrow4))
          go_roundw
          case rel =>
            refine ⟨p + 1, by omega, by go_num, rfl, ?_, ?_⟩
            · rw [four_snoc x p hplt, ← List.append_assoc, List.map_append]; exact hown4
            · exact (hnp.alloc hnp.size _).grown hgrow4 (by have := hnp.size; simp; omega) (fun j hj => by cases hj; exact Nat.le_refl _)
          case measure => simp [intOf]; omega
        · go_wp2
          go_roundw
          case rel =>
            obtain rfl : p = 4 := by omega
            refine ⟨k + 1, by omega, by go_num, rfl, ?_, hnp⟩
            rw [HJ.out]; exact hownp
          case measure => simp [intOf]; omega
    · go_wp2
      go_ret
      obtain rfl : k = n := by omega
      rw [List.take_of_length_le (by rw [HL.out]; exact Nat.le_refl _)] at hown
      exact ⟨rfl, hown, hnx⟩

end Go.Proofs.YtmobologlaeefaaGreat
