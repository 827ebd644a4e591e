/-
  What rowOf of the layer asm returns: a line's tokens as a row.
-/
import Derived.WalkSpells
import Derived.WalkMore
import Derived.BigRegion
import Derived.Test.YteckmcgihbicfabProg
import Derived.Test.YteckmcgihbicfabAsmRow
import Derived.Test.YteckmcgihbicfabLexTokens
namespace Go.Proofs.Yteckmcgihbicfab
open Go.RowKit
set_option linter.unusedVariables false
set_option linter.unusedSimpArgs false
set_option maxRecDepth 10000

theorem own_shape7 {w : World} {B e size n : Nat} {v : Value} {xs : List Value} (h : w.ownsRow B e size v n xs) : ∃ a c, v = .slice a n c := by
  rcases h.2 with ⟨rfl, h0⟩ | ⟨g, cap, cur, rfl, _⟩
  · exact ⟨none, 0, by rw [h0]⟩
  · exact ⟨_, _, rfl⟩
theorem own_mono7 {w : World} {B B' e size n : Nat} {v : Value} {xs : List Value} (h : w.ownsRow B e size v n xs) (hB : B' ≤ B) : w.ownsRow B' e size v n xs := by
  refine ⟨h.1, ?_⟩
  rcases h.2 with hn | ⟨g, cap, cur, e1, e2, rest⟩
  · exact .inl hn
  · exact .inr ⟨g, cap, cur, e1, Nat.le_trans hB e2, rest⟩
/-- Tokens in memory of their own. -/
theorem toks_of_own {w : World} {B n c : Nat} {a : Option Addr} {l : List TokT} (h : w.ownsRow B 77 3 (.slice a n c) n (l.flatMap tokC)) (hl : l.length = n) : ToksV w a l ∧ ∀ b off, a = some ⟨b, off, none⟩ → B ≤ b ∧ b < w.heap.size := by
  have hh := h
  rcases h.2 with ⟨e, h0⟩ | ⟨g, cap, cur, e, h1, hg, _⟩
  · simp only [Value.slice.injEq] at e
    obtain ⟨rfl, rfl, rfl⟩ := e
    have : l = [] := List.length_eq_zero_iff.1 hl
    subst this
    exact ⟨toksV_nil, fun b off e => by simp at e⟩
  · simp only [Value.slice.injEq, true_and] at e
    obtain ⟨rfl, rfl⟩ := e
    refine ⟨ToksV.ofRow hh hl, fun b off e => ?_⟩
    simp only [Option.some.injEq, Addr.mk.injEq] at e
    obtain ⟨rfl, _, _⟩ := e
    exact ⟨h1, (Array.getElem?_eq_some_iff.1 hg).1⟩

set_option maxHeartbeats 2000000 in
theorem rowOf_any (s : ByteArray) (w : World) (hs : 32 * s.size + 64 ≤ 140737488351232) :
    Calls Try.prog 28 #[.string s] w fun e w' => ∃ a c, e = .returned (.tuple #[.agg #[.slice a (toksP (strI s) 0).1.length c, .int .i64 0, .int .i64 (s.size : Int)], .agg #[.int .i64 (toksP (strI s) 0).2.1, .int .i64 (toksP (strI s) 0).2.2]]) ∧ w'.ownsRow w.heap.size 77 3 (.slice a (toksP (strI s) 0).1.length c) (toksP (strI s) 0).1.length ((toksP (strI s) 0).1.flatMap tokC) ∧ Below w.heap.size w w' := by
  have hT := fun wx => tokens_any s wx hs
  obtain ⟨R, hR⟩ : ∃ R, R = toksP (strI s) 0 := ⟨_, rfl⟩
  rw [← hR] at hT ⊢
  clear hR
  obtain ⟨l, er, at_⟩ := R
  simp only at hT ⊢
  have kT : ((w.alloc (.cells #[.slice none 0 0, .int .i64 0, .int .i64 0] 82)).alloc (.cells #[.int .i64 0, .int .i64 0] 28)).heap[w.heap.size]? = some (.cells #[.slice none 0 0, .int .i64 0, .int .i64 0] 82 (0, 0)) := (Below.heap_alloc _ _ _ (by simp)).trans (heap_alloc_new w _)
  have kS : ((w.alloc (.cells #[.slice none 0 0, .int .i64 0, .int .i64 0] 82)).alloc (.cells #[.int .i64 0, .int .i64 0] 28)).heap[w.heap.size + 1]? = some (.cells #[.int .i64 0, .int .i64 0] 28 (0, 0)) := by simpa using heap_alloc_new (w.alloc (.cells #[.slice none 0 0, .int .i64 0, .int .i64 0] 82)) (.cells #[.int .i64 0, .int .i64 0] 28)
  have hb : Below w.heap.size w ((w.alloc (.cells #[.slice none 0 0, .int .i64 0, .int .i64 0] 82)).alloc (.cells #[.int .i64 0, .int .i64 0] 28)) := ((Below.refl _ w).alloc (Nat.le_refl _) _).alloc (by simp) _
  go_enter Try.func28, Try.ntmps28
  go_wp2_with fail
  generalize (w.alloc (.cells #[.slice none 0 0, .int .i64 0, .int .i64 0] 82)).alloc (.cells #[.int .i64 0, .int .i64 0] 28) = W at *
  refine (hT _).mono ?_
  rintro e w1 ⟨v1, rfl, hrow, hb1⟩
  obtain ⟨a1, c1, rfl⟩ := own_shape7 hrow
  have sS := (Array.getElem?_eq_some_iff.1 kS).1
  have hba : Below w1.heap.size w1 (w1.alloc (.cells #[.int .i64 er, .int .i64 at_] 28)) := (Below.refl _ w1).alloc (Nat.le_refl _) _
  have hb1a := hb1.trans (hba.mono hb1.size)
  have HT := hide ((hb1a.block _ (by omega)).trans kT)
  have HS := hide ((hb1a.block _ sS).trans kS)
  have HB := hide (hb.trans (hb1a.mono hb.size))
  have HO := hide (own_below hrow hba)
  have HK := hide (heap_alloc_new w1 (.cells #[.int .i64 er, .int .i64 at_] 28))
  have s1 : w.heap.size + 1 < w1.heap.size := Nat.lt_of_lt_of_le sS hb1.size
  clear hT hrow hb1 hba hb1a kT kS hb
  go_wp2_with fail
  generalize w1.alloc (.cells #[.int .i64 er, .int .i64 at_] 28) = W2 at *
  obtain ⟨ct, ft⟩ := blk_cells HT.out
  obtain ⟨cp, fp⟩ := blk_cells HS.out
  obtain ⟨ck, _⟩ := blk_cells HK.out
  have t0 := ct 0
  have t1 := ct 1
  have t2 := ct 2
  have p0 := cp 0
  have p1 := cp 1
  have k0 := ck 0
  have k1 := ck 1
  have n1 : w1.heap.size ≠ w.heap.size := by omega
  have n2 : w1.heap.size ≠ w.heap.size + 1 := by omega
  obtain ⟨x1, x2, x3⟩ := five_drew HT.out HS.out (.slice a1 l.length c1) (.int .i64 0) (.int .i64 (s.size : Int)) (.int .i64 er) (.int .i64 at_)
  have hOX : (((((((W2.setCell ⟨w.heap.size, 0, none⟩ (.slice a1 l.length c1)).setCell ⟨w.heap.size, 1, none⟩ (.int .i64 0)).setCell ⟨w.heap.size, 2, none⟩ (.int .i64 (s.size : Int))).setCell ⟨w.heap.size + 1, 0, none⟩ (.int .i64 er)).setCell ⟨w.heap.size + 1, 1, none⟩ (.int .i64 at_))).drew).ownsRow w.heap.size 77 3 (.slice a1 l.length c1) l.length (l.flatMap tokC) := by
    have hlt := sS
    have h5 := ownsRow_setCell_below (ownsRow_setCell_below (ownsRow_setCell_below (ownsRow_setCell_below (ownsRow_setCell_below HO.out (a := ⟨w.heap.size, 0, none⟩) (by simp; omega) (.slice a1 l.length c1)) (a := ⟨w.heap.size, 1, none⟩) (by simp; omega) (.int .i64 0)) (a := ⟨w.heap.size, 2, none⟩) (by simp; omega) (.int .i64 (s.size : Int))) (a := ⟨w.heap.size + 1, 0, none⟩) (by simp; omega) (.int .i64 er)) (a := ⟨w.heap.size + 1, 1, none⟩) (by simp; omega) (.int .i64 at_)
    generalize (((((W2.setCell ⟨w.heap.size, 0, none⟩ (.slice a1 l.length c1)).setCell ⟨w.heap.size, 1, none⟩ (.int .i64 0)).setCell ⟨w.heap.size, 2, none⟩ (.int .i64 (s.size : Int))).setCell ⟨w.heap.size + 1, 0, none⟩ (.int .i64 er)).setCell ⟨w.heap.size + 1, 1, none⟩ (.int .i64 at_)) = Y at *
    exact own_mono7 (own_below h5 (Below.refl _ _).drew) (by omega)
  have HOX := hide hOX
  have HY := hide (HB.out.trans x3)
  have HY1 := hide x1
  have HY2 := hide x2
  clear x1 x2 x3 ct cp ck HT HS HK HO HB hOX
  go_region
  generalize ((((((W2.setCell ⟨w.heap.size, 0, none⟩ (.slice a1 l.length c1)).setCell ⟨w.heap.size, 1, none⟩ (.int .i64 0)).setCell ⟨w.heap.size, 2, none⟩ (.int .i64 (s.size : Int))).setCell ⟨w.heap.size + 1, 0, none⟩ (.int .i64 er)).setCell ⟨w.heap.size + 1, 1, none⟩ (.int .i64 at_))).drew = X at *
  clear t0 t1 t2 p0 p1 k0 k1 ft fp
  go_wp2
  obtain ⟨e1, _⟩ := blk_cells HY1.out
  obtain ⟨e2, _⟩ := blk_cells HY2.out
  have a0 := e1 0
  have a1' := e1 1
  have a2 := e1 2
  have b0 := e2 0
  have b1 := e2 1
  refine bodyPost_ret (v := .tuple #[.agg #[.slice a1 l.length c1, .int .i64 0, .int .i64 (s.size : Int)], .agg #[.int .i64 er, .int .i64 at_]]) ?_ rfl ⟨a1, c1, rfl, HOX.out, HY.out⟩
  simp [results, Try.results28, go_sem, a0, a1', a2, b0, b1]

end Go.Proofs.Yteckmcgihbicfab
