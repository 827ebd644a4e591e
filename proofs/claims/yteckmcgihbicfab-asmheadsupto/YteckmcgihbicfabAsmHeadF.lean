/-
  What Head of the layer asm returns.
-/
import Derived.WalkSpells
import Derived.WalkMore
import Derived.BigRegion
import Derived.Test.YteckmcgihbicfabProg
import Derived.Test.YteckmcgihbicfabAsmHead
import Derived.Test.YteckmcgihbicfabAsmRowOf
namespace Go.Proofs.Yteckmcgihbicfab
open Go.RowKit
set_option linter.unusedVariables false
set_option linter.unusedSimpArgs false
set_option maxRecDepth 10000

set_option maxHeartbeats 4000000 in
theorem asmHead_any (s : ByteArray) (w : World) (hs : 32 * s.size + 64 ≤ 140737488351232) :
    Calls Try.prog 16 #[.string s] w fun e w' => e = .returned (.tuple #[.agg #[.int .u32 (headS s).1, .int .u32 (headS s).2.1], .agg #[.int .i64 (headS s).2.2.1, .int .i64 (headS s).2.2.2]]) ∧ Below w.heap.size w w' := by
  have hT := fun wx => rowOf_any s wx hs
  obtain ⟨_, _, g3, g4, _⟩ := toks_good (strI_within s) 0
  have hIn := toksIn_of (l := (toksP (strI s) 0).1) (n := (strI s).length) (by rw [strI_len]; omega) g4
  rw [strI_len] at g3
  obtain ⟨H, hH⟩ : ∃ H, H = headS s := ⟨_, rfl⟩
  rw [← hH]
  unfold headS at hH
  obtain ⟨R, hR⟩ : ∃ R, R = toksP (strI s) 0 := ⟨_, rfl⟩
  rw [← hR] at hT hH g3 hIn
  clear hR g4
  obtain ⟨l, er, at_⟩ := R
  simp only at hT hH g3 hIn
  have hB0 : Below w.heap.size w ((w.alloc (.cells #[.int .u32 0, .int .u32 0] 58)).alloc (.cells #[.int .i64 0, .int .i64 0] 28)) := ((Below.refl _ w).alloc (Nat.le_refl _) _).alloc (by simp) _
  have kH : ((w.alloc (.cells #[.int .u32 0, .int .u32 0] 58)).alloc (.cells #[.int .i64 0, .int .i64 0] 28)).heap[w.heap.size]? = some (.cells #[.int .u32 0, .int .u32 0] 58 (0, 0)) := (Below.heap_alloc _ _ _ (by simp)).trans (heap_alloc_new w _)
  have kS : ((w.alloc (.cells #[.int .u32 0, .int .u32 0] 58)).alloc (.cells #[.int .i64 0, .int .i64 0] 28)).heap[w.heap.size + 1]? = some (.cells #[.int .i64 0, .int .i64 0] 28 (0, 0)) := by simpa using heap_alloc_new (w.alloc (.cells #[.int .u32 0, .int .u32 0] 58)) (.cells #[.int .i64 0, .int .i64 0] 28)
  go_enter Try.func16, Try.ntmps16
  go_wp2_with fail
  generalize (w.alloc (.cells #[.int .u32 0, .int .u32 0] 58)).alloc (.cells #[.int .i64 0, .int .i64 0] 28) = W at *
  refine (hT _).mono ?_
  rintro e w1 ⟨a1, c1, rfl, hrow, hb1⟩
  have sS := (Array.getElem?_eq_some_iff.1 kS).1
  have hba : Below w1.heap.size w1 ((w1.alloc (.cells #[.slice a1 l.length c1, .int .i64 0, .int .i64 (s.size : Int)] 82)).alloc (.cells #[.int .i64 er, .int .i64 at_] 28)) := ((Below.refl _ w1).alloc (Nat.le_refl _) _).alloc (by simp) _
  have hb1a := hb1.trans (hba.mono hb1.size)
  have kH1 := (hb1a.block _ (by omega)).trans kH
  have kS1 := (hb1a.block _ sS).trans kS
  have hB1 := hB0.trans (hb1a.mono hB0.size)
  obtain ⟨hv, hfar⟩ := toks_of_own hrow rfl
  have hv1 := hv.below hba
  have hR1 : RowAt ((w1.alloc (.cells #[.slice a1 l.length c1, .int .i64 0, .int .i64 (s.size : Int)] 82)).alloc (.cells #[.int .i64 er, .int .i64 at_] 28)) w1.heap.size a1 l.length c1 0 (s.size : Int) #[] 82 := (Below.heap_alloc _ _ _ (by simp)).trans (heap_alloc_new w1 _)
  have kP : ((w1.alloc (.cells #[.slice a1 l.length c1, .int .i64 0, .int .i64 (s.size : Int)] 82)).alloc (.cells #[.int .i64 er, .int .i64 at_] 28)).heap[w1.heap.size + 1]? = some (.cells #[.int .i64 er, .int .i64 at_] 28 (0, 0)) := by simpa using heap_alloc_new (w1.alloc (.cells #[.slice a1 l.length c1, .int .i64 0, .int .i64 (s.size : Int)] 82)) (.cells #[.int .i64 er, .int .i64 at_] 28)
  have s1 : w.heap.size + 1 < w1.heap.size := Nat.lt_of_lt_of_le sS hb1.size
  have hsz : w1.heap.size + 2 = ((w1.alloc (.cells #[.slice a1 l.length c1, .int .i64 0, .int .i64 (s.size : Int)] 82)).alloc (.cells #[.int .i64 er, .int .i64 at_] 28)).heap.size := by simp
  have HKH := hide kH1
  have HKS := hide kS1
  have HB1 := hide hB1
  have HKP := hide kP
  have HFAR : Hid (∀ b off, a1 = some ⟨b, off, none⟩ → b ≠ w1.heap.size ∧ b < ((w1.alloc (.cells #[.slice a1 l.length c1, .int .i64 0, .int .i64 (s.size : Int)] 82)).alloc (.cells #[.int .i64 er, .int .i64 at_] 28)).heap.size) := fun b off e => by
    have := hfar b off e
    rw [← hsz]; omega
  have HC := hide (rowHead_any w1.heap.size a1 l.length c1 (s.size : Int) #[] 82 l _ hR1 hv1 rfl (by omega) hIn HFAR.out)
  have HS1 : Hid (w1.heap.size + 2 ≤ ((w1.alloc (.cells #[.slice a1 l.length c1, .int .i64 0, .int .i64 (s.size : Int)] 82)).alloc (.cells #[.int .i64 er, .int .i64 at_] 28)).heap.size) := by show _ ≤ _; rw [← hsz]; exact Nat.le_refl _
  clear hT hrow hb1 hba hb1a kH1 kS1 hB1 hv hv1 hfar hR1 kP hsz kH kS hB0 HFAR hIn g3
  by_cases he : er = 0
  · subst he
    rw [if_neg (by simp)] at hH
    rw [← hH] at HC
    clear hH
    go_wp2_with fail
    generalize (w1.alloc (.cells #[.slice a1 l.length c1, .int .i64 0, .int .i64 (s.size : Int)] 82)).alloc (.cells #[.int .i64 0, .int .i64 at_] 28) = W2 at *
    refine HC.out.mono ?_
    rintro x w3 ⟨rfl, hg3⟩
    have hs2 := HS1.out
    have hs3 := hg3.size
    have kH3 := (hg3.block _ (by omega) (by simp; omega)).trans HKH.out
    have kS3 := (hg3.block _ (by omega) (by simp; omega)).trans HKS.out
    have hb3 : Below w.heap.size w w3 := ⟨hg3.os.trans HB1.out.os, hg3.tape.trans HB1.out.tape, hg3.output.trans HB1.out.output, Nat.le_trans HB1.out.size hg3.size, fun j hj => (hg3.block j (Nat.lt_of_lt_of_le hj HB1.out.size) (by simp; omega)).trans (HB1.out.block j hj)⟩
    obtain ⟨ch, fh⟩ := blk_cells kH3
    obtain ⟨cp, fp⟩ := blk_cells kS3
    have u0 := ch 0
    have u1 := ch 1
    have p0 := cp 0
    have p1 := cp 1
    obtain ⟨H1, H2, H3, H4⟩ := H
    simp only
    obtain ⟨r1, r2, r3⟩ := four_put kH3 kS3 (.int .u32 H1) (.int .u32 H2) (.int .i64 H3) (.int .i64 H4)
    have HY := hide (hb3.trans r3)
    have HY1 := hide r1
    have HY2 := hide r2
    clear r1 r2 r3 ch cp kH3 kS3 hb3 hg3 HC HKH HKS HB1 HKP HS1
    go_wp2_with fail
    generalize (((w3.setCell ⟨w.heap.size, 0, none⟩ (.int .u32 H1)).setCell ⟨w.heap.size, 1, none⟩ (.int .u32 H2)).setCell ⟨w.heap.size + 1, 0, none⟩ (.int .i64 H3)).setCell ⟨w.heap.size + 1, 1, none⟩ (.int .i64 H4) = X at *
    obtain ⟨e1, _⟩ := blk_cells HY1.out
    obtain ⟨e2, _⟩ := blk_cells HY2.out
    have a0 := e1 0
    have a1 := e1 1
    have b0 := e2 0
    have b1 := e2 1
    refine bodyPost_ret (v := .tuple #[.agg #[.int .u32 H1, .int .u32 H2], .agg #[.int .i64 H3, .int .i64 H4]]) ?_ rfl ⟨rfl, HY.out⟩
    simp [results, Try.results16, go_sem, a0, a1, b0, b1]
  · have he' : (er != 0) = true := by simp [he]
    rw [if_pos he] at hH
    subst hH
    obtain ⟨ch, fh⟩ := blk_cells HKH.out
    obtain ⟨cp, fp⟩ := blk_cells HKS.out
    obtain ⟨ck, _⟩ := blk_cells HKP.out
    obtain ⟨r1, r2, r3⟩ := four_drew HKH.out HKS.out (.int .u32 0) (.int .u32 0) (.int .i64 er) (.int .i64 at_)
    have HY := hide (HB1.out.trans r3)
    have HY1 := hide r1
    have HY2 := hide r2
    have HU := hide (And.intro (ch 0) (And.intro (ch 1) (And.intro (cp 0) (And.intro (cp 1) (And.intro (ck 0) (ck 1))))))
    have HFF := hide (And.intro fh fp)
    clear r1 r2 r3 ch cp ck HC HKH HKS HKP HB1 fh fp
    go_wp2_with fail
    generalize (w1.alloc (.cells #[.slice a1 l.length c1, .int .i64 0, .int .i64 (s.size : Int)] 82)).alloc (.cells #[.int .i64 er, .int .i64 at_] 28) = W2 at *
    obtain ⟨u0, u1, p0, p1, v0, v1⟩ := HU.out
    obtain ⟨fh, fp⟩ := HFF.out
    have n1 : w1.heap.size + 1 ≠ w.heap.size := by omega
    have n2 : w1.heap.size + 1 ≠ w.heap.size + 1 := by omega
    clear HU HFF
    go_region
    generalize ((((W2.setCell ⟨w.heap.size, 0, none⟩ (.int .u32 0)).setCell ⟨w.heap.size, 1, none⟩ (.int .u32 0)).setCell ⟨w.heap.size + 1, 0, none⟩ (.int .i64 er)).setCell ⟨w.heap.size + 1, 1, none⟩ (.int .i64 at_)).drew = X at *
    clear u0 u1 p0 p1 v0 v1 fh fp
    go_wp2
    obtain ⟨e1, _⟩ := blk_cells HY1.out
    obtain ⟨e2, _⟩ := blk_cells HY2.out
    have a0 := e1 0
    have a1 := e1 1
    have b0 := e2 0
    have b1 := e2 1
    refine bodyPost_ret (v := .tuple #[.agg #[.int .u32 0, .int .u32 0], .agg #[.int .i64 er, .int .i64 at_]]) ?_ rfl ⟨rfl, HY.out⟩
    simp [results, Try.results16, go_sem, a0, a1, b0, b1]

end Go.Proofs.Yteckmcgihbicfab
