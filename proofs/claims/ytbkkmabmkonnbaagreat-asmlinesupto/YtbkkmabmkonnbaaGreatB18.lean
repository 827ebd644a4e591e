/-
  Texts laid together in one: AsmLineF, ToksMake, LexQuote, LexWrite.
-/
import Derived.WalkSpells
import Derived.WalkMore
import Derived.BigRegion
import Derived.Test.YtbkkmabmkonnbaaGreatProg
import Derived.Test.YtbkkmabmkonnbaaGreatB14
import Derived.Test.YtbkkmabmkonnbaaGreatB16
import Derived.Test.YtbkkmabmkonnbaaGreatB17
import Derived.Test.YtbkkmabmkonnbaaGreatB08
import Derived.Test.YtbkkmabmkonnbaaGreatB10
/-
  What Line of the layer asm returns.
-/
namespace Go.Proofs.YtbkkmabmkonnbaaGreat
open Go.RowKit
set_option linter.unusedVariables false
set_option linter.unusedSimpArgs false
set_option maxRecDepth 10000

theorem wok_kind {l : List TokT} (h : wOk l = true) : ∀ t ∈ l, t.1 ≠ 0 := by
  intro t ht e
  have := List.all_eq_true.1 h t ht
  rw [e] at this
  simp [tokOk] at this
/-- The boxes of an instruction and a spot are written. -/
theorem six_put {W : World} {b T S : Nat} {x0 x1 x2 x3 y0 y1 : Value} (kT : W.heap[b]? = some (.cells #[x0, x1, x2, x3] T (0, 0))) (kS : W.heap[b + 1]? = some (.cells #[y0, y1] S (0, 0))) (u0 u1 u2 u3 v0 v1 : Value) :
    ((((((W.setCell ⟨b, 0, none⟩ u0).setCell ⟨b, 1, none⟩ u1).setCell ⟨b, 2, none⟩ u2).setCell ⟨b, 3, none⟩ u3).setCell ⟨b + 1, 0, none⟩ v0).setCell ⟨b + 1, 1, none⟩ v1).heap[b]? = some (.cells #[u0, u1, u2, u3] T (0, 0)) ∧ ((((((W.setCell ⟨b, 0, none⟩ u0).setCell ⟨b, 1, none⟩ u1).setCell ⟨b, 2, none⟩ u2).setCell ⟨b, 3, none⟩ u3).setCell ⟨b + 1, 0, none⟩ v0).setCell ⟨b + 1, 1, none⟩ v1).heap[b + 1]? = some (.cells #[v0, v1] S (0, 0)) ∧
      Below b W ((((((W.setCell ⟨b, 0, none⟩ u0).setCell ⟨b, 1, none⟩ u1).setCell ⟨b, 2, none⟩ u2).setCell ⟨b, 3, none⟩ u3).setCell ⟨b + 1, 0, none⟩ v0).setCell ⟨b + 1, 1, none⟩ v1) := by
  refine ⟨?_, ?_, ?_⟩
  · simp only [World.setCell, Array.getElem?_modify, kT]; simp
  · simp only [World.setCell, Array.getElem?_modify, kS]; simp
  · exact ((((((Below.refl b W).setCell (Nat.le_refl _) _).setCell (Nat.le_refl _) _).setCell (Nat.le_refl _) _).setCell (Nat.le_refl _) _).setCell (by simp) _).setCell (by simp) _

theorem six_drew {W : World} {b T S : Nat} {x0 x1 x2 x3 y0 y1 : Value} (kT : W.heap[b]? = some (.cells #[x0, x1, x2, x3] T (0, 0))) (kS : W.heap[b + 1]? = some (.cells #[y0, y1] S (0, 0))) (u0 u1 u2 u3 v0 v1 : Value) :
    (((((((W.setCell ⟨b, 0, none⟩ u0).setCell ⟨b, 1, none⟩ u1).setCell ⟨b, 2, none⟩ u2).setCell ⟨b, 3, none⟩ u3).setCell ⟨b + 1, 0, none⟩ v0).setCell ⟨b + 1, 1, none⟩ v1).drew).heap[b]? = some (.cells #[u0, u1, u2, u3] T (0, 0)) ∧ (((((((W.setCell ⟨b, 0, none⟩ u0).setCell ⟨b, 1, none⟩ u1).setCell ⟨b, 2, none⟩ u2).setCell ⟨b, 3, none⟩ u3).setCell ⟨b + 1, 0, none⟩ v0).setCell ⟨b + 1, 1, none⟩ v1).drew).heap[b + 1]? = some (.cells #[v0, v1] S (0, 0)) ∧ Below b W (((((((W.setCell ⟨b, 0, none⟩ u0).setCell ⟨b, 1, none⟩ u1).setCell ⟨b, 2, none⟩ u2).setCell ⟨b, 3, none⟩ u3).setCell ⟨b + 1, 0, none⟩ v0).setCell ⟨b + 1, 1, none⟩ v1).drew) := by
  obtain ⟨h1, h2, h3⟩ := six_put kT kS u0 u1 u2 u3 v0 v1
  generalize ((((((W.setCell ⟨b, 0, none⟩ u0).setCell ⟨b, 1, none⟩ u1).setCell ⟨b, 2, none⟩ u2).setCell ⟨b, 3, none⟩ u3).setCell ⟨b + 1, 0, none⟩ v0).setCell ⟨b + 1, 1, none⟩ v1) = Y at *
  exact ⟨h1, h2, h3.drew⟩
theorem six_own {W : World} {b B e size n : Nat} {v : Value} {xs : List Value} (h : W.ownsRow B e size v n xs) (hB : b + 1 < B) (u0 u1 u2 u3 v0 v1 : Value) : ((((((W.setCell ⟨b, 0, none⟩ u0).setCell ⟨b, 1, none⟩ u1).setCell ⟨b, 2, none⟩ u2).setCell ⟨b, 3, none⟩ u3).setCell ⟨b + 1, 0, none⟩ v0).setCell ⟨b + 1, 1, none⟩ v1).ownsRow B e size v n xs :=
  ownsRow_setCell_below (ownsRow_setCell_below (ownsRow_setCell_below (ownsRow_setCell_below (ownsRow_setCell_below (ownsRow_setCell_below h (a := ⟨b, 0, none⟩) (by simp; omega) _) (a := ⟨b, 1, none⟩) (by simp; omega) _) (a := ⟨b, 2, none⟩) (by simp; omega) _) (a := ⟨b, 3, none⟩) (by simp; omega) _) (a := ⟨b + 1, 0, none⟩) (by simp; omega) _) (a := ⟨b + 1, 1, none⟩) (by simp; omega) _

/-- What Line leaves. -/
def LineQ (w w' : World) (R : LineR) (e : Ending) : Prop := ∃ ax m cx, e = .returned (.tuple #[instV R.1 ax m cx, .bool R.2.1, .agg #[.int .i64 R.2.2.1, .int .i64 R.2.2.2]]) ∧ w'.ownsRow w.heap.size 63 3 (.slice ax m cx) m (R.1.2.2.2.flatMap argC) ∧ R.1.2.2.2.length = m ∧ Below w.heap.size w w' ∧ (R.2.1 = true → InstOk R.1 ∧ R.2.2.1 = 0 ∧ R.2.2.2 = 0)

set_option maxHeartbeats 4000000 in
theorem asmLine_any (s : ByteArray) (b : Int) (w : World) (hs : 32 * s.size + 64 ≤ 140737488351232) :
    Calls Tryz.prog 9 #[.string s, .int .u32 b] w fun e w' => LineQ w w' (lineS s b) e := by
  have hT := fun wx => rowOf_any s wx hs
  obtain ⟨g1, _, g3, g4, _⟩ := toks_good (strI_within s) 0
  have hIn := toksIn_of (l := (toksP (strI s) 0).1) (n := (strI s).length) (by rw [strI_len]; omega) g4
  have hkd := wok_kind g1
  rw [strI_len] at g3
  obtain ⟨H, hH⟩ : ∃ H, H = lineS s b := ⟨_, rfl⟩
  rw [← hH]
  unfold lineS at hH
  obtain ⟨R, hR⟩ : ∃ R, R = toksP (strI s) 0 := ⟨_, rfl⟩
  rw [← hR] at hT hH g3 hIn hkd
  clear hR g4 g1
  obtain ⟨l, er, at_⟩ := R
  simp only at hT hH g3 hIn hkd
  have hB0 : Below w.heap.size w ((w.alloc (.cells #[.int .u16 0, .int .u32 0, .int .u32 0, .slice none 0 0] 26)).alloc (.cells #[.int .i64 0, .int .i64 0] 29)) := ((Below.refl _ w).alloc (Nat.le_refl _) _).alloc (by simp) _
  have kH : ((w.alloc (.cells #[.int .u16 0, .int .u32 0, .int .u32 0, .slice none 0 0] 26)).alloc (.cells #[.int .i64 0, .int .i64 0] 29)).heap[w.heap.size]? = some (.cells #[.int .u16 0, .int .u32 0, .int .u32 0, .slice none 0 0] 26 (0, 0)) := (Below.heap_alloc _ _ _ (by simp)).trans (heap_alloc_new w _)
  have kS : ((w.alloc (.cells #[.int .u16 0, .int .u32 0, .int .u32 0, .slice none 0 0] 26)).alloc (.cells #[.int .i64 0, .int .i64 0] 29)).heap[w.heap.size + 1]? = some (.cells #[.int .i64 0, .int .i64 0] 29 (0, 0)) := by simpa using heap_alloc_new (w.alloc (.cells #[.int .u16 0, .int .u32 0, .int .u32 0, .slice none 0 0] 26)) (.cells #[.int .i64 0, .int .i64 0] 29)
  go_enter Tryz.func9, Tryz.ntmps9
  go_wp2_with fail
  generalize (w.alloc (.cells #[.int .u16 0, .int .u32 0, .int .u32 0, .slice none 0 0] 26)).alloc (.cells #[.int .i64 0, .int .i64 0] 29) = W at *
  refine (hT _).mono ?_
  rintro e w1 ⟨a1, c1, rfl, hrow, hb1⟩
  have sS := (Array.getElem?_eq_some_iff.1 kS).1
  have hba : Below w1.heap.size w1 ((w1.alloc (.cells #[.slice a1 l.length c1, .int .i64 0, .int .i64 (s.size : Int)] 71)).alloc (.cells #[.int .i64 er, .int .i64 at_] 29)) := ((Below.refl _ w1).alloc (Nat.le_refl _) _).alloc (by simp) _
  have hb1a := hb1.trans (hba.mono hb1.size)
  have kH1 := (hb1a.block _ (by omega)).trans kH
  have kS1 := (hb1a.block _ sS).trans kS
  have hB1 := hB0.trans (hb1a.mono hB0.size)
  obtain ⟨hv, hfar⟩ := toks_of_own hrow rfl
  have hv1 := hv.below hba
  have hR1 : RowAt ((w1.alloc (.cells #[.slice a1 l.length c1, .int .i64 0, .int .i64 (s.size : Int)] 71)).alloc (.cells #[.int .i64 er, .int .i64 at_] 29)) w1.heap.size a1 l.length c1 0 (s.size : Int) #[] 71 := (Below.heap_alloc _ _ _ (by simp)).trans (heap_alloc_new w1 _)
  have kP : ((w1.alloc (.cells #[.slice a1 l.length c1, .int .i64 0, .int .i64 (s.size : Int)] 71)).alloc (.cells #[.int .i64 er, .int .i64 at_] 29)).heap[w1.heap.size + 1]? = some (.cells #[.int .i64 er, .int .i64 at_] 29 (0, 0)) := by simpa using heap_alloc_new (w1.alloc (.cells #[.slice a1 l.length c1, .int .i64 0, .int .i64 (s.size : Int)] 71)) (.cells #[.int .i64 er, .int .i64 at_] 29)
  have s1 : w.heap.size + 1 < w1.heap.size := Nat.lt_of_lt_of_le sS hb1.size
  have hsz : w1.heap.size + 2 = ((w1.alloc (.cells #[.slice a1 l.length c1, .int .i64 0, .int .i64 (s.size : Int)] 71)).alloc (.cells #[.int .i64 er, .int .i64 at_] 29)).heap.size := by simp
  have hE := ended_any w1.heap.size a1 l.length c1 0 (s.size : Int) #[] 71 _ hR1
  have HKH := hide kH1
  have HKS := hide kS1
  have HB1 := hide hB1
  have HKP := hide kP
  have HV := hide hv1
  have HR1 := hide hR1
  have HIN := hide hIn
  have HKD := hide hkd
  have HG3 := hide g3
  have HFAR : Hid (∀ b off, a1 = some ⟨b, off, none⟩ → b < w1.heap.size) := fun b off e => (hfar b off e).2
  have HS1 : Hid (w1.heap.size + 2 ≤ ((w1.alloc (.cells #[.slice a1 l.length c1, .int .i64 0, .int .i64 (s.size : Int)] 71)).alloc (.cells #[.int .i64 er, .int .i64 at_] 29)).heap.size) := by show _ ≤ _; rw [← hsz]; exact Nat.le_refl _
  clear hT hrow hb1 hba hb1a kH1 kS1 hB1 hv hv1 hfar hR1 kP hsz kH kS hB0 hIn g3 hkd
  by_cases he : er = 0 ∧ l ≠ []
  · obtain ⟨rfl, hne⟩ := he
    have h0 : 0 < l.length := List.length_pos_iff.2 hne
    rw [if_neg (by simpa using hne)] at hH
    rw [show (((0 : Nat) : Int) == (l.length : Int)) = false by simp; omega] at hE
    have HH := hide hH
    have HNE := hide hne
    clear hH hne
    go_wp2_with fail
    generalize (w1.alloc (.cells #[.slice a1 l.length c1, .int .i64 0, .int .i64 (s.size : Int)] 71)).alloc (.cells #[.int .i64 0, .int .i64 at_] 29) = W2 at *
    refine hE.mono ?_
    rintro x w3 ⟨rfl, q, rfl⟩
    have hbq := bel_drewN (Below.refl W2.heap.size W2) q
    have HKH3 := hide ((hbq.block _ (by have := HS1.out; omega)).trans HKH.out)
    have HKS3 := hide ((hbq.block _ (by have := HS1.out; omega)).trans HKS.out)
    have HB3 := hide (HB1.out.trans (hbq.mono HB1.out.size))
    have HV3 := hide (HV.out.below hbq)
    have HR3 := hide (HR1.out.below hbq)
    have HS3 : Hid (w1.heap.size + 2 ≤ (W2.drewN q).heap.size) := Nat.le_trans HS1.out hbq.size
    clear hbq hE HKH HKS HB1 HV HR1 HKP HS1
    generalize W2.drewN q = W3 at *
    obtain ⟨g0, g1, g2, _⟩ := HR3.out.cells
    have hba : Below W3.heap.size W3 (W3.alloc (.cells #[.slice a1 l.length c1, .int .i64 0, .int .i64 (s.size : Int), .int .u32 b, .int .u16 0, .string ⟨#[]⟩, .bool false, .bool false, .string ⟨#[]⟩, .string ⟨#[]⟩, .int .i64 0, .int .u8 0, .int .u16 0, .int .u32 0, .int .u32 0, .slice none 0 0, .int .i64 0] 76)) := (Below.refl _ _).alloc (Nat.le_refl _) _
    have hrd : Rea (W3.alloc (.cells #[.slice a1 l.length c1, .int .i64 0, .int .i64 (s.size : Int), .int .u32 b, .int .u16 0, .string ⟨#[]⟩, .bool false, .bool false, .string ⟨#[]⟩, .string ⟨#[]⟩, .int .i64 0, .int .u8 0, .int .u16 0, .int .u32 0, .int .u32 0, .slice none 0 0, .int .i64 0] 76)) W3.heap.size a1 l.length c1 0 (s.size : Int) b 0 noFrm 0 0 0 (.slice none 0 0) 0 := Rea.mk (heap_alloc_new W3 _)
    have HC := hide (read_any W3.heap.size a1 l.length c1 (s.size : Int) b l _ hrd (HV3.out.below hba) rfl (by have := HG3.out; omega) HIN.out HKD.out h0 (fun g off e => by have := HFAR.out g off e; have := HS3.out; omega))
    have HKH4 := hide ((hba.block _ (by have := HS3.out; omega)).trans HKH3.out)
    have HKS4 := hide ((hba.block _ (by have := HS3.out; omega)).trans HKS3.out)
    have HB4 := hide (HB3.out.trans (hba.mono HB3.out.size))
    have HS4 : Hid (w1.heap.size + 2 ≤ W3.heap.size ∧ W3.heap.size < (W3.alloc (.cells #[.slice a1 l.length c1, .int .i64 0, .int .i64 (s.size : Int), .int .u32 b, .int .u16 0, .string ⟨#[]⟩, .bool false, .bool false, .string ⟨#[]⟩, .string ⟨#[]⟩, .int .i64 0, .int .u8 0, .int .u16 0, .int .u32 0, .int .u32 0, .slice none 0 0, .int .i64 0] 76)).heap.size) := ⟨HS3.out, by simp⟩
    clear hba hrd HKH3 HKS3 HB3 HV3 HR3 HS3
    go_wp2_with fail
    generalize W3.alloc (.cells #[.slice a1 l.length c1, .int .i64 0, .int .i64 (s.size : Int), .int .u32 b, .int .u16 0, .string ⟨#[]⟩, .bool false, .bool false, .string ⟨#[]⟩, .string ⟨#[]⟩, .int .i64 0, .int .u8 0, .int .u16 0, .int .u32 0, .int .u32 0, .slice none 0 0, .int .i64 0] 76) = W4 at *
    refine HC.out.mono ?_
    rintro x w5 ⟨E, P, rfl, hg5, hq5⟩
    have hba : Below w5.heap.size w5 (w5.alloc (.cells #[.int .i64 E, .int .i64 P] 29)) := (Below.refl _ _).alloc (Nat.le_refl _) _
    have hs4 := HS4.out
    have hs5 := hg5.size
    have hb5 : Below w.heap.size w w5 := ⟨hg5.os.trans HB4.out.os, hg5.tape.trans HB4.out.tape, hg5.output.trans HB4.out.output, Nat.le_trans HB4.out.size hg5.size, fun j hj => (hg5.block j (Nat.lt_of_lt_of_le hj HB4.out.size) (by simp; omega)).trans (HB4.out.block j hj)⟩
    have kH5w := (hg5.block _ (by omega) (by simp; omega)).trans HKH4.out
    have kS5w := (hg5.block _ (by omega) (by simp; omega)).trans HKS4.out
    have kH5 := (hba.block _ (by omega)).trans kH5w
    have kS5 := (hba.block _ (by omega)).trans kS5w
    have hb6 := hb5.trans (hba.mono hb5.size)
    have kP5 := heap_alloc_new w5 (.cells #[.int .i64 E, .int .i64 P] 29)
    have HQ := hide hq5
    have HS5 := hide hs5
    clear hg5 HB4 HC HKH4 HKS4 hq5
    rw [← HH.out] at HQ
    rcases HQ.out with ⟨hE0, hR0⟩ | ⟨hE0, hP0, o, t, r, xs, ax, m, cx, k, q1, q2, q3, q4, q5, q6⟩
    · have hE' : (E != 0) = true := by simpa using hE0
      have HR0 := hide hR0
      obtain ⟨r1, r2, r3⟩ := six_drew kH5 kS5 (.int .u16 0) (.int .u32 0) (.int .u32 0) (.slice none 0 0) (.int .i64 E) (.int .i64 P)
      have HY := hide (hb6.trans r3)
      have HY1 := hide r1
      have HY2 := hide r2
      obtain ⟨ch, fh⟩ := blk_cells kH5
      obtain ⟨cp, fp⟩ := blk_cells kS5
      obtain ⟨ck, _⟩ := blk_cells kP5
      have HU := hide (And.intro (ch 0) (And.intro (ch 1) (And.intro (ch 2) (And.intro (ch 3) (And.intro (cp 0) (And.intro (cp 1) (And.intro (ck 0) (ck 1))))))))
      have HFF := hide (And.intro fh fp)
      have HSX : Hid (w.heap.size + 1 < w5.heap.size) := by show _ < _; omega
      clear r1 r2 r3 ch cp ck kH5 kS5 kP5 hb6 hba HQ hE0 hR0 fh fp hs4 hs5 g0 g1 g2 HH hb5 kH5w kS5w
      go_wp2_with fail
      generalize w5.alloc (.cells #[.int .i64 E, .int .i64 P] 29) = W6 at *
      obtain ⟨u0, u1, u2, u3, p0, p1, v0, v1⟩ := HU.out
      obtain ⟨fh, fp⟩ := HFF.out
      have n1 : w5.heap.size ≠ w.heap.size := by have := HSX.out; omega
      have n2 : w5.heap.size ≠ w.heap.size + 1 := by have := HSX.out; omega
      clear HU HFF
      go_region
      generalize ((((((W6.setCell ⟨w.heap.size, 0, none⟩ (.int .u16 0)).setCell ⟨w.heap.size, 1, none⟩ (.int .u32 0)).setCell ⟨w.heap.size, 2, none⟩ (.int .u32 0)).setCell ⟨w.heap.size, 3, none⟩ (.slice none 0 0)).setCell ⟨w.heap.size + 1, 0, none⟩ (.int .i64 E)).setCell ⟨w.heap.size + 1, 1, none⟩ (.int .i64 P)).drew = X at *
      clear u0 u1 u2 u3 p0 p1 v0 v1 fh fp
      go_wp2
      obtain ⟨e1, _⟩ := blk_cells HY1.out
      obtain ⟨e2, _⟩ := blk_cells HY2.out
      have a0 := e1 0
      have a1 := e1 1
      have a2 := e1 2
      have a3 := e1 3
      have b0 := e2 0
      have b1 := e2 1
      refine bodyPost_ret (v := .tuple #[.agg #[.int .u16 0, .int .u32 0, .int .u32 0, .slice none 0 0], .bool false, .agg #[.int .i64 E, .int .i64 P]]) ?_ rfl ?_
      · simp [results, Tryz.results9, go_sem, a0, a1, a2, a3, b0, b1]
      · rw [HR0.out]
        exact ⟨none, 0, 0, rfl, World.ownsRow_nil _ _ _ _, rfl, HY.out, fun h => by simp [noLine] at h⟩
    · subst hE0
      subst hP0
      have HR0 := hide q1
      obtain ⟨r1, r2, r3⟩ := six_put kH5w kS5w (.int .u16 (o : Int)) (.int .u32 t) (.int .u32 r) (.slice ax m cx) (.int .i64 0) (.int .i64 0)
      have HY := hide (hb5.trans r3)
      have HY1 := hide r1
      have HY2 := hide r2
      have HO := hide (own_mono7 (six_own q3 (b := w.heap.size) (by omega) (.int .u16 (o : Int)) (.int .u32 t) (.int .u32 r) (.slice ax m cx) (.int .i64 0) (.int .i64 0)) (B' := w.heap.size) (by omega))
      have z12 : w5.cell? ⟨W3.heap.size, 12, none⟩ = some (.int .u16 (o : Int)) := (blk_cells q2.block).1 12
      have z13 : w5.cell? ⟨W3.heap.size, 13, none⟩ = some (.int .u32 t) := (blk_cells q2.block).1 13
      have z14 : w5.cell? ⟨W3.heap.size, 14, none⟩ = some (.int .u32 r) := (blk_cells q2.block).1 14
      have z15 : w5.cell? ⟨W3.heap.size, 15, none⟩ = some (.slice ax m cx) := (blk_cells q2.block).1 15
      obtain ⟨ch, fh⟩ := blk_cells kH5w
      obtain ⟨cp, fp⟩ := blk_cells kS5w
      have u0 := ch 0
      have u1 := ch 1
      have u2 := ch 2
      have u3 := ch 3
      have p0 := cp 0
      have p1 := cp 1
      have HQ4 := hide (And.intro q4 q5)
      have n1 : W3.heap.size ≠ w.heap.size := by omega
      have n2 : W3.heap.size ≠ w.heap.size + 1 := by omega
      have l1 : W3.heap.size < w5.heap.size := by omega
      have l2 : w.heap.size < w5.heap.size := by omega
      have l3 : w.heap.size + 1 < w5.heap.size := by omega
      have HSZ : Hid (w.heap.size ≤ w5.heap.size) := by show _ ≤ _; omega
      clear r1 r2 r3 ch cp kH5 kS5 kP5 hb6 hba HQ hs4 hs5 g0 g1 g2 HH q1 q2 q3 q4 q5 q6 hb5 kH5w kS5w
      go_wp2_with fail
      generalize ((((((w5.setCell ⟨w.heap.size, 0, none⟩ (.int .u16 (o : Int))).setCell ⟨w.heap.size, 1, none⟩ (.int .u32 t)).setCell ⟨w.heap.size, 2, none⟩ (.int .u32 r)).setCell ⟨w.heap.size, 3, none⟩ (.slice ax m cx)).setCell ⟨w.heap.size + 1, 0, none⟩ (.int .i64 0)).setCell ⟨w.heap.size + 1, 1, none⟩ (.int .i64 0)) = X at *
      have hbx : Below X.heap.size X (X.alloc (.cells #[.int .i64 0, .int .i64 0] 29)) := (Below.refl _ _).alloc (Nat.le_refl _) _
      have sx := (Array.getElem?_eq_some_iff.1 HY2.out).1
      obtain ⟨e1, _⟩ := blk_cells ((hbx.block _ (by omega)).trans HY1.out)
      obtain ⟨e2, _⟩ := blk_cells ((hbx.block _ sx).trans HY2.out)
      have a0 := e1 0
      have a1 := e1 1
      have a2 := e1 2
      have a3 := e1 3
      have b0 := e2 0
      have b1 := e2 1
      refine bodyPost_ret (v := .tuple #[.agg #[.int .u16 (o : Int), .int .u32 t, .int .u32 r, .slice ax m cx], .bool true, .agg #[.int .i64 0, .int .i64 0]]) ?_ rfl ?_
      · generalize X.alloc (.cells #[.int .i64 0, .int .i64 0] 29) = Z at *
        simp [results, Tryz.results9, go_sem, a0, a1, a2, a3, b0, b1]
      · rw [HR0.out]
        exact ⟨ax, m, cx, rfl, own_below HO.out hbx, HQ4.out.1, HY.out.trans (hbx.mono HY.out.size), fun _ => ⟨HQ4.out.2, rfl, rfl⟩⟩
  · have hH' : H = noLine er at_ := by
      rw [hH]
      rw [if_pos]
      by_cases h : er = 0
      · right; exact Classical.byContradiction fun h2 => he ⟨h, h2⟩
      · exact .inl h
    have HR0 := hide hH'
    obtain ⟨r1, r2, r3⟩ := six_drew HKH.out HKS.out (.int .u16 0) (.int .u32 0) (.int .u32 0) (.slice none 0 0) (.int .i64 er) (.int .i64 at_)
    by_cases her : er = 0
    · have hl0 : l = [] := Classical.byContradiction fun h2 => he ⟨her, h2⟩
      subst her
      subst hl0
      rw [show (((0 : Nat) : Int) == ((([] : List TokT).length : Nat) : Int)) = true by simp] at hE
      clear r1 r2 r3 hH hH' he
      simp only [List.length_nil] at *
      go_wp2_with fail
      generalize (w1.alloc (.cells #[.slice a1 0 c1, .int .i64 0, .int .i64 (s.size : Int)] 71)).alloc (.cells #[.int .i64 0, .int .i64 at_] 29) = W2 at *
      refine hE.mono ?_
      rintro x w3 ⟨rfl, q, rfl⟩
      have hbq := bel_drewN (Below.refl W2.heap.size W2) q
      have hs1 := HS1.out
      have kH := (hbq.block _ (by omega)).trans HKH.out
      have kS := (hbq.block _ (by omega)).trans HKS.out
      have kP := (hbq.block _ (by omega)).trans HKP.out
      have hB3 := HB1.out.trans (hbq.mono HB1.out.size)
      generalize W2.drewN q = W6 at *
      obtain ⟨r1, r2, r3⟩ := six_drew kH kS (.int .u16 0) (.int .u32 0) (.int .u32 0) (.slice none 0 0) (.int .i64 0) (.int .i64 at_)
      have HY := hide (hB3.trans r3)
      have HY1 := hide r1
      have HY2 := hide r2
      obtain ⟨ch, fh⟩ := blk_cells kH
      obtain ⟨cp, fp⟩ := blk_cells kS
      obtain ⟨ck, _⟩ := blk_cells kP
      have u0 := ch 0
      have u1 := ch 1
      have u2 := ch 2
      have u3 := ch 3
      have p0 := cp 0
      have p1 := cp 1
      have v0 := ck 0
      have v1 := ck 1
      have n1 : w1.heap.size + 1 ≠ w.heap.size := by omega
      have n2 : w1.heap.size + 1 ≠ w.heap.size + 1 := by omega
      clear r1 r2 r3 ch cp ck kH kS kP hB3 hbq HKH HKS HKP HB1 hE HV HR1 hs1
      go_wp2_with fail
      go_region
      generalize ((((((W6.setCell ⟨w.heap.size, 0, none⟩ (.int .u16 0)).setCell ⟨w.heap.size, 1, none⟩ (.int .u32 0)).setCell ⟨w.heap.size, 2, none⟩ (.int .u32 0)).setCell ⟨w.heap.size, 3, none⟩ (.slice none 0 0)).setCell ⟨w.heap.size + 1, 0, none⟩ (.int .i64 0)).setCell ⟨w.heap.size + 1, 1, none⟩ (.int .i64 at_)).drew = X at *
      clear u0 u1 u2 u3 p0 p1 v0 v1 fh fp
      go_wp2
      obtain ⟨e1, _⟩ := blk_cells HY1.out
      obtain ⟨e2, _⟩ := blk_cells HY2.out
      have a0 := e1 0
      have a1 := e1 1
      have a2 := e1 2
      have a3 := e1 3
      have b0 := e2 0
      have b1 := e2 1
      refine bodyPost_ret (v := .tuple #[.agg #[.int .u16 0, .int .u32 0, .int .u32 0, .slice none 0 0], .bool false, .agg #[.int .i64 0, .int .i64 at_]]) ?_ rfl ?_
      · simp [results, Tryz.results9, go_sem, a0, a1, a2, a3, b0, b1]
      · rw [HR0.out]
        exact ⟨none, 0, 0, rfl, World.ownsRow_nil _ _ _ _, rfl, HY.out, fun h => by simp [noLine] at h⟩
    · have he' : (er != 0) = true := by simpa using her
      have HY := hide (HB1.out.trans r3)
      have HY1 := hide r1
      have HY2 := hide r2
      obtain ⟨ch, fh⟩ := blk_cells HKH.out
      obtain ⟨cp, fp⟩ := blk_cells HKS.out
      obtain ⟨ck, _⟩ := blk_cells HKP.out
      have HU := hide (And.intro (ch 0) (And.intro (ch 1) (And.intro (ch 2) (And.intro (ch 3) (And.intro (cp 0) (And.intro (cp 1) (And.intro (ck 0) (ck 1))))))))
      have HFF := hide (And.intro fh fp)
      clear r1 r2 r3 ch cp ck HKH HKS HKP HB1 hE her he hH hH' fh fp HV HR1
      go_wp2_with fail
      generalize (w1.alloc (.cells #[.slice a1 l.length c1, .int .i64 0, .int .i64 (s.size : Int)] 71)).alloc (.cells #[.int .i64 er, .int .i64 at_] 29) = W6 at *
      obtain ⟨u0, u1, u2, u3, p0, p1, v0, v1⟩ := HU.out
      obtain ⟨fh, fp⟩ := HFF.out
      have n1 : w1.heap.size + 1 ≠ w.heap.size := by omega
      have n2 : w1.heap.size + 1 ≠ w.heap.size + 1 := by omega
      clear HU HFF
      go_region
      generalize ((((((W6.setCell ⟨w.heap.size, 0, none⟩ (.int .u16 0)).setCell ⟨w.heap.size, 1, none⟩ (.int .u32 0)).setCell ⟨w.heap.size, 2, none⟩ (.int .u32 0)).setCell ⟨w.heap.size, 3, none⟩ (.slice none 0 0)).setCell ⟨w.heap.size + 1, 0, none⟩ (.int .i64 er)).setCell ⟨w.heap.size + 1, 1, none⟩ (.int .i64 at_)).drew = X at *
      clear u0 u1 u2 u3 p0 p1 v0 v1 fh fp
      go_wp2
      obtain ⟨e1, _⟩ := blk_cells HY1.out
      obtain ⟨e2, _⟩ := blk_cells HY2.out
      have a0 := e1 0
      have a1 := e1 1
      have a2 := e1 2
      have a3 := e1 3
      have b0 := e2 0
      have b1 := e2 1
      refine bodyPost_ret (v := .tuple #[.agg #[.int .u16 0, .int .u32 0, .int .u32 0, .slice none 0 0], .bool false, .agg #[.int .i64 er, .int .i64 at_]]) ?_ rfl ?_
      · simp [results, Tryz.results9, go_sem, a0, a1, a2, a3, b0, b1]
      · rw [HR0.out]
        exact ⟨none, 0, 0, rfl, World.ownsRow_nil _ _ _ _, rfl, HY.out, fun h => by simp [noLine] at h⟩

end Go.Proofs.YtbkkmabmkonnbaaGreat

/-
  A slice of tokens that the call makes and fills from its head on.
-/
namespace Go.Proofs.YtbkkmabmkonnbaaGreat
open Go.RowKit
set_option linter.unusedVariables false
set_option linter.unusedSimpArgs false

/-- The first k tokens stand in a row of n. -/
structure PartT (w : World) (g n k : Nat) (l : List TokT) : Prop where
  row : ∃ cs : Array Value, w.heap[g]? = some (.cells cs 55 (0, 0)) ∧ cs.size = n * 3
  each : ∀ j, j < k → w.cell? ⟨g, j * 3, none⟩ = some (.int .u8 (nthT l j).1) ∧ w.cell? ⟨g, j * 3 + 1, none⟩ = some (.string (nthT l j).2.1) ∧ w.cell? ⟨g, j * 3 + 2, none⟩ = some (.int .i64 (nthT l j).2.2)

theorem PartT.can {w : World} {g n k : Nat} {l : List TokT} (h : PartT w g n k l) (j : Nat) (hj : j < n * 3) : (∃ v, w.cell? ⟨g, j, none⟩ = some v) ∧ w.frozen? ⟨g, j, none⟩ = false := by
  obtain ⟨cs, h1, h2⟩ := h.row
  refine ⟨⟨cs[j], by simp [World.cell?, h1, h2, hj]⟩, by simp [World.frozen?, h1]⟩
theorem PartT.made {w : World} {B g n : Nat} {xs : List Value} {l : List TokT} (h : w.ownsRow B 55 3 (.slice (some ⟨g, 0, none⟩) n n) n xs) : PartT w g n 0 l := by
  refine ⟨?_, fun j hj => by omega⟩
  rcases h.2 with ⟨h', _⟩ | ⟨g', cap', cur, h', _, hg, _, _, hcs, _⟩
  · simp at h'
  · simp only [Value.slice.injEq, Option.some.injEq, Addr.mk.injEq, and_true, true_and] at h'
    obtain ⟨rfl, rfl⟩ := h'
    exact ⟨cur, hg, hcs⟩
theorem PartT.store {w : World} {g n k : Nat} {l : List TokT} (h : PartT w g n k l) (hk : k < n) :
    PartT (((w.setCell ⟨g, k * 3, none⟩ (.int .u8 (nthT l k).1)).setCell ⟨g, k * 3 + 1, none⟩ (.string (nthT l k).2.1)).setCell ⟨g, k * 3 + 2, none⟩ (.int .i64 (nthT l k).2.2)) g n (k + 1) l := by
  obtain ⟨⟨cs, h1, h2⟩, h3⟩ := h
  obtain ⟨W, hW⟩ : ∃ W, W = ((w.setCell ⟨g, k * 3, none⟩ (.int .u8 (nthT l k).1)).setCell ⟨g, k * 3 + 1, none⟩ (.string (nthT l k).2.1)).setCell ⟨g, k * 3 + 2, none⟩ (.int .i64 (nthT l k).2.2) := ⟨_, rfl⟩
  have hb : W.heap[g]? = some (.cells (((cs.setIfInBounds (k * 3) (.int .u8 (nthT l k).1)).setIfInBounds (k * 3 + 1) (.string (nthT l k).2.1)).setIfInBounds (k * 3 + 2) (.int .i64 (nthT l k).2.2)) 55 (0, 0)) := by
    rw [hW]; simp [World.setCell, Array.getElem?_modify, h1]
  have cell : ∀ j, W.cell? ⟨g, j, none⟩ = (((cs.setIfInBounds (k * 3) (.int .u8 (nthT l k).1)).setIfInBounds (k * 3 + 1) (.string (nthT l k).2.1)).setIfInBounds (k * 3 + 2) (.int .i64 (nthT l k).2.2))[j]? := fun j => by
    simp [World.cell?, hb]
  have old : ∀ j, w.cell? ⟨g, j, none⟩ = cs[j]? := fun j => by simp [World.cell?, h1]
  rw [← hW]
  refine ⟨⟨_, hb, by simp [h2]⟩, fun j hj => ?_⟩
  by_cases hjk : j < k
  · obtain ⟨c1, c2, c3⟩ := h3 j hjk
    rw [old] at c1 c2 c3
    refine ⟨?_, ?_, ?_⟩
    all_goals rw [cell, Array.getElem?_setIfInBounds_ne (by omega), Array.getElem?_setIfInBounds_ne (by omega), Array.getElem?_setIfInBounds_ne (by omega)]
    · exact c1
    · exact c2
    · exact c3
  · obtain rfl : j = k := by omega
    refine ⟨?_, ?_, ?_⟩
    · rw [cell, Array.getElem?_setIfInBounds_ne (by omega), Array.getElem?_setIfInBounds_ne (by omega), Array.getElem?_setIfInBounds_self_of_lt (by omega)]
    · rw [cell, Array.getElem?_setIfInBounds_ne (by omega), Array.getElem?_setIfInBounds_self_of_lt (by simp; omega)]
    · rw [cell, Array.getElem?_setIfInBounds_self_of_lt (by simp; omega)]
theorem PartT.view {w : World} {g n : Nat} {l : List TokT} (h : PartT w g n n l) (hl : l.length = n) : ToksV w (some ⟨g, 0, none⟩) l := by
  intro j hj
  obtain ⟨c1, c2, c3⟩ := h.each j (by omega)
  exact ⟨g, 0, rfl, World.block_lt_of_cell? _ _ c1, by rw [Nat.zero_add]; exact c1, by rw [Nat.zero_add]; exact c2, by rw [Nat.zero_add]; exact c3⟩
theorem PartT.lt {w : World} {g n k : Nat} {l : List TokT} (h : PartT w g n k l) : g < w.heap.size := by
  obtain ⟨cs, h1, _⟩ := h.row
  exact (Array.getElem?_eq_some_iff.1 h1).1
theorem three_belowX {B : Nat} {w0 w : World} (h : Below B w0 w) {g : Nat} (hg : B ≤ g) (i j m : Nat) (u v x : Value) : Below B w0 (((w.setCell ⟨g, i, none⟩ u).setCell ⟨g, j, none⟩ v).setCell ⟨g, m, none⟩ x) :=
  ((h.setCell (p := ⟨g, i, none⟩) hg u).setCell (p := ⟨g, j, none⟩) hg v).setCell (p := ⟨g, m, none⟩) hg x

theorem TokMake.info : (Tryz.prog.info? 55).map (fun i => (i.zero, i.size, i.bytes)) = some (some (.agg #[.int .u8 0, .string ⟨#[]⟩, .int .i64 0]), 3, 32) := by kernel_rfl

end Go.Proofs.YtbkkmabmkonnbaaGreat

/-
  What Quote of the layer lex returns, for every text whose quoted form keeps to Go's own limit of a length; nothing that was there turns.
-/
namespace Go.Proofs.YtbkkmabmkonnbaaGreat
open Go.RowKit
set_option maxRecDepth 10000
set_option linter.unusedVariables false
set_option linter.unusedSimpArgs false

theorem esc_quote {c : Int} (h : c = 34 ∨ c = 92) : escL c = [92, c] := by unfold escL; rw [if_pos h]
theorem esc_print {c : Int} (h : ¬ (c = 34 ∨ c = 92)) (h1 : printB c = true) : escL c = [c] := by unfold escL; rw [if_neg h, if_pos h1]
theorem esc_hex {c : Int} (h : ¬ (c = 34 ∨ c = 92)) (h1 : printB c = false) : escL c = [92, 120, hexD (c / 16), hexD (c % 16)] := by unfold escL; rw [if_neg h, if_neg (by simp [h1])]
theorem and15 {c : Int} (h0 : 0 ≤ c) (h1 : c < 256) : bits .and .u8 c 15 = c % 16 := by
  obtain ⟨n, rfl⟩ := Int.eq_ofNat_of_zero_le h0
  have hn : n < 256 := by omega
  have key : ∀ n : Fin 256, bits .and .u8 ((n.val : Nat) : Int) 15 = ((n.val : Nat) : Int) % 16 := by decide +kernel
  exact key ⟨n, hn⟩

end Go.Proofs.YtbkkmabmkonnbaaGreat

/-
  What written and Write of the layer lex return, for every list of tokens whose line keeps to Go's own limit of a length; nothing that was there turns.
-/
namespace Go.Proofs.YtbkkmabmkonnbaaGreat
open Go.RowKit
set_option maxRecDepth 10000
set_option linter.unusedVariables false
set_option linter.unusedSimpArgs false

end Go.Proofs.YtbkkmabmkonnbaaGreat
