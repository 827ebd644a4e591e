/-
  Texts laid together in one: AsmRow, LexKinds, LexNumber.
-/
import Derived.WalkSpells
import Derived.WalkMore
import Derived.BigRegion
import Derived.Deep.QuietTactic
import Derived.BigQuiet
import Derived.Test.YtddackdadebjjaaGreatProg
import Derived.Test.YtddackdadebjjaaGreatB12
import Derived.Test.YtddackdadebjjaaGreatB03
import Derived.Test.YtddackdadebjjaaGreatB11
/-
  What faultAt and the methods ended and take of a row of tokens return, of the layer asm.
-/
namespace Go.Proofs.YtddackdadebjjaaGreat
open Go.RowKit
set_option linter.unusedVariables false
set_option linter.unusedSimpArgs false
set_option maxRecDepth 10000

def noTok : TokT := (0, ⟨#[]⟩, 0)
/-- Where a fault is told: at 0, if there is none. -/
def fltA (e p : Int) : Int := if e = 0 then 0 else p

theorem blk_cells {w : World} {B T : Nat} {cs : Array Value} (h : w.heap[B]? = some (.cells cs T (0, 0))) : (∀ i, w.cell? ⟨B, i, none⟩ = cs[i]?) ∧ (∀ i, w.frozen? ⟨B, i, none⟩ = false) :=
  ⟨fun i => by simp only [World.cell?, h]; rfl, fun i => by simp [World.frozen?, h]⟩
theorem two_set {w : World} {B T : Nat} {z0 z1 : Value} (h : w.heap[B]? = some (.cells #[z0, z1] T (0, 0))) (u0 u1 : Value) :
    ((w.setCell ⟨B, 0, none⟩ u0).setCell ⟨B, 1, none⟩ u1).heap[B]? = some (.cells #[u0, u1] T (0, 0)) := by
  simp only [World.setCell, Array.getElem?_modify, h]; simp
theorem three_setA {w : World} {B T : Nat} {z0 z1 z2 : Value} (h : w.heap[B]? = some (.cells #[z0, z1, z2] T (0, 0))) (u0 u1 u2 : Value) :
    (((w.setCell ⟨B, 0, none⟩ u0).setCell ⟨B, 1, none⟩ u1).setCell ⟨B, 2, none⟩ u2).heap[B]? = some (.cells #[u0, u1, u2] T (0, 0)) := by
  simp only [World.setCell, Array.getElem?_modify, h]; simp

set_option maxHeartbeats 1000000 in
theorem faultAt_any (t : TokT) (e : Int) (w : World) :
    Calls Tryz.prog 56 #[tokV t, .int .i64 e] w fun x w' => x = .returned (.agg #[.int .i64 e, .int .i64 (fltA e t.2.2)]) ∧ Below w.heap.size w w' := by
  obtain ⟨t1, t2, t3⟩ := t
  unfold tokV
  simp only
  by_cases h : e = 0
  · subst h
    go_enter Tryz.func56, Tryz.ntmps56
    go_wp2
    refine bodyPost_ret (v := .agg #[.int .i64 0, .int .i64 0]) ?_ rfl ⟨rfl, ?_⟩
    · simp [results, Tryz.results56, go_sem]
    · exact ((Below.refl _ w).alloc (Nat.le_refl _) _).alloc (by simp) _
  · have h' : (e == 0) = false := by simpa using h
    have e1 : fltA e t3 = t3 := by unfold fltA; rw [if_neg h]
    rw [e1]
    clear h e1
    go_enter Tryz.func56, Tryz.ntmps56
    go_wp2
    refine bodyPost_ret (v := .agg #[.int .i64 e, .int .i64 t3]) ?_ rfl ⟨rfl, ?_⟩
    · simp [results, Tryz.results56, go_sem]
    · exact ((Below.refl _ w).alloc (Nat.le_refl _) _).alloc (by simp) _

/-- A row of tokens in memory, at the front of a block. -/
def RowAt (w : World) (B : Nat) (a : Option Addr) (n c k : Nat) (len : Int) (rest : Array Value) (T : Nat) : Prop := w.heap[B]? = some (.cells (#[.slice a n c, .int .i64 (k : Int), .int .i64 len] ++ rest) T (0, 0))
theorem RowAt.lt {w : World} {B : Nat} {a : Option Addr} {n c k : Nat} {len : Int} {rest : Array Value} {T : Nat} (h : RowAt w B a n c k len rest T) : B < w.heap.size := (Array.getElem?_eq_some_iff.1 h).1
theorem RowAt.cells {w : World} {B : Nat} {a : Option Addr} {n c k : Nat} {len : Int} {rest : Array Value} {T : Nat} (h : RowAt w B a n c k len rest T) :
    w.cell? ⟨B, 0, none⟩ = some (.slice a n c) ∧ w.cell? ⟨B, 1, none⟩ = some (.int .i64 (k : Int)) ∧ w.cell? ⟨B, 2, none⟩ = some (.int .i64 len) ∧ ∀ i, w.frozen? ⟨B, i, none⟩ = false := by
  unfold RowAt at h
  refine ⟨?_, ?_, ?_, fun i => ?_⟩
  · simp only [World.cell?, h]; rw [Array.getElem?_append_left (by simp)]; rfl
  · simp only [World.cell?, h]; rw [Array.getElem?_append_left (by simp)]; rfl
  · simp only [World.cell?, h]; rw [Array.getElem?_append_left (by simp)]; rfl
  · simp [World.frozen?, h]
theorem RowAt.below {w w' : World} {B : Nat} {a : Option Addr} {n c k : Nat} {len : Int} {rest : Array Value} {T : Nat} (h : RowAt w B a n c k len rest T) (hb : Below w.heap.size w w') : RowAt w' B a n c k len rest T := (hb.block _ h.lt).trans h
theorem RowAt.step {w : World} {B : Nat} {a : Option Addr} {n c k : Nat} {len : Int} {rest : Array Value} {T : Nat} (h : RowAt w B a n c k len rest T) : RowAt (w.setCell ⟨B, 1, none⟩ (.int .i64 ((k + 1 : Nat) : Int))) B a n c (k + 1) len rest T := by
  unfold RowAt at *
  simp only [World.setCell, Array.getElem?_modify, h]
  simp
theorem grown_put {w A X : World} {r : Option Nat} (h : w.grownBy A r) (k : Below w.heap.size A X) : w.grownBy X r := ⟨k.os.trans h.os, k.tape.trans h.tape, k.output.trans h.output, Nat.le_trans h.size k.size, fun i hi hr => (k.block i hi).trans (h.block i hi hr)⟩
theorem grown_below2 {A B : World} (h : Below A.heap.size A B) (row : Option Nat) : A.grownBy B row := ⟨h.os, h.tape, h.output, h.size, fun k hk _ => h.block k hk⟩

set_option maxHeartbeats 1000000 in
theorem ended_any (B : Nat) (a : Option Addr) (n c k : Nat) (len : Int) (rest : Array Value) (T : Nat) (w : World) (h : RowAt w B a n c k len rest T) :
    Calls Tryz.prog 29 #[.pointer (some ⟨B, 0, none⟩)] w fun e w' => e = .returned (.bool ((k : Int) == (n : Int))) ∧ ∃ q, w' = w.drewN q := by
  obtain ⟨c0, c1, c2, cf⟩ := h.cells
  clear h
  go_enter Tryz.func29, Tryz.ntmps29
  go_wp2
  go_quiet (fail)
  go_wp2
  go_ret
  exact ⟨rfl, _, rfl⟩

/-- The two results' boxes. -/
theorem tok_spot_boxes (w : World) : ((w.alloc (.cells #[.int .u8 0, .string ⟨#[]⟩, .int .i64 0] 127)).alloc (.cells #[.int .i64 0, .int .i64 0] 29)).heap[w.heap.size]? = some (.cells #[.int .u8 0, .string ⟨#[]⟩, .int .i64 0] 127 (0, 0)) ∧ ((w.alloc (.cells #[.int .u8 0, .string ⟨#[]⟩, .int .i64 0] 127)).alloc (.cells #[.int .i64 0, .int .i64 0] 29)).heap[w.heap.size + 1]? = some (.cells #[.int .i64 0, .int .i64 0] 29 (0, 0)) ∧
    Below w.heap.size w ((w.alloc (.cells #[.int .u8 0, .string ⟨#[]⟩, .int .i64 0] 127)).alloc (.cells #[.int .i64 0, .int .i64 0] 29)) :=
  ⟨(Below.heap_alloc _ _ _ (by simp)).trans (heap_alloc_new w _), by simpa using heap_alloc_new (w.alloc (.cells #[.int .u8 0, .string ⟨#[]⟩, .int .i64 0] 127)) (.cells #[.int .i64 0, .int .i64 0] 29), ((Below.refl _ w).alloc (Nat.le_refl _) _).alloc (by simp) _⟩

/-- Both boxes are written. -/
theorem five_put {W : World} {b T S : Nat} {x0 x1 x2 y0 y1 : Value} (kT : W.heap[b]? = some (.cells #[x0, x1, x2] T (0, 0))) (kS : W.heap[b + 1]? = some (.cells #[y0, y1] S (0, 0))) (u0 u1 u2 v0 v1 : Value) :
    ((((((W.setCell ⟨b, 0, none⟩ u0).setCell ⟨b, 1, none⟩ u1).setCell ⟨b, 2, none⟩ u2).setCell ⟨b + 1, 0, none⟩ v0).setCell ⟨b + 1, 1, none⟩ v1)).heap[b]? = some (.cells #[u0, u1, u2] T (0, 0)) ∧ ((((((W.setCell ⟨b, 0, none⟩ u0).setCell ⟨b, 1, none⟩ u1).setCell ⟨b, 2, none⟩ u2).setCell ⟨b + 1, 0, none⟩ v0).setCell ⟨b + 1, 1, none⟩ v1)).heap[b + 1]? = some (.cells #[v0, v1] S (0, 0)) ∧ Below b W ((((((W.setCell ⟨b, 0, none⟩ u0).setCell ⟨b, 1, none⟩ u1).setCell ⟨b, 2, none⟩ u2).setCell ⟨b + 1, 0, none⟩ v0).setCell ⟨b + 1, 1, none⟩ v1)) := by
  refine ⟨?_, ?_, ?_⟩
  · simp only [World.setCell, Array.getElem?_modify, kT]; simp
  · simp only [World.setCell, Array.getElem?_modify, kS]; simp
  · exact (((((Below.refl b W).setCell (Nat.le_refl _) _).setCell (Nat.le_refl _) _).setCell (Nat.le_refl _) _).setCell (by simp) _).setCell (by simp) _
theorem five_drew {W : World} {b T S : Nat} {x0 x1 x2 y0 y1 : Value} (kT : W.heap[b]? = some (.cells #[x0, x1, x2] T (0, 0))) (kS : W.heap[b + 1]? = some (.cells #[y0, y1] S (0, 0))) (u0 u1 u2 v0 v1 : Value) :
    (((((((W.setCell ⟨b, 0, none⟩ u0).setCell ⟨b, 1, none⟩ u1).setCell ⟨b, 2, none⟩ u2).setCell ⟨b + 1, 0, none⟩ v0).setCell ⟨b + 1, 1, none⟩ v1)).drew).heap[b]? = some (.cells #[u0, u1, u2] T (0, 0)) ∧ (((((((W.setCell ⟨b, 0, none⟩ u0).setCell ⟨b, 1, none⟩ u1).setCell ⟨b, 2, none⟩ u2).setCell ⟨b + 1, 0, none⟩ v0).setCell ⟨b + 1, 1, none⟩ v1)).drew).heap[b + 1]? = some (.cells #[v0, v1] S (0, 0)) ∧ Below b W (((((((W.setCell ⟨b, 0, none⟩ u0).setCell ⟨b, 1, none⟩ u1).setCell ⟨b, 2, none⟩ u2).setCell ⟨b + 1, 0, none⟩ v0).setCell ⟨b + 1, 1, none⟩ v1)).drew) := by
  obtain ⟨h1, h2, h3⟩ := five_put kT kS u0 u1 u2 v0 v1
  generalize ((((((W.setCell ⟨b, 0, none⟩ u0).setCell ⟨b, 1, none⟩ u1).setCell ⟨b, 2, none⟩ u2).setCell ⟨b + 1, 0, none⟩ v0).setCell ⟨b + 1, 1, none⟩ v1)) = Y at *
  exact ⟨h1, h2, h3.drew⟩

set_option maxHeartbeats 2000000 in
theorem take_early (B : Nat) (a : Option Addr) (n c : Nat) (len : Int) (rest : Array Value) (T : Nat) (kd : Int) (w : World) (h : RowAt w B a n c n len rest T) :
    Calls Tryz.prog 55 #[.pointer (some ⟨B, 0, none⟩), .int .u8 kd] w fun e w' => e = .returned (.tuple #[tokV noTok, .agg #[.int .i64 72, .int .i64 len]]) ∧ Below w.heap.size w w' := by
  obtain ⟨kT, kS, hb⟩ := tok_spot_boxes w
  have hR := h.below hb
  have hE := ended_any B a n c n len rest T _ hR
  rw [show ((n : Int) == (n : Int)) = true by simp] at hE
  have hlt := h.lt
  clear h
  go_enter Tryz.func55, Tryz.ntmps55
  go_wp2_with fail
  generalize (w.alloc (.cells #[.int .u8 0, .string ⟨#[]⟩, .int .i64 0] 127)).alloc (.cells #[.int .i64 0, .int .i64 0] 29) = W at *
  refine hE.mono ?_
  rintro e w1 ⟨rfl, q, rfl⟩
  have hbq := bel_drewN (Below.refl W.heap.size W) q
  have sS := (Array.getElem?_eq_some_iff.1 kS).1
  have kT1 := (hbq.block _ (by omega)).trans kT
  have kS1 := (hbq.block _ sS).trans kS
  have hR1 := hR.below hbq
  have hb1 := hb.trans (hbq.mono hb.size)
  have s1 : w.heap.size + 1 < (W.drewN q).heap.size := Nat.lt_of_lt_of_le sS hbq.size
  clear hE hbq kT kS hR hb sS
  generalize W.drewN q = W1 at *
  obtain ⟨r0, r1, r2, rf⟩ := hR1.cells
  obtain ⟨ct, ft⟩ := blk_cells kT1
  obtain ⟨cp, fp⟩ := blk_cells kS1
  have t0 := ct 0
  have t1 := ct 1
  have t2 := ct 2
  have p0 := cp 0
  have p1 := cp 1
  have hne : B ≠ w.heap.size := by omega
  have hne1 : B ≠ w.heap.size + 1 := by omega
  have HB := hide hb1
  have HT := hide kT1
  have HS := hide kS1
  clear hR1 hb1 ct cp kT1 kS1
  go_wp2
  go_region
  obtain ⟨y1, y2, y3⟩ := five_drew HT.out HS.out (.int .u8 0) (.string ⟨#[]⟩) (.int .i64 0) (.int .i64 72) (.int .i64 len)
  have HY := hide (HB.out.trans y3)
  have HY1 := hide y1
  have HY2 := hide y2
  clear t0 t1 t2 p0 p1 ft fp r0 r1 r2 rf y1 y2 y3 HT HS HB
  generalize (((((W1.setCell ⟨w.heap.size, 0, none⟩ (.int .u8 0)).setCell ⟨w.heap.size, 1, none⟩ (.string ⟨#[]⟩)).setCell ⟨w.heap.size, 2, none⟩ (.int .i64 0)).setCell ⟨w.heap.size + 1, 0, none⟩ (.int .i64 72)).setCell ⟨w.heap.size + 1, 1, none⟩ (.int .i64 len)).drew = X at *
  go_wp2
  obtain ⟨z1, _⟩ := blk_cells HY1.out
  obtain ⟨z2, _⟩ := blk_cells HY2.out
  have a0 := z1 0
  have a1 := z1 1
  have a2 := z1 2
  have b0 := z2 0
  have b1 := z2 1
  refine bodyPost_ret (v := .tuple #[tokV noTok, .agg #[.int .i64 72, .int .i64 len]]) ?_ rfl ⟨rfl, HY.out⟩
  simp [results, Tryz.results55, go_sem, a0, a1, a2, b0, b1, tokV, noTok]

end Go.Proofs.YtddackdadebjjaaGreat

/-
  What kindOf, inRun, printable, digitValue and hexDigit of the layer lex return, for every byte; nothing turns.
-/
namespace Go.Proofs.YtddackdadebjjaaGreat
open Go.RowKit
set_option maxRecDepth 10000
set_option linter.unusedVariables false
set_option linter.unusedSimpArgs false

theorem printable_any (c : Int) (w : World) (h0 : 0 ≤ c) (h1 : c < 256) :
    Calls Tryz.prog 96 #[.int .u8 c] w fun e w' => e = .returned (.bool (printB c)) ∧ w = w' := by
  by_cases a : 32 ≤ c
  · by_cases b : c ≤ 126
    · have H : Hid (printB c = true) := by show _ = _; simp [printB]; omega
      go_enter Tryz.func96, Tryz.ntmps96
      go_wp2
      go_ret
      exact ⟨by rw [H.out]; first | rfl | (simp; done) | (simp; omega), rfl⟩
    · have H : Hid (printB c = false) := by show _ = _; simp [printB]; omega
      go_enter Tryz.func96, Tryz.ntmps96
      go_wp2
      go_ret
      exact ⟨by rw [H.out]; first | rfl | (simp; done) | (simp; omega), rfl⟩
  · have H : Hid (printB c = false) := by show _ = _; simp [printB]; omega
    go_enter Tryz.func96, Tryz.ntmps96
    go_wp2
    go_ret
    exact ⟨by rw [H.out]; first | rfl | (simp; done) | (simp; omega), rfl⟩

theorem inRun_any (k : Int) (w : World) (h0 : 0 ≤ k) (h1 : k < 256) :
    Calls Tryz.prog 80 #[.int .u8 k] w fun e w' => e = .returned (.bool (k == 3 || k == 4)) ∧ w = w' := by
  by_cases a : k = 3
  · subst a
    go_enter Tryz.func80, Tryz.ntmps80
    go_wp2
    go_ret
    exact ⟨rfl, rfl⟩
  · have a' : (k == 3) = false := by simpa using a
    go_enter Tryz.func80, Tryz.ntmps80
    go_wp2
    go_ret
    exact ⟨by rw [a']; rfl, rfl⟩

theorem kindL_letter {c : Int} (h : letterB c = true) : kindL c = 3 := by simp [kindL, h]
theorem kindL_digit {c : Int} (h : digitB c = true) : kindL c = 4 := by
  have : letterB c = false := by
    simp only [digitB, decide_eq_true_eq] at h
    simp [letterB]; omega
  simp [kindL, h, this]

set_option maxHeartbeats 1000000 in
theorem lexKindOf_any (c : Int) (w : World) (h0 : 0 ≤ c) (h1 : c < 256) :
    Calls Tryz.prog 77 #[.int .u8 c] w fun e w' => e = .returned (.int .u8 (kindL c)) ∧ w = w' := by
  by_cases a0 : c = 95
  · subst a0
    go_enter Tryz.func77, Tryz.ntmps77
    go_wp2
    go_ret
    exact ⟨rfl, rfl⟩
  by_cases a1 : 65 ≤ c ∧ c ≤ 90
  · have H : Hid (kindL c = 3) := kindL_letter (by simp [letterB]; omega)
    have b0 : (c == 95) = false := by simpa using a0
    obtain ⟨a2, a3⟩ := a1
    clear a0
    go_enter Tryz.func77, Tryz.ntmps77
    go_wp2
    go_ret
    exact ⟨by rw [H.out]; rfl, rfl⟩
  by_cases a2 : 97 ≤ c ∧ c ≤ 122
  · have H : Hid (kindL c = 3) := kindL_letter (by simp [letterB]; omega)
    have b0 : (c == 95) = false := by simpa using a0
    have b1 : 65 ≤ c := by omega
    have b2 : ¬ c ≤ 90 := by omega
    obtain ⟨a4, a3⟩ := a2
    clear a0 a1
    go_enter Tryz.func77, Tryz.ntmps77
    go_wp2
    go_ret
    exact ⟨by rw [H.out]; rfl, rfl⟩
  have d1 : (decide (65 ≤ c) && decide (c ≤ 90)) = false := by simpa using a1
  have d2 : (decide (97 ≤ c) && decide (c ≤ 122)) = false := by simpa using a2
  have hL : letterB c = false := by simp [letterB, a0]; omega
  have b0 : (c == 95) = false := by simpa using a0
  by_cases a3 : 48 ≤ c ∧ c ≤ 57
  · have H : Hid (kindL c = 4) := kindL_digit (by simp [digitB]; omega)
    obtain ⟨a4, a5⟩ := a3
    have b1 : ¬ 65 ≤ c := by omega
    have b2 : ¬ 97 ≤ c := by omega
    clear a0 a1 a2 d1 d2 hL
    go_enter Tryz.func77, Tryz.ntmps77
    go_wp2
    go_ret
    exact ⟨by rw [H.out]; rfl, rfl⟩
  have hD : digitB c = false := by simp [digitB]; omega
  have HK : Hid (kindL c = if blankB c then 2 else if c = 37 then 5 else if c = 45 then 6 else if c = 34 then 7 else if c = 92 then 8 else if c = 61 then 9 else if c = 59 then 10 else 1) := by
    show _ = _
    simp only [kindL, hL, hD]; rfl
  by_cases e0 : c = 9 ∨ c = 13 ∨ c = 32 ∨ c = 37 ∨ c = 45 ∨ c = 34 ∨ c = 61 ∨ c = 59
  · rcases e0 with rfl | rfl | rfl | rfl | rfl | rfl | rfl | rfl <;>
    · go_enter Tryz.func77, Tryz.ntmps77
      go_wp2
      go_ret
      exact ⟨rfl, rfl⟩
  by_cases e1 : c = 92
  · subst e1
    go_enter Tryz.func77, Tryz.ntmps77
    go_wp2
    go_ret
    exact ⟨rfl, rfl⟩
  simp only [not_or] at e0
  obtain ⟨f0, f1, f2, f3, f4, f5, f6, f7⟩ := e0
  have H : Hid (kindL c = 1) := by
    show _ = _
    rw [HK.out, if_neg (by simp [blankB]; omega), if_neg f3, if_neg f4, if_neg f5, if_neg e1, if_neg f6, if_neg f7]
  have g0 : (c == 9) = false := by simpa using f0
  have g1 : (c == 13) = false := by simpa using f1
  have g2 : (c == 32) = false := by simpa using f2
  have g3 : (c == 37) = false := by simpa using f3
  have g4 : (c == 45) = false := by simpa using f4
  have g5 : (c == 34) = false := by simpa using f5
  have g6 : (c == 61) = false := by simpa using f6
  have g7 : (c == 59) = false := by simpa using f7
  have g8 : (c == 92) = false := by simpa using e1
  clear f0 f1 f2 f3 f4 f5 f6 f7 e1 HK hD hL a0
  by_cases m0 : 65 ≤ c
  · have m1 : ¬ c ≤ 90 := by omega
    by_cases m2 : 97 ≤ c
    · have m3 : ¬ c ≤ 122 := by omega
      have m4 : 48 ≤ c := by omega
      have m5 : ¬ c ≤ 57 := by omega
      clear a1 a2 a3 d1 d2
      go_enter Tryz.func77, Tryz.ntmps77
      go_wp2
      go_ret
      exact ⟨by rw [H.out]; rfl, rfl⟩
    · have m4 : 48 ≤ c := by omega
      have m5 : ¬ c ≤ 57 := by omega
      clear a1 a2 a3 d1 d2
      go_enter Tryz.func77, Tryz.ntmps77
      go_wp2
      go_ret
      exact ⟨by rw [H.out]; rfl, rfl⟩
  · have m2 : ¬ 97 ≤ c := by omega
    by_cases m4 : 48 ≤ c
    · have m5 : ¬ c ≤ 57 := by omega
      clear a1 a2 a3 d1 d2
      go_enter Tryz.func77, Tryz.ntmps77
      go_wp2
      go_ret
      exact ⟨by rw [H.out]; rfl, rfl⟩
    · clear a1 a2 a3 d1 d2
      go_enter Tryz.func77, Tryz.ntmps77
      go_wp2
      go_ret
      exact ⟨by rw [H.out]; rfl, rfl⟩

theorem digitValue_any (c : Int) (w : World) (h0 : 0 ≤ c) (h1 : c < 256) :
    Calls Tryz.prog 98 #[.int .u8 c] w fun e w' => e = .returned (.int .u64 (dvI c)) ∧ w = w' := by
  have hE : ∀ c, 48 ≤ c → c ≤ 57 → dvI c = c - 48 := fun c a b => by
    unfold dvI worthI; rw [if_pos (by simp [hexB, digitB]; omega), if_pos b]
  have hF : ∀ c, 97 ≤ c → c ≤ 102 → dvI c = c - 87 := fun c a b => by
    unfold dvI worthI; rw [if_pos (by simp [hexB, digitB]; omega), if_neg (by omega), if_pos a]
  have hG : ∀ c, 65 ≤ c → c ≤ 70 → dvI c = c - 55 := fun c a b => by
    unfold dvI worthI; rw [if_pos (by simp [hexB, digitB]; omega), if_neg (by omega), if_neg (by omega)]
  by_cases a0 : 48 ≤ c
  · by_cases a1 : c ≤ 57
    · have H : Hid (dvI c = c - 48) := hE c a0 a1
      clear hE hF hG
      go_enter Tryz.func98, Tryz.ntmps98
      go_wp2
      go_ret
      exact ⟨by rw [H.out]; rfl, rfl⟩
    · by_cases a2 : 97 ≤ c
      · by_cases a3 : c ≤ 102
        · have H : Hid (dvI c = c - 87) := hF c a2 a3
          clear hE hF hG
          go_enter Tryz.func98, Tryz.ntmps98
          go_wp2
          go_ret
          exact ⟨by rw [H.out]; exact ret_int (by omega), rfl⟩
        · have H : Hid (dvI c = 18446744073709551615) := by show _ = _; unfold dvI; rw [if_neg (by simp [hexB, digitB]; omega)]
          have a4 : 65 ≤ c := by omega
          have a5 : ¬ c ≤ 70 := by omega
          clear hE hF hG
          go_enter Tryz.func98, Tryz.ntmps98
          go_wp2
          go_ret
          exact ⟨by rw [H.out]; rfl, rfl⟩
      · by_cases a3 : 65 ≤ c
        · by_cases a5 : c ≤ 70
          · have H : Hid (dvI c = c - 55) := hG c a3 a5
            clear hE hF hG
            go_enter Tryz.func98, Tryz.ntmps98
            go_wp2
            go_ret
            exact ⟨by rw [H.out]; exact ret_int (by omega), rfl⟩
          · have H : Hid (dvI c = 18446744073709551615) := by show _ = _; unfold dvI; rw [if_neg (by simp [hexB, digitB]; omega)]
            clear hE hF hG
            go_enter Tryz.func98, Tryz.ntmps98
            go_wp2
            go_ret
            exact ⟨by rw [H.out]; rfl, rfl⟩
        · have H : Hid (dvI c = 18446744073709551615) := by show _ = _; unfold dvI; rw [if_neg (by simp [hexB, digitB]; omega)]
          clear hE hF hG
          go_enter Tryz.func98, Tryz.ntmps98
          go_wp2
          go_ret
          exact ⟨by rw [H.out]; rfl, rfl⟩
  · have H : Hid (dvI c = 18446744073709551615) := by show _ = _; unfold dvI; rw [if_neg (by simp [hexB, digitB]; omega)]
    have a2 : ¬ 97 ≤ c := by omega
    have a3 : ¬ 65 ≤ c := by omega
    clear hE hF hG
    go_enter Tryz.func98, Tryz.ntmps98
    go_wp2
    go_ret
    exact ⟨by rw [H.out]; rfl, rfl⟩

end Go.Proofs.YtddackdadebjjaaGreat

/-
  What digitsOf, plainNumber, number and Number of the layer lex return, for every text; nothing turns.
-/
namespace Go.Proofs.YtddackdadebjjaaGreat
open Go.RowKit
set_option maxRecDepth 10000
set_option linter.unusedVariables false
set_option linter.unusedSimpArgs false

theorem str_empty_strI {s : ByteArray} : (strI s).isEmpty = s.toList.isEmpty := by
  rw [ByteArray.toList_eq, strI, List.isEmpty_map]

set_option maxHeartbeats 1000000 in
theorem digitsOf_any (s : ByteArray) (b : Int) (w : World) (hs : s.size ≤ 140737488351232) (hb : b = 10 ∨ b = 16) :
    Calls Tryz.prog 117 #[.string s, .int .u64 b] w fun e w' => (∃ x : Int, e = .returned (.tuple #[.int .u32 x, .bool (digsB b (strI s))]) ∧ 0 ≤ x ∧ x < 4294967296 ∧ (digsB b (strI s) = true → x = valF b 0 (strI s))) ∧ w = w' := by
  have HLen := strI_len s
  have HF : Hid (∀ k, k < s.size → b ≤ dvI (nth (strI s) k) → digsB b (strI s) = false) := fun k hk h => digs_not (by omega) h
  have HG : Hid (∀ k, 4294967296 ≤ valF b 0 ((strI s).take k) → digsB b (strI s) = false) := fun k h => digs_large (by omega) h
  have HA : Hid (∀ k, k < s.size → allD b ((strI s).take k) = true → dvI (nth (strI s) k) < b → allD b ((strI s).take (k + 1)) = true) := fun k hk h h1 => allD_snoc (by omega) h h1
  have HV : Hid (∀ k, k < s.size → valF b 0 ((strI s).take (k + 1)) = valF b 0 ((strI s).take k) * b + dvI (nth (strI s) k)) := fun k hk => valF_take b _ k (by omega)
  have HW : Hid (∀ k, 0 ≤ valF b 0 ((strI s).take k)) := fun k => valF_lo b _ (by omega)
  have HE : Hid (allD b ((strI s).take s.size) = true → valF b 0 ((strI s).take s.size) < 4294967296 → digsB b (strI s) = !s.toList.isEmpty ∧ valF b 0 ((strI s).take s.size) = valF b 0 (strI s)) := fun h1 h2 => by
    rw [List.take_of_length_le (by omega)] at h1 h2 ⊢
    refine ⟨?_, rfl⟩
    rw [digs_all h1 h2, str_empty_strI]
  clear HLen
  go_enter Tryz.func117, Tryz.ntmps117
  go_wp2
  go_loop [6, 11] (fun n i => ∃ k : Nat, k ≤ s.size ∧ i = .int .i64 k ∧ n = .int .u64 (valF b 0 ((strI s).take k)) ∧ allD b ((strI s).take k) = true ∧ valF b 0 ((strI s).take k) < 4294967296) (fun _ i => s.size - (intOf i).toNat)
  case atStart => exact ⟨0, Nat.zero_le _, rfl, rfl, rfl, by simp [valF]⟩
  case round =>
    obtain ⟨k, hk, rfl, rfl, hall, hlt32⟩ := hrel
    have hn0 := HW.out k
    by_cases hlt : k < s.size
    · have hc0 : (0 : Int) ≤ (s[k].toNat : Int) := by omega
      have hc1 : (s[k].toNat : Int) < 256 := by have := s[k].toNat_lt; omega
      have hD := fun wx => digitValue_any (s[k].toNat : Int) wx hc0 hc1
      have d0 := dv_lo (s[k].toNat : Int)
      have d1 := dv_hi (s[k].toNat : Int)
      have eF := HF.out k hlt
      have eG := HG.out (k + 1)
      have eA := HA.out k hlt hall
      have eV := HV.out k hlt
      rw [nth_strI s k hlt] at eF eA eV
      rw [eV] at eG
      have EF : Hid (b ≤ dvI (s[k].toNat : Int) → digsB b (strI s) = false) := eF
      have EG : Hid (4294967296 ≤ valF b 0 ((strI s).take k) * b + dvI (s[k].toNat : Int) → digsB b (strI s) = false) := eG
      have EA : Hid (dvI (s[k].toNat : Int) < b → allD b ((strI s).take (k + 1)) = true) := eA
      have EV : Hid (valF b 0 ((strI s).take (k + 1)) = valF b 0 ((strI s).take k) * b + dvI (s[k].toNat : Int)) := eV
      clear eF eG eA eV hall
      generalize dvI (s[k].toNat : Int) = d at *
      generalize valF b 0 ((strI s).take k) = n at *
      by_cases hge : b ≤ d
      · have HB : Hid (digsB b (strI s) = false) := EF.out hge
        have hdec : decide (b ≤ d) = true := decide_eq_true hge
        go_wp2_with (go_at_call 98; refine (hD _).mono ?_; rintro e w' ⟨rfl, rfl⟩)
        go_ret2
        exact ⟨⟨0, by rw [HB.out]; rfl, by omega, by omega, fun h => by rw [HB.out] at h; cases h⟩, rfl⟩
      · have hdec : decide (b ≤ d) = false := decide_eq_false hge
        by_cases hbig : 4294967296 ≤ n * b + d
        · have HB : Hid (digsB b (strI s) = false) := EG.out hbig
          have hdec2 : decide ((4294967295 : Int) < n * b + d) = true := decide_eq_true (by omega)
          have hw1 : 0 ≤ n * b ∧ n * b < 18446744073709551616 := by rcases hb with rfl | rfl <;> omega
          have hw2 : 0 ≤ n * b + d ∧ n * b + d < 18446744073709551616 := by rcases hb with rfl | rfl <;> omega
          clear hbig
          rcases hb with rfl | rfl <;>
          · go_wp2_with (go_at_call 98; refine (hD _).mono ?_; rintro e w' ⟨rfl, rfl⟩)
            go_ret2
            exact ⟨⟨0, by rw [HB.out]; rfl, by omega, by omega, fun h => by rw [HB.out] at h; cases h⟩, rfl⟩
        · have hdec2 : decide ((4294967295 : Int) < n * b + d) = false := decide_eq_false (by omega)
          have hsm : n * b + d < 4294967296 := by omega
          clear hbig
          rcases hb with rfl | rfl <;>
          · go_wp2_with (go_at_call 98; refine (hD _).mono ?_; rintro e w' ⟨rfl, rfl⟩)
            go_round
            case rel => exact ⟨k + 1, by omega, by go_num, by rw [EV.out], EA.out (by omega), by rw [EV.out]; exact hsm⟩
            case measure => simp [intOf]; omega
    · obtain rfl : k = s.size := by omega
      obtain ⟨e1, e2⟩ := HE.out hall hlt32
      have E2 : Hid (valF b 0 ((strI s).take s.size) = valF b 0 (strI s)) := e2
      clear e2 hall
      generalize valF b 0 ((strI s).take s.size) = n at *
      have E1 : Hid (digsB b (strI s) = !s.toList.isEmpty) := e1
      clear e1
      go_wp2
      go_ret2
      refine ⟨⟨n, ?_, hn0, hlt32, fun _ => E2.out⟩, rfl⟩
      rw [E1.out]; rfl

theorem plainNumber_any (s : ByteArray) (w : World) (hs : s.size ≤ 140737488351232) :
    Calls Tryz.prog 100 #[.string s] w fun e w' => (∃ x : Int, e = .returned (.tuple #[.int .u32 x, .bool (plainB (strI s))]) ∧ 0 ≤ x ∧ x < 4294967296 ∧ (plainB (strI s) = true → x = valF 10 0 (strI s))) ∧ w = w' := by
  have hD := fun wx => digitsOf_any s 10 wx hs (.inl rfl)
  by_cases h1 : 1 < s.size
  · have h0 := nth_strI s 0 (by omega)
    by_cases hz : (s[0].toNat : Int) = 48
    · have HB : Hid (plainB (strI s) = false) := plain_zero (by rw [strI_len]; exact h1) (by rw [h0]; exact hz)
      have hz' : ((s[0].toNat : Int) == 48) = true := by simpa using hz
      clear h0 hz
      go_enter Tryz.func100, Tryz.ntmps100
      go_wp2_with fail
      go_ret2
      exact ⟨⟨0, by rw [HB.out]; rfl, by omega, by omega, fun h => by rw [HB.out] at h; cases h⟩, rfl⟩
    · have HB : Hid (plainB (strI s) = digsB 10 (strI s)) := plain_digs (by rw [h0]; intro h; exact hz h.2)
      have hz' : ((s[0].toNat : Int) == 48) = false := by simpa using hz
      clear h0 hz
      go_enter Tryz.func100, Tryz.ntmps100
      go_wp2_with fail
      refine (hD _).mono ?_
      rintro e w' ⟨⟨x, rfl, hx0, hx1, hx⟩, rfl⟩
      go_wp2_with fail
      go_ret2
      exact ⟨⟨x, by rw [HB.out]; rfl, hx0, hx1, fun h => hx (by rw [HB.out] at h; exact h)⟩, rfl⟩
  · have HB : Hid (plainB (strI s) = digsB 10 (strI s)) := plain_digs (by rw [strI_len]; intro h; exact h1 h.1)
    go_enter Tryz.func100, Tryz.ntmps100
    go_wp2_with fail
    refine (hD _).mono ?_
    rintro e w' ⟨⟨x, rfl, hx0, hx1, hx⟩, rfl⟩
    go_wp2_with fail
    go_ret2
    exact ⟨⟨x, by rw [HB.out]; rfl, hx0, hx1, fun h => hx (by rw [HB.out] at h; exact h)⟩, rfl⟩

/-- A text begins with another. -/
def pfxB (t s : ByteArray) : Bool := decide (s.size ≤ t.size) && ((t.extract 0 s.size).toList == s.toList)
/-- What is left behind it. -/
def pfxS (t s : ByteArray) : ByteArray := if pfxB t s then t.extract s.size t.size else t

theorem litePfx_any (t s : ByteArray) (w : World) (ht : t.size ≤ 140737488351232) (hs : s.size ≤ 140737488351232) :
    Calls Tryz.prog 120 #[.string t, .string s] w fun e w' => e = .returned (.bool (pfxB t s)) ∧ w = w' := by
  by_cases h : s.size ≤ t.size
  · have HE : Hid (pfxB t s = ((t.extract 0 s.size).toList == s.toList)) := by show _ = _; unfold pfxB; rw [decide_eq_true h]; rfl
    have h' : decide ((t.size : Int) ≥ (s.size : Int)) = true := decide_eq_true (by omega)
    have hi : (s.size : Int) ≤ (t.size : Int) := by omega
    go_enter Tryz.func120, Tryz.ntmps120
    go_wp2
    go_ret
    exact ⟨by rw [HE.out]; rfl, rfl⟩
  · have HE : Hid (pfxB t s = false) := by show _ = _; unfold pfxB; rw [decide_eq_false h]; rfl
    go_enter Tryz.func120, Tryz.ntmps120
    go_wp2
    go_ret
    exact ⟨by rw [HE.out]; rfl, rfl⟩

theorem liteCutPrefix_any (t s : ByteArray) (w : World) (ht : t.size ≤ 140737488351232) (hs : s.size ≤ 140737488351232) :
    Calls Tryz.prog 124 #[.string t, .string s] w fun e w' => e = .returned (.tuple #[.string (pfxS t s), .bool (pfxB t s)]) ∧ w = w' := by
  have hP := fun wx => litePfx_any t s wx ht hs
  cases hb : pfxB t s
  · have HS : Hid (pfxS t s = t) := by show _ = _; simp [pfxS, hb]
    rw [hb] at hP
    clear hb
    go_enter Tryz.func124, Tryz.ntmps124
    go_wp2_with fail
    refine (hP _).mono ?_
    rintro e w' ⟨rfl, rfl⟩
    go_wp2_with fail
    go_ret2
    exact ⟨by rw [HS.out]; rfl, rfl⟩
  · have HS : Hid (pfxS t s = t.extract s.size t.size) := by show _ = _; simp [pfxS, hb]
    have hle : s.size ≤ t.size := by simp only [pfxB, Bool.and_eq_true, decide_eq_true_eq] at hb; exact hb.1
    have hi : (s.size : Int) ≤ (t.size : Int) := by omega
    rw [hb] at hP
    clear hb
    go_enter Tryz.func124, Tryz.ntmps124
    go_wp2_with fail
    refine (hP _).mono ?_
    rintro e w' ⟨rfl, rfl⟩
    go_wp2_with fail
    go_ret2
    exact ⟨by rw [HS.out]; rfl, rfl⟩

theorem cutPrefix_any (t s : ByteArray) (w : World) (ht : t.size ≤ 140737488351232) (hs : s.size ≤ 140737488351232) :
    Calls Tryz.prog 118 #[.string t, .string s] w fun e w' => e = .returned (.tuple #[.string (pfxS t s), .bool (pfxB t s)]) ∧ w = w' := by
  have hP := fun wx => liteCutPrefix_any t s wx ht hs
  generalize pfxB t s = b at *
  generalize pfxS t s = u at *
  go_enter Tryz.func118, Tryz.ntmps118
  go_wp2_with fail
  refine (hP _).mono ?_
  rintro e w' ⟨rfl, rfl⟩
  go_wp2_with fail
  go_ret2
  exact ⟨rfl, rfl⟩

theorem pfx_strI (t s : ByteArray) : pfxB t s = decide ((strI t).take s.size = strI s) := by
  have h1 := strI_len t
  have h2 := strI_len s
  have e : ((t.extract 0 s.size).toList == s.toList) = decide ((strI t).take s.size = strI s) := by
    rw [ByteArray.toList_eq, ByteArray.toList_eq]
    have e3 : strI (t.extract 0 s.size) = (strI t).take s.size := by rw [strI_extract]; rfl
    rw [← e3]
    by_cases h : (t.extract 0 s.size).data.toList = s.data.toList
    · have : strI (t.extract 0 s.size) = strI s := by unfold strI; rw [h]
      rw [h, decide_eq_true this]; simp
    · have : ¬ strI (t.extract 0 s.size) = strI s := fun h' => h (by rw [strI_inj h'])
      rw [decide_eq_false this]; simpa using h
  unfold pfxB; rw [e]
  by_cases hs : s.size ≤ t.size
  · simp [hs]
  · have : ¬ (strI t).take s.size = strI s := fun h => by
      have := congrArg List.length h
      rw [List.length_take] at this; omega
    rw [decide_eq_false this, Bool.and_false]
theorem pfxS_strI {t s : ByteArray} (h : pfxB t s = true) : strI (pfxS t s) = (strI t).drop s.size := by
  rw [pfxS, if_pos h, strI_extract, List.take_of_length_le (by rw [strI_len]; omega)]
theorem pfxS_size (t s : ByteArray) : (pfxS t s).size ≤ t.size := by
  unfold pfxS; split
  · rw [ByteArray.size_extract]; omega
  · omega

theorem num_neg {l : List Int} (h : l.take 1 = [45]) : numB l = (plainB (l.drop 1) && decide (1 ≤ valF 10 0 (l.drop 1) ∧ valF 10 0 (l.drop 1) ≤ 2147483648)) ∧ numV l = 4294967296 - valF 10 0 (l.drop 1) := by
  unfold numB numV; rw [if_pos h, if_pos h]; exact ⟨rfl, rfl⟩
theorem num_hex {l : List Int} (h0 : ¬ l.take 1 = [45]) (h : l.take 2 = [48, 120]) : numB l = (digsB 16 (l.drop 2) && decide (l.length ≤ 10)) ∧ numV l = valF 16 0 (l.drop 2) := by
  unfold numB numV; rw [if_neg h0, if_neg h0, if_pos h, if_pos h]; exact ⟨rfl, rfl⟩
theorem num_plain {l : List Int} (h0 : ¬ l.take 1 = [45]) (h : ¬ l.take 2 = [48, 120]) : numB l = plainB l ∧ numV l = valF 10 0 l := by
  unfold numB numV; rw [if_neg h0, if_neg h0, if_neg h, if_neg h]; exact ⟨rfl, rfl⟩

theorem number_any (s : ByteArray) (w : World) (hs : s.size ≤ 140737488351232) :
    Calls Tryz.prog 101 #[.string s] w fun e w' => (∃ x : Int, e = .returned (.tuple #[.int .u32 x, .bool (numB (strI s))]) ∧ 0 ≤ x ∧ x < 4294967296 ∧ (numB (strI s) = true → x = numV (strI s))) ∧ w = w' := by
  have hP : ∀ wx, _ := fun wx => cutPrefix_any s { data := #[45] } wx hs (by decide)
  have hQ : ∀ wx, _ := fun wx => cutPrefix_any s { data := #[48, 120] } wx hs (by decide)
  have e1 := pfx_strI s { data := #[45] }
  have e2 := pfx_strI s { data := #[48, 120] }
  rw [show strI { data := #[45] } = [45] from rfl, show ByteArray.size { data := #[45] } = 1 from rfl] at e1
  rw [show strI { data := #[48, 120] } = [48, 120] from rfl, show ByteArray.size { data := #[48, 120] } = 2 from rfl] at e2
  by_cases hm : (strI s).take 1 = [45]
  · rw [decide_eq_true hm] at e1
    have e3 := pfxS_strI e1
    rw [show ByteArray.size { data := #[45] } = 1 from rfl] at e3
    have hN := fun wx => plainNumber_any (pfxS s { data := #[45] }) wx (Nat.le_trans (pfxS_size _ _) hs)
    obtain ⟨n1, n2⟩ := num_neg hm
    rw [e3] at hN
    rw [e1] at hP
    have N1 : Hid (numB (strI s) = _) := n1
    have N2 : Hid (numV (strI s) = _) := n2
    generalize pfxS s { data := #[45] } = u at hP hN
    generalize (strI s).drop 1 = l at hN N1 N2
    generalize plainB l = B at hN N1
    generalize valF 10 0 l = v at hN N1 N2
    clear hQ e1 e2 e3 n1 n2 hm
    go_enter Tryz.func101, Tryz.ntmps101
    go_wp2_with fail
    refine (hP _).mono ?_
    rintro e w' ⟨rfl, rfl⟩
    go_wp2_with fail
    refine (hN _).mono ?_
    rintro e w' ⟨⟨x, rfl, hx0, hx1, hx⟩, rfl⟩
    cases B
    · have HB : Hid (numB (strI s) = false) := by show _ = _; rw [N1.out]; rfl
      clear N1 N2 hx hP hN
      go_wp2
      go_ret2
      exact ⟨⟨_, by rw [HB.out]; rfl, by omega, by omega, fun h => by rw [HB.out] at h; cases h⟩, rfl⟩
    · obtain rfl := hx rfl
      clear hx hP hN
      by_cases h1 : 1 ≤ x
      · have HB : Hid (numB (strI s) = decide (x ≤ 2147483648)) := by show _ = _; rw [N1.out]; simp [h1]
        go_wp2
        go_ret2
        exact ⟨⟨-x % 4294967296, by rw [HB.out]; rfl, by omega, by omega, fun h => by rw [HB.out] at h; have := of_decide_eq_true h; rw [N2.out]; omega⟩, rfl⟩
      · have HB : Hid (numB (strI s) = false) := by show _ = _; rw [N1.out]; simp [h1]
        go_wp2
        go_ret2
        exact ⟨⟨_, by rw [HB.out]; rfl, by omega, by omega, fun h => by rw [HB.out] at h; cases h⟩, rfl⟩
  · rw [decide_eq_false hm] at e1
    rw [e1] at hP
    by_cases hx : (strI s).take 2 = [48, 120]
    · rw [decide_eq_true hx] at e2
      have e3 := pfxS_strI e2
      rw [show ByteArray.size { data := #[48, 120] } = 2 from rfl] at e3
      have hN := fun wx => digitsOf_any (pfxS s { data := #[48, 120] }) 16 wx (Nat.le_trans (pfxS_size _ _) hs) (.inr rfl)
      obtain ⟨n1, n2⟩ := num_hex hm hx
      rw [e3] at hN
      rw [e2] at hQ
      have hlen : (pfxS s { data := #[48, 120] }).size = s.size - 2 := by
        rw [← strI_len, e3, List.length_drop, strI_len]
      have h2 : 2 ≤ s.size := by
        have := congrArg List.length hx
        rw [List.length_take, strI_len] at this
        simp at this; omega
      have N1 : Hid (numB (strI s) = _) := n1
      have N2 : Hid (numV (strI s) = _) := n2
      rw [strI_len] at N1
      generalize pfxS s { data := #[45] } = u' at hP
      generalize pfxS s { data := #[48, 120] } = u at hQ hN hlen
      generalize (strI s).drop 2 = l at hN N1 N2
      generalize digsB 16 l = B at hN N1
      generalize valF 16 0 l = v at hN N1 N2
      have hu : u.size ≤ 140737488351232 := by omega
      have HLEN : Hid (u.size = s.size - 2) := hlen
      clear e1 e2 e3 n1 n2 hm hx hlen
      go_enter Tryz.func101, Tryz.ntmps101
      go_wp2_with fail
      refine (hP _).mono ?_
      rintro e w' ⟨rfl, rfl⟩
      go_wp2_with fail
      refine (hQ _).mono ?_
      rintro e w' ⟨rfl, rfl⟩
      go_wp2_with fail
      refine (hN _).mono ?_
      rintro e w' ⟨⟨x, rfl, hx0, hx1, hx⟩, rfl⟩
      cases B
      · have HB : Hid (numB (strI s) = false) := by show _ = _; rw [N1.out]; rfl
        clear N1 N2 hx hP hN hQ
        go_wp2
        go_ret2
        exact ⟨⟨_, by rw [HB.out]; rfl, hx0, hx1, fun h => by rw [HB.out] at h; cases h⟩, rfl⟩
      · obtain rfl := hx rfl
        clear hx hP hN hQ
        have HB : Hid (numB (strI s) = decide ((u.size : Int) ≤ 8)) := by
          show _ = _
          have hlen := HLEN.out
          rw [N1.out]
          by_cases h : s.size ≤ 10
          · rw [decide_eq_true h, decide_eq_true (by omega)]; rfl
          · rw [decide_eq_false h, decide_eq_false (by omega)]; rfl
        go_wp2
        go_ret2
        exact ⟨⟨_, by rw [HB.out]; rfl, hx0, hx1, fun h => by rw [N2.out]⟩, rfl⟩
    · rw [decide_eq_false hx] at e2
      rw [e2] at hQ
      have hN := fun wx => plainNumber_any s wx hs
      obtain ⟨n1, n2⟩ := num_plain hm hx
      have N1 : Hid (numB (strI s) = _) := n1
      have N2 : Hid (numV (strI s) = _) := n2
      clear n1 n2 e1 e2 hm hx
      generalize pfxS s { data := #[45] } = u' at hP
      generalize pfxS s { data := #[48, 120] } = u at hQ
      generalize plainB (strI s) = B at hN N1
      generalize valF 10 0 (strI s) = v at hN N2
      go_enter Tryz.func101, Tryz.ntmps101
      go_wp2_with fail
      refine (hP _).mono ?_
      rintro e w' ⟨rfl, rfl⟩
      go_wp2_with fail
      refine (hQ _).mono ?_
      rintro e w' ⟨rfl, rfl⟩
      go_wp2_with fail
      refine (hN _).mono ?_
      rintro e w' ⟨⟨x, rfl, hx0, hx1, hx⟩, rfl⟩
      go_wp2_with fail
      go_ret2
      exact ⟨⟨_, by rw [N1.out]; rfl, hx0, hx1, fun h => by rw [N2.out]; exact hx (by rw [N1.out] at h; exact h)⟩, rfl⟩

theorem lexNumber_any (s : ByteArray) (w : World) (hs : s.size ≤ 140737488351232) :
    Calls Tryz.prog 82 #[.string s] w fun e w' => e = .returned (.tuple #[.int .u32 (numOut (strI s)), .int .i64 (numErr (strI s))]) ∧ w = w' := by
  have hN := fun wx => number_any s wx hs
  cases hb : numB (strI s)
  · have HB : Hid (numOut (strI s) = 0 ∧ numErr (strI s) = 62) := by show _ ∧ _; simp [numOut, numErr, hb]
    rw [hb] at hN
    clear hb
    go_enter Tryz.func82, Tryz.ntmps82
    go_wp2_with fail
    refine (hN _).mono ?_
    rintro e w' ⟨⟨x, rfl, hx0, hx1, hx⟩, rfl⟩
    go_wp2_with fail
    go_ret2
    exact ⟨by rw [HB.out.1, HB.out.2]; rfl, rfl⟩
  · have HB : Hid (numOut (strI s) = numV (strI s) ∧ numErr (strI s) = 0) := by show _ ∧ _; simp [numOut, numErr, hb]
    rw [hb] at hN
    clear hb
    go_enter Tryz.func82, Tryz.ntmps82
    go_wp2_with fail
    refine (hN _).mono ?_
    rintro e w' ⟨⟨x, rfl, hx0, hx1, hx⟩, rfl⟩
    have HX : Hid (x = numV (strI s)) := hx trivial
    clear hx
    go_wp2_with fail
    go_ret2
    exact ⟨by rw [HB.out.1, HB.out.2, ← HX.out]; rfl, rfl⟩

end Go.Proofs.YtddackdadebjjaaGreat
