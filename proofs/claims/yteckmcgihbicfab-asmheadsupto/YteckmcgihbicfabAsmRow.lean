/-
  What faultAt and the methods ended and take of a row of tokens return, of the layer asm.
-/
import Derived.WalkSpells
import Derived.WalkMore
import Derived.BigRegion
import Derived.Deep.QuietTactic
import Derived.BigQuiet
import Derived.Test.YteckmcgihbicfabProg
import Derived.Test.YteckmcgihbicfabSlots
import Derived.Test.YteckmcgihbicfabQuiet
import Derived.Test.YteckmcgihbicfabMathH
import Derived.Test.YteckmcgihbicfabToks
namespace Go.Proofs.Yteckmcgihbicfab
open Go.RowKit
set_option linter.unusedVariables false
set_option linter.unusedSimpArgs false
set_option maxRecDepth 10000

def noTok : TokT := (0, ⟨#[]⟩, 0)
/-- Where a fault is told: at 0, if there is none. -/
def fltA (e p : Int) : Int := if e = 0 then 0 else p

theorem blk_cells {w : World} {B T : Nat} {cs : Array Value} (h : w.heap[B]? = some (.cells cs T (0, 0))) : (∀ i, w.cell? ⟨B, i, none⟩ = cs[i]?) ∧ (∀ i, w.frozen? ⟨B, i, none⟩ = false) :=
  ⟨fun i => by simp only [World.cell?, h]; rfl, fun i => by simp [World.frozen?, h]⟩
theorem two_set {w : World} {B T : Nat} {z0 z1 : Value} (h : w.heap[B]? = some (.cells #[z0, z1] T (0, 0))) (u0 u1 : Value) :
    ((w.setCell ⟨B, 0, none⟩ u0).setCell ⟨B, 1, none⟩ u1).heap[B]? = some (.cells #[u0, u1] T (0, 0)) := by
  simp only [World.setCell, Array.getElem?_modify, h]; simp
theorem three_setA {w : World} {B T : Nat} {z0 z1 z2 : Value} (h : w.heap[B]? = some (.cells #[z0, z1, z2] T (0, 0))) (u0 u1 u2 : Value) :
    (((w.setCell ⟨B, 0, none⟩ u0).setCell ⟨B, 1, none⟩ u1).setCell ⟨B, 2, none⟩ u2).heap[B]? = some (.cells #[u0, u1, u2] T (0, 0)) := by
  simp only [World.setCell, Array.getElem?_modify, h]; simp

set_option maxHeartbeats 1000000 in
theorem faultAt_any (t : TokT) (e : Int) (w : World) :
    Calls Try.prog 44 #[tokV t, .int .i64 e] w fun x w' => x = .returned (.agg #[.int .i64 e, .int .i64 (fltA e t.2.2)]) ∧ Below w.heap.size w w' := by
  obtain ⟨t1, t2, t3⟩ := t
  unfold tokV
  simp only
  by_cases h : e = 0
  · subst h
    go_enter Try.func44, Try.ntmps44
    go_wp2
    refine bodyPost_ret (v := .agg #[.int .i64 0, .int .i64 0]) ?_ rfl ⟨rfl, ?_⟩
    · simp [results, Try.results44, go_sem]
    · exact ((Below.refl _ w).alloc (Nat.le_refl _) _).alloc (by simp) _
  · have h' : (e == 0) = false := by simpa using h
    have e1 : fltA e t3 = t3 := by unfold fltA; rw [if_neg h]
    rw [e1]
    clear h e1
    go_enter Try.func44, Try.ntmps44
    go_wp2
    refine bodyPost_ret (v := .agg #[.int .i64 e, .int .i64 t3]) ?_ rfl ⟨rfl, ?_⟩
    · simp [results, Try.results44, go_sem]
    · exact ((Below.refl _ w).alloc (Nat.le_refl _) _).alloc (by simp) _

/-- A row of tokens in memory, at the front of a block. -/
def RowAt (w : World) (B : Nat) (a : Option Addr) (n c k : Nat) (len : Int) (rest : Array Value) (T : Nat) : Prop := w.heap[B]? = some (.cells (#[.slice a n c, .int .i64 (k : Int), .int .i64 len] ++ rest) T (0, 0))
theorem RowAt.lt {w : World} {B : Nat} {a : Option Addr} {n c k : Nat} {len : Int} {rest : Array Value} {T : Nat} (h : RowAt w B a n c k len rest T) : B < w.heap.size := (Array.getElem?_eq_some_iff.1 h).1
theorem RowAt.cells {w : World} {B : Nat} {a : Option Addr} {n c k : Nat} {len : Int} {rest : Array Value} {T : Nat} (h : RowAt w B a n c k len rest T) :
    w.cell? ⟨B, 0, none⟩ = some (.slice a n c) ∧ w.cell? ⟨B, 1, none⟩ = some (.int .i64 (k : Int)) ∧ w.cell? ⟨B, 2, none⟩ = some (.int .i64 len) ∧ ∀ i, w.frozen? ⟨B, i, none⟩ = false := by
  unfold RowAt at h
  refine ⟨?_, ?_, ?_, fun i => ?_⟩
  · simp only [World.cell?, h]; rw [Array.getElem?_append_left (by simp)]; rfl
  · simp only [World.cell?, h]; rw [Array.getElem?_append_left (by simp)]; rfl
  · simp only [World.cell?, h]; rw [Array.getElem?_append_left (by simp)]; rfl
  · simp [World.frozen?, h]
theorem RowAt.below {w w' : World} {B : Nat} {a : Option Addr} {n c k : Nat} {len : Int} {rest : Array Value} {T : Nat} (h : RowAt w B a n c k len rest T) (hb : Below w.heap.size w w') : RowAt w' B a n c k len rest T := (hb.block _ h.lt).trans h
theorem RowAt.step {w : World} {B : Nat} {a : Option Addr} {n c k : Nat} {len : Int} {rest : Array Value} {T : Nat} (h : RowAt w B a n c k len rest T) : RowAt (w.setCell ⟨B, 1, none⟩ (.int .i64 ((k + 1 : Nat) : Int))) B a n c (k + 1) len rest T := by
  unfold RowAt at *
  simp only [World.setCell, Array.getElem?_modify, h]
  simp
theorem grown_put {w A X : World} {r : Option Nat} (h : w.grownBy A r) (k : Below w.heap.size A X) : w.grownBy X r := ⟨k.os.trans h.os, k.tape.trans h.tape, k.output.trans h.output, Nat.le_trans h.size k.size, fun i hi hr => (k.block i hi).trans (h.block i hi hr)⟩
theorem grown_below2 {A B : World} (h : Below A.heap.size A B) (row : Option Nat) : A.grownBy B row := ⟨h.os, h.tape, h.output, h.size, fun k hk _ => h.block k hk⟩

set_option maxHeartbeats 1000000 in
theorem ended_any (B : Nat) (a : Option Addr) (n c k : Nat) (len : Int) (rest : Array Value) (T : Nat) (w : World) (h : RowAt w B a n c k len rest T) :
    Calls Try.prog 46 #[.pointer (some ⟨B, 0, none⟩)] w fun e w' => e = .returned (.bool ((k : Int) == (n : Int))) ∧ ∃ q, w' = w.drewN q := by
  obtain ⟨c0, c1, c2, cf⟩ := h.cells
  clear h
  go_enter Try.func46, Try.ntmps46
  go_wp2
  go_quiet (fail)
  go_wp2
  go_ret
  exact ⟨rfl, _, rfl⟩

/-- The two results' boxes. -/
theorem tok_spot_boxes (w : World) : ((w.alloc (.cells #[.int .u8 0, .string ⟨#[]⟩, .int .i64 0] 77)).alloc (.cells #[.int .i64 0, .int .i64 0] 28)).heap[w.heap.size]? = some (.cells #[.int .u8 0, .string ⟨#[]⟩, .int .i64 0] 77 (0, 0)) ∧ ((w.alloc (.cells #[.int .u8 0, .string ⟨#[]⟩, .int .i64 0] 77)).alloc (.cells #[.int .i64 0, .int .i64 0] 28)).heap[w.heap.size + 1]? = some (.cells #[.int .i64 0, .int .i64 0] 28 (0, 0)) ∧
    Below w.heap.size w ((w.alloc (.cells #[.int .u8 0, .string ⟨#[]⟩, .int .i64 0] 77)).alloc (.cells #[.int .i64 0, .int .i64 0] 28)) :=
  ⟨(Below.heap_alloc _ _ _ (by simp)).trans (heap_alloc_new w _), by simpa using heap_alloc_new (w.alloc (.cells #[.int .u8 0, .string ⟨#[]⟩, .int .i64 0] 77)) (.cells #[.int .i64 0, .int .i64 0] 28), ((Below.refl _ w).alloc (Nat.le_refl _) _).alloc (by simp) _⟩

/-- Both boxes are written. -/
theorem five_put {W : World} {b T S : Nat} {x0 x1 x2 y0 y1 : Value} (kT : W.heap[b]? = some (.cells #[x0, x1, x2] T (0, 0))) (kS : W.heap[b + 1]? = some (.cells #[y0, y1] S (0, 0))) (u0 u1 u2 v0 v1 : Value) :
    ((((((W.setCell ⟨b, 0, none⟩ u0).setCell ⟨b, 1, none⟩ u1).setCell ⟨b, 2, none⟩ u2).setCell ⟨b + 1, 0, none⟩ v0).setCell ⟨b + 1, 1, none⟩ v1)).heap[b]? = some (.cells #[u0, u1, u2] T (0, 0)) ∧ ((((((W.setCell ⟨b, 0, none⟩ u0).setCell ⟨b, 1, none⟩ u1).setCell ⟨b, 2, none⟩ u2).setCell ⟨b + 1, 0, none⟩ v0).setCell ⟨b + 1, 1, none⟩ v1)).heap[b + 1]? = some (.cells #[v0, v1] S (0, 0)) ∧ Below b W ((((((W.setCell ⟨b, 0, none⟩ u0).setCell ⟨b, 1, none⟩ u1).setCell ⟨b, 2, none⟩ u2).setCell ⟨b + 1, 0, none⟩ v0).setCell ⟨b + 1, 1, none⟩ v1)) := by
  refine ⟨?_, ?_, ?_⟩
  · simp only [World.setCell, Array.getElem?_modify, kT]; simp
  · simp only [World.setCell, Array.getElem?_modify, kS]; simp
  · exact (((((Below.refl b W).setCell (Nat.le_refl _) _).setCell (Nat.le_refl _) _).setCell (Nat.le_refl _) _).setCell (by simp) _).setCell (by simp) _
theorem five_drew {W : World} {b T S : Nat} {x0 x1 x2 y0 y1 : Value} (kT : W.heap[b]? = some (.cells #[x0, x1, x2] T (0, 0))) (kS : W.heap[b + 1]? = some (.cells #[y0, y1] S (0, 0))) (u0 u1 u2 v0 v1 : Value) :
    (((((((W.setCell ⟨b, 0, none⟩ u0).setCell ⟨b, 1, none⟩ u1).setCell ⟨b, 2, none⟩ u2).setCell ⟨b + 1, 0, none⟩ v0).setCell ⟨b + 1, 1, none⟩ v1)).drew).heap[b]? = some (.cells #[u0, u1, u2] T (0, 0)) ∧ (((((((W.setCell ⟨b, 0, none⟩ u0).setCell ⟨b, 1, none⟩ u1).setCell ⟨b, 2, none⟩ u2).setCell ⟨b + 1, 0, none⟩ v0).setCell ⟨b + 1, 1, none⟩ v1)).drew).heap[b + 1]? = some (.cells #[v0, v1] S (0, 0)) ∧ Below b W (((((((W.setCell ⟨b, 0, none⟩ u0).setCell ⟨b, 1, none⟩ u1).setCell ⟨b, 2, none⟩ u2).setCell ⟨b + 1, 0, none⟩ v0).setCell ⟨b + 1, 1, none⟩ v1)).drew) := by
  obtain ⟨h1, h2, h3⟩ := five_put kT kS u0 u1 u2 v0 v1
  generalize ((((((W.setCell ⟨b, 0, none⟩ u0).setCell ⟨b, 1, none⟩ u1).setCell ⟨b, 2, none⟩ u2).setCell ⟨b + 1, 0, none⟩ v0).setCell ⟨b + 1, 1, none⟩ v1)) = Y at *
  exact ⟨h1, h2, h3.drew⟩

set_option maxHeartbeats 2000000 in
theorem take_early (B : Nat) (a : Option Addr) (n c : Nat) (len : Int) (rest : Array Value) (T : Nat) (kd : Int) (w : World) (h : RowAt w B a n c n len rest T) :
    Calls Try.prog 43 #[.pointer (some ⟨B, 0, none⟩), .int .u8 kd] w fun e w' => e = .returned (.tuple #[tokV noTok, .agg #[.int .i64 72, .int .i64 len]]) ∧ Below w.heap.size w w' := by
  obtain ⟨kT, kS, hb⟩ := tok_spot_boxes w
  have hR := h.below hb
  have hE := ended_any B a n c n len rest T _ hR
  rw [show ((n : Int) == (n : Int)) = true by simp] at hE
  have hlt := h.lt
  clear h
  go_enter Try.func43, Try.ntmps43
  go_wp2_with fail
  generalize (w.alloc (.cells #[.int .u8 0, .string ⟨#[]⟩, .int .i64 0] 77)).alloc (.cells #[.int .i64 0, .int .i64 0] 28) = W at *
  refine hE.mono ?_
  rintro e w1 ⟨rfl, q, rfl⟩
  have hbq := bel_drewN (Below.refl W.heap.size W) q
  have sS := (Array.getElem?_eq_some_iff.1 kS).1
  have kT1 := (hbq.block _ (by omega)).trans kT
  have kS1 := (hbq.block _ sS).trans kS
  have hR1 := hR.below hbq
  have hb1 := hb.trans (hbq.mono hb.size)
  have s1 : w.heap.size + 1 < (W.drewN q).heap.size := Nat.lt_of_lt_of_le sS hbq.size
  clear hE hbq kT kS hR hb sS
  generalize W.drewN q = W1 at *
  obtain ⟨r0, r1, r2, rf⟩ := hR1.cells
  obtain ⟨ct, ft⟩ := blk_cells kT1
  obtain ⟨cp, fp⟩ := blk_cells kS1
  have t0 := ct 0
  have t1 := ct 1
  have t2 := ct 2
  have p0 := cp 0
  have p1 := cp 1
  have hne : B ≠ w.heap.size := by omega
  have hne1 : B ≠ w.heap.size + 1 := by omega
  have HB := hide hb1
  have HT := hide kT1
  have HS := hide kS1
  clear hR1 hb1 ct cp kT1 kS1
  go_wp2
  go_region
  obtain ⟨y1, y2, y3⟩ := five_drew HT.out HS.out (.int .u8 0) (.string ⟨#[]⟩) (.int .i64 0) (.int .i64 72) (.int .i64 len)
  have HY := hide (HB.out.trans y3)
  have HY1 := hide y1
  have HY2 := hide y2
  clear t0 t1 t2 p0 p1 ft fp r0 r1 r2 rf y1 y2 y3 HT HS HB
  generalize (((((W1.setCell ⟨w.heap.size, 0, none⟩ (.int .u8 0)).setCell ⟨w.heap.size, 1, none⟩ (.string ⟨#[]⟩)).setCell ⟨w.heap.size, 2, none⟩ (.int .i64 0)).setCell ⟨w.heap.size + 1, 0, none⟩ (.int .i64 72)).setCell ⟨w.heap.size + 1, 1, none⟩ (.int .i64 len)).drew = X at *
  go_wp2
  obtain ⟨z1, _⟩ := blk_cells HY1.out
  obtain ⟨z2, _⟩ := blk_cells HY2.out
  have a0 := z1 0
  have a1 := z1 1
  have a2 := z1 2
  have b0 := z2 0
  have b1 := z2 1
  refine bodyPost_ret (v := .tuple #[tokV noTok, .agg #[.int .i64 72, .int .i64 len]]) ?_ rfl ⟨rfl, HY.out⟩
  simp [results, Try.results43, go_sem, a0, a1, a2, b0, b1, tokV, noTok]

end Go.Proofs.Yteckmcgihbicfab
