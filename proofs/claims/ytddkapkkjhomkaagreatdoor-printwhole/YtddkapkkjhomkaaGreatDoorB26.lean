/-
  Texts laid together in one: AsmHead, LexStep.
-/
import Derived.WalkSpells
import Derived.WalkMore
import Derived.BigRegion
import Derived.Deep.RegionWith
import Derived.Test.YtddkapkkjhomkaaGreatDoorProg
import Derived.Test.YtddkapkkjhomkaaGreatDoorB22
import Derived.Test.YtddkapkkjhomkaaGreatDoorB25
import Derived.Test.YtddkapkkjhomkaaGreatDoorB17
import Derived.Test.YtddkapkkjhomkaaGreatDoorB20
/-
  What the method head of a row of tokens returns, of the layer asm.
-/
namespace Go.Proofs.YtddkapkkjhomkaaGreatDoor
open Go.RowKit
set_option linter.unusedVariables false
set_option linter.unusedSimpArgs false
set_option maxRecDepth 10000

theorem str_injA {a b : ByteArray} (h : a.toList = b.toList) : a = b := by
  rw [ByteArray.toList_eq, ByteArray.toList_eq] at h
  cases a; cases b; simp_all

theorem mod_list : moduleS.toList = [109, 111, 100, 117, 108, 101] := by rw [ByteArray.toList_eq]; rfl

theorem four_putX {W : World} {b T S : Nat} {x0 x1 y0 y1 : Value} (kT : W.heap[b]? = some (.cells #[x0, x1] T (0, 0))) (kS : W.heap[b + 1]? = some (.cells #[y0, y1] S (0, 0))) (u0 u1 v0 v1 : Value) :
    ((((W.setCell ⟨b, 0, none⟩ u0).setCell ⟨b, 1, none⟩ u1).setCell ⟨b + 1, 0, none⟩ v0).setCell ⟨b + 1, 1, none⟩ v1).heap[b]? = some (.cells #[u0, u1] T (0, 0)) ∧ ((((W.setCell ⟨b, 0, none⟩ u0).setCell ⟨b, 1, none⟩ u1).setCell ⟨b + 1, 0, none⟩ v0).setCell ⟨b + 1, 1, none⟩ v1).heap[b + 1]? = some (.cells #[v0, v1] S (0, 0)) ∧ Below b W ((((W.setCell ⟨b, 0, none⟩ u0).setCell ⟨b, 1, none⟩ u1).setCell ⟨b + 1, 0, none⟩ v0).setCell ⟨b + 1, 1, none⟩ v1) := by
  refine ⟨?_, ?_, ?_⟩
  · simp only [World.setCell, Array.getElem?_modify, kT]; simp
  · simp only [World.setCell, Array.getElem?_modify, kS]; simp
  · exact ((((Below.refl b W).setCell (Nat.le_refl _) _).setCell (Nat.le_refl _) _).setCell (by simp) _).setCell (by simp) _
theorem four_drew {W : World} {b T S : Nat} {x0 x1 y0 y1 : Value} (kT : W.heap[b]? = some (.cells #[x0, x1] T (0, 0))) (kS : W.heap[b + 1]? = some (.cells #[y0, y1] S (0, 0))) (u0 u1 v0 v1 : Value) :
    (((((W.setCell ⟨b, 0, none⟩ u0).setCell ⟨b, 1, none⟩ u1).setCell ⟨b + 1, 0, none⟩ v0).setCell ⟨b + 1, 1, none⟩ v1).drew).heap[b]? = some (.cells #[u0, u1] T (0, 0)) ∧ (((((W.setCell ⟨b, 0, none⟩ u0).setCell ⟨b, 1, none⟩ u1).setCell ⟨b + 1, 0, none⟩ v0).setCell ⟨b + 1, 1, none⟩ v1).drew).heap[b + 1]? = some (.cells #[v0, v1] S (0, 0)) ∧ Below b W (((((W.setCell ⟨b, 0, none⟩ u0).setCell ⟨b, 1, none⟩ u1).setCell ⟨b + 1, 0, none⟩ v0).setCell ⟨b + 1, 1, none⟩ v1).drew) := by
  obtain ⟨h1, h2, h3⟩ := four_putX kT kS u0 u1 v0 v1
  generalize (((W.setCell ⟨b, 0, none⟩ u0).setCell ⟨b, 1, none⟩ u1).setCell ⟨b + 1, 0, none⟩ v0).setCell ⟨b + 1, 1, none⟩ v1 = Y at *
  exact ⟨h1, h2, h3.drew⟩

/-- What holds while a head is taken. -/
structure HeadS (w : World) (B : Nat) (a : Option Addr) (n c : Nat) (len : Int) (rest : Array Value) (T : Nat) (l : List TokT) (k : Nat) (W : World) : Prop where
  row : RowAt W B a n c k len rest T
  toks : ToksV W a l
  grown : w.grownBy W (some B)
  head : W.heap[w.heap.size]? = some (.cells #[.int .u32 0, .int .u32 0] 80 (0, 0))
  spot : W.heap[w.heap.size + 1]? = some (.cells #[.int .i64 0, .int .i64 0] 28 (0, 0))
  lt : B < w.heap.size
  far : ∀ b off, a = some ⟨b, off, none⟩ → b ≠ B ∧ b < w.heap.size

section
variable {w : World} {B : Nat} {a : Option Addr} {n c k k' : Nat} {len : Int} {rest : Array Value} {T : Nat} {l : List TokT} {W W' : World}
theorem HeadS.size (h : HeadS w B a n c len rest T l k W) : w.heap.size + 1 < W.heap.size := (Array.getElem?_eq_some_iff.1 h.spot).1
theorem HeadS.below (h : HeadS w B a n c len rest T l k W) (hb : Below W.heap.size W W') : HeadS w B a n c len rest T l k W' :=
  ⟨h.row.below hb, h.toks.below hb, ⟨hb.os.trans h.grown.os, hb.tape.trans h.grown.tape, hb.output.trans h.grown.output, Nat.le_trans h.grown.size hb.size, fun j hj hr => (hb.block j (Nat.lt_of_lt_of_le hj h.grown.size)).trans (h.grown.block j hj hr)⟩, (hb.block _ (Array.getElem?_eq_some_iff.1 h.head).1).trans h.head, (hb.block _ h.size).trans h.spot, h.lt, h.far⟩
/-- Blocks behind the two turn, and the row's own. -/
theorem HeadS.next (h : HeadS w B a n c len rest T l k W) (hs : W.heap.size ≤ W'.heap.size) (hk : ∀ j, j < w.heap.size + 2 → j ≠ B → W'.heap[j]? = W.heap[j]?) (hos : W'.os = W.os) (htp : W'.tape = W.tape) (hout : W'.output = W.output) (hR : RowAt W' B a n c k' len rest T) : HeadS w B a n c len rest T l k' W' := by
  have hl := h.lt
  refine ⟨hR, ?_, ⟨hos.trans h.grown.os, htp.trans h.grown.tape, hout.trans h.grown.output, Nat.le_trans h.grown.size hs, fun j hj hr => (hk j (by omega) (by simpa using hr)).trans (h.grown.block j hj hr)⟩, (hk _ (by omega) (by omega)).trans h.head, (hk _ (by omega) (by omega)).trans h.spot, h.lt, h.far⟩
  intro j hj
  obtain ⟨b, off, e, hb, h1, h2, h3⟩ := h.toks j hj
  obtain ⟨f1, f2⟩ := h.far b off e
  have hx := hk b (by omega) f1
  refine ⟨b, off, e, by omega, ?_, ?_, ?_⟩
  · simp only [World.cell?, hx] at h1 ⊢; exact h1
  · simp only [World.cell?, hx] at h2 ⊢; exact h2
  · simp only [World.cell?, hx] at h3 ⊢; exact h3
theorem HeadS.grow (h : HeadS w B a n c len rest T l k W) (hg : W.grownBy W' (some B)) (hR : RowAt W' B a n c k' len rest T) : HeadS w B a n c len rest T l k' W' :=
  h.next hg.size (fun j hj hn => hg.block j (by have := h.size; omega) (by simpa using hn)) hg.os hg.tape hg.output hR
theorem HeadS.set (h : HeadS w B a n c len rest T l k W) {g : Nat} (hg : w.heap.size + 2 ≤ g) (i : Nat) (v : Value) : HeadS w B a n c len rest T l k (W.setCell ⟨g, i, none⟩ v) := by
  have hl := h.lt
  exact h.next (by simp) (fun j hj _ => Below.heap_setCell _ _ _ _ (by simp; omega)) rfl rfl rfl ((Below.heap_setCell _ _ _ _ (by simp; omega)).trans h.row)
end

theorem head_new (w : World) (B : Nat) (a : Option Addr) (n c : Nat) (len : Int) (rest : Array Value) (T : Nat) (l : List TokT) (k : Nat) (h : RowAt w B a n c k len rest T) (hv : ToksV w a l) (hfar : ∀ b off, a = some ⟨b, off, none⟩ → b ≠ B ∧ b < w.heap.size) :
    HeadS w B a n c len rest T l k ((w.alloc (.cells #[.int .u32 0, .int .u32 0] 80)).alloc (.cells #[.int .i64 0, .int .i64 0] 28)) := by
  have hb : Below w.heap.size w ((w.alloc (.cells #[.int .u32 0, .int .u32 0] 80)).alloc (.cells #[.int .i64 0, .int .i64 0] 28)) := ((Below.refl _ w).alloc (Nat.le_refl _) _).alloc (by simp) _
  exact ⟨h.below hb, hv.below hb, grown_below2 hb _, (Below.heap_alloc _ _ _ (by simp)).trans (heap_alloc_new w _), by simpa using heap_alloc_new (w.alloc (.cells #[.int .u32 0, .int .u32 0] 80)) (.cells #[.int .i64 0, .int .i64 0] 28), h.lt, hfar⟩

/-- What number answers: the number, its token, what is wrong, where. -/
def numQ (l : List TokT) (k : Nat) (len : Int) : Int × TokT × Int × Int :=
  if l.length ≤ k then (0, noTok, 72, len) else if (nthT l k).1 ≠ 3 then (0, noTok, 70, (nthT l k).2.2)
  else (numOut (strI (nthT l k).2.1), nthT l k, numErr (strI (nthT l k).2.1), fltA (numErr (strI (nthT l k).2.1)) (nthT l k).2.2)

theorem number_any7 (B : Nat) (a : Option Addr) (n c k : Nat) (len : Int) (rest : Array Value) (T : Nat) (l : List TokT) (w : World) (h : RowAt w B a n c k len rest T) (hv : ToksV w a l) (hl : l.length = n) (hn : 32 * n ≤ 140737488351232) (hin : ToksIn l) (hk : k ≤ n) :
    Calls Tryz.prog 173 #[.pointer (some ⟨B, 0, none⟩)] w fun x w' => x = .returned (.tuple #[.int .u32 (numQ l k len).1, tokV (numQ l k len).2.1, .agg #[.int .i64 (numQ l k len).2.2.1, .int .i64 (numQ l k len).2.2.2]]) ∧ w.grownBy w' (some B) ∧ ∃ k', RowAt w' B a n c k' len rest T ∧ ((numQ l k len).2.2.1 = 0 → k' = k + 1) := by
  unfold numQ
  by_cases h1 : l.length ≤ k
  · obtain rfl : k = n := by omega
    rw [if_pos h1]
    refine (number_bad B w 72 len (by decide) fun wx hb => take_early B a k c len rest T 3 wx (h.below hb)).mono ?_
    rintro x w' ⟨rfl, hb⟩
    exact ⟨rfl, grown_below2 hb _, k, h.below hb, fun h => by simp at h⟩
  · rw [if_neg h1]
    by_cases h2 : (nthT l k).1 = 3
    · rw [if_neg (by simp [h2])]
      refine (number_ok B a n c k len rest T l w h hv hl hn (by omega) h2 (hin k (by omega)).2.2.1).mono ?_
      rintro x w' ⟨rfl, hR, hg⟩
      exact ⟨rfl, hg, k + 1, hR, fun _ => rfl⟩
    · rw [if_pos h2]
      refine (number_bad B w 70 (nthT l k).2.2 (by decide) fun wx hb => take_wrong B a n c k len rest T l 3 wx (h.below hb) (hv.below hb) hl hn (by omega) h2).mono ?_
      rintro x w' ⟨rfl, hb⟩
      exact ⟨rfl, grown_below2 hb _, k, h.below hb, fun h => by simp at h⟩

theorem numQ_zero {l : List TokT} {k : Nat} {len : Int} (h : (numQ l k len).2.2.1 = 0) : k < l.length ∧ numP (nthT l k) = 0 ∧ (numQ l k len).1 = numV (strI (nthT l k).2.1) ∧ (numQ l k len).2.1 = nthT l k ∧ 0 ≤ (numQ l k len).1 ∧ (numQ l k len).1 < 4294967296 ∧ (numQ l k len).2.2.2 = 0 := by
  unfold numQ at *
  by_cases h1 : l.length ≤ k
  · rw [if_pos h1] at h; simp at h
  · rw [if_neg h1] at h ⊢
    by_cases h2 : (nthT l k).1 = 3
    · rw [if_neg (by simp [h2])] at h ⊢
      simp only at h ⊢
      have hb := numErr_zero h
      obtain ⟨e1, e2, e3, e4⟩ := numV_ok hb
      refine ⟨by omega, ?_, e2, by first | rfl | trivial, by rw [e2]; exact e3, by rw [e2]; exact e4, by rw [h]; rfl⟩
      unfold numP; rw [if_neg (by simp [h2])]; exact h
    · rw [if_pos h2] at h; simp at h
theorem numQ_not {l : List TokT} {k : Nat} {len : Int} (h : (numQ l k len).2.2.1 ≠ 0) : (l.length ≤ k ∧ (numQ l k len).2.2 = (72, len)) ∨ (k < l.length ∧ numP (nthT l k) ≠ 0 ∧ (numQ l k len).2.2 = (numP (nthT l k), (nthT l k).2.2)) := by
  unfold numQ at *
  by_cases h1 : l.length ≤ k
  · rw [if_pos h1]; exact .inl ⟨by first | exact h1 | trivial, rfl⟩
  · rw [if_neg h1] at h ⊢
    right
    by_cases h2 : (nthT l k).1 = 3
    · rw [if_neg (by simp [h2])] at h ⊢
      simp only at h ⊢
      have e : numP (nthT l k) = numErr (strI (nthT l k).2.1) := by unfold numP; rw [if_neg (by simp [h2])]
      rw [e]
      refine ⟨by omega, h, ?_⟩
      unfold fltA; rw [if_neg h]
    · rw [if_pos h2]
      have e : numP (nthT l k) = 70 := by unfold numP; rw [if_pos h2]
      rw [e]; exact ⟨by omega, by decide, rfl⟩
/-- A head behind its first word, by what number answers. -/
theorem headP_num {l : List TokT} {len : Int} (h1 : ¬ l.length < 1) (h2 : (nthT l 0).1 = 1 ∧ (nthT l 0).2.1 = moduleS) :
    headP l len = if (numQ l 1 len).2.2.1 ≠ 0 then (0, 0, (numQ l 1 len).2.2.1, (numQ l 1 len).2.2.2) else if (numQ l 2 len).2.2.1 ≠ 0 then (0, 0, (numQ l 2 len).2.2.1, (numQ l 2 len).2.2.2)
      else if (numQ l 2 len).1 = 0 ∨ 65536 < (numQ l 2 len).1 then (0, 0, 24, (numQ l 2 len).2.1.2.2) else if 3 < l.length then (0, 0, 70, (nthT l 3).2.2) else ((numQ l 1 len).1, (numQ l 2 len).1, 0, 0) := by
  unfold headP
  rw [if_neg h1, if_neg (by simp [h2])]
  by_cases a1 : (numQ l 1 len).2.2.1 = 0
  · obtain ⟨b1, b2, b3, b4, b5, b6, b7⟩ := numQ_zero a1
    rw [if_neg (by omega), if_neg (by omega), if_neg (show ¬ (numQ l 1 len).2.2.1 ≠ 0 by omega)]
    by_cases a2 : (numQ l 2 len).2.2.1 = 0
    · obtain ⟨c1, c2, c3, c4, c5, c6, c7⟩ := numQ_zero a2
      rw [if_neg (by omega), if_neg (by omega), if_neg (show ¬ (numQ l 2 len).2.2.1 ≠ 0 by omega), ← b3, ← c3, c4]
      by_cases a3 : (numQ l 2 len).1 = 0 ∨ 65536 < (numQ l 2 len).1
      · rw [if_pos (by omega), if_pos a3]
      · rw [if_neg (by omega), if_neg a3]
    · rw [if_pos a2]
      rcases numQ_not a2 with ⟨d1, d2⟩ | ⟨d1, d2, d3⟩
      · rw [if_pos (by omega), d2]
      · rw [if_neg (by omega), if_pos d2, d3]
  · rw [if_pos a1]
    rcases numQ_not a1 with ⟨d1, d2⟩ | ⟨d1, d2, d3⟩
    · rw [if_pos (by omega), d2]
    · rw [if_neg (by omega), if_pos d2, d3]

set_option maxHeartbeats 8000000 in
theorem rowHead_any (B : Nat) (a : Option Addr) (n c : Nat) (len : Int) (rest : Array Value) (T : Nat) (l : List TokT) (w : World) (h : RowAt w B a n c 0 len rest T) (hv : ToksV w a l) (hl : l.length = n) (hn : 32 * n ≤ 140737488351232) (hin : ToksIn l) (hfar : ∀ b off, a = some ⟨b, off, none⟩ → b ≠ B ∧ b < w.heap.size) :
    Calls Tryz.prog 132 #[.pointer (some ⟨B, 0, none⟩)] w fun x w' => x = .returned (.tuple #[.agg #[.int .u32 (headP l len).1, .int .u32 (headP l len).2.1], .agg #[.int .i64 (headP l len).2.2.1, .int .i64 (headP l len).2.2.2]]) ∧ w.grownBy w' (some B) := by
  have hS0 := head_new w B a n c len rest T l 0 h hv hfar
  obtain ⟨R, hR⟩ : ∃ R, R = headP l len := ⟨_, rfl⟩
  rw [← hR]
  have hR0 := hR
  unfold headP at hR
  rw [hl] at hR
  have HR := hide hR
  have HIN := hide hin
  have HL := hide hl
  have HN := hide hn
  have HP : Hid (¬ n < 1 → (nthT l 0).1 = 1 → (nthT l 0).2.1 = moduleS → R = if (numQ l 1 len).2.2.1 ≠ 0 then (0, 0, (numQ l 1 len).2.2.1, (numQ l 1 len).2.2.2) else if (numQ l 2 len).2.2.1 ≠ 0 then (0, 0, (numQ l 2 len).2.2.1, (numQ l 2 len).2.2.2) else if (numQ l 2 len).1 = 0 ∨ 65536 < (numQ l 2 len).1 then (0, 0, 24, (numQ l 2 len).2.1.2.2) else if 3 < n then (0, 0, 70, (nthT l 3).2.2) else ((numQ l 1 len).1, (numQ l 2 len).1, 0, 0)) := fun h1 h2 h3 => by
    rw [hR0, headP_num (by omega) ⟨h2, h3⟩, hl]
  clear h hv hfar hR hin hR0
  by_cases h0 : n < 1
  · obtain rfl : n = 0 := by omega
    have e9 := HR.out
    rw [if_pos (by omega)] at e9
    have HE9 := hide e9
    have hC := take_early B a 0 c len rest T 1 _ hS0.row
    have HS0 := hide hS0
    unfold tokV noTok at hC
    clear e9 HR hS0 h0
    go_enter Tryz.func132, Tryz.ntmps132
    go_wp2_with fail
    generalize (w.alloc (.cells #[.int .u32 0, .int .u32 0] 80)).alloc (.cells #[.int .i64 0, .int .i64 0] 28) = W at *
    refine hC.mono ?_
    rintro x w1 ⟨rfl, hb1⟩
    have hS1 := HS0.out.below hb1
    have s1 := hS1.size
    have HS := hide (hS1.below (((Below.refl _ w1).alloc (Nat.le_refl _) (.cells #[.int .u8 0, .string ⟨#[]⟩, .int .i64 0] 106)).alloc (by simp) (.cells #[.int .i64 72, .int .i64 len] 28)))
    have n1 : w1.heap.size + 1 ≠ w.heap.size := by omega
    have n2 : w1.heap.size + 1 ≠ w.heap.size + 1 := by omega
    clear hC hb1 hS1 HS0
    obtain ⟨ch, fh⟩ := blk_cells HS.out.head
    obtain ⟨cp, fp⟩ := blk_cells HS.out.spot
    have u0 := ch 0
    have u1 := ch 1
    have p0 := cp 0
    have p1 := cp 1
    obtain ⟨x1, x2, x3⟩ := four_drew HS.out.head HS.out.spot (.int .u32 0) (.int .u32 0) (.int .i64 (72)) (.int .i64 (len))
    have HY := hide (grown_put HS.out.grown x3)
    have HY1 := hide x1
    have HY2 := hide x2
    clear x1 x2 x3 ch cp
    go_wp2_with fail
    go_region
    generalize ((((((w1.alloc (.cells #[.int .u8 0, .string ⟨#[]⟩, .int .i64 0] 106)).alloc (.cells #[.int .i64 72, .int .i64 len] 28)).setCell ⟨w.heap.size, 0, none⟩ (.int .u32 0)).setCell ⟨w.heap.size, 1, none⟩ (.int .u32 0)).setCell ⟨w.heap.size + 1, 0, none⟩ (.int .i64 (72))).setCell ⟨w.heap.size + 1, 1, none⟩ (.int .i64 (len))).drew = X at *
    clear u0 u1 p0 p1 fh fp HS
    go_wp2
    obtain ⟨e1, _⟩ := blk_cells HY1.out
    obtain ⟨e2, _⟩ := blk_cells HY2.out
    have a0 := e1 0
    have a1 := e1 1
    have b0 := e2 0
    have b1 := e2 1
    refine bodyPost_ret (v := .tuple #[.agg #[.int .u32 0, .int .u32 0], .agg #[.int .i64 (72), .int .i64 (len)]]) ?_ rfl ⟨by rw [HE9.out], HY.out⟩
    simp [results, Tryz.results132, go_sem, a0, a1, b0, b1]
  · have hR1 := HR.out
    rw [if_neg h0] at hR1
    have t0ok := HIN.out 0 (by rw [HL.out]; omega)
    by_cases hk : (nthT l 0).1 = 1
    · have hC := take_ok B a n c 0 len rest T l 1 _ hS0.row hS0.toks HL.out HN.out (by omega) hk
      obtain ⟨z, hz⟩ : ∃ z, z = nthT l 0 := ⟨_, rfl⟩
      have HP := hide (HP.out h0 hk)
      rw [← hz] at hC hk hR1 t0ok HP
      clear hz
      obtain ⟨z1, z2, z3⟩ := z
      simp only at hk t0ok hR1 HP
      subst hk
      unfold tokV at hC
      simp only at hC
      have HS0 := hide hS0
      by_cases hm : z2 = moduleS
      · have hm' : (z2.toList == [109, 111, 100, 117, 108, 101]) = true := by rw [beq_iff_eq, hm]; exact mod_list
        have HEQ := hide (HP.out hm)
        have hN1 := fun (wx : World) (hx : RowAt wx B a n c 1 len rest T) (hvx : ToksV wx a l) => number_any7 B a n c 1 len rest T l wx hx hvx HL.out HN.out HIN.out (by omega)
        obtain ⟨Q1, hQ1⟩ : ∃ Q, Q = numQ l 1 len := ⟨_, rfl⟩
        rw [← hQ1] at hN1 HEQ
        have HQ1 := hide hQ1
        obtain ⟨no, ⟨y1, y2, y3⟩, ne, np⟩ := Q1
        unfold tokV at hN1
        simp only at hN1 HEQ
        clear hR1 hS0 h0 HR hm t0ok hQ1 HP
        go_enter Tryz.func132, Tryz.ntmps132
        go_wp2_with fail
        generalize (w.alloc (.cells #[.int .u32 0, .int .u32 0] 80)).alloc (.cells #[.int .i64 0, .int .i64 0] 28) = W at *
        refine hC.mono ?_
        rintro x w1 ⟨rfl, hR1, hg1⟩
        have hS1 := HS0.out.grow hg1 hR1
        have s1 := hS1.size
        have hb2 : Below w1.heap.size w1 ((w1.alloc (.cells #[.int .u8 1, .string z2, .int .i64 z3] 106)).alloc (.cells #[.int .i64 0, .int .i64 0] 28)) := ((Below.refl _ w1).alloc (Nat.le_refl _) _).alloc (by simp) _
        have hS2 := hS1.below hb2
        have kP : ((w1.alloc (.cells #[.int .u8 1, .string z2, .int .i64 z3] 106)).alloc (.cells #[.int .i64 0, .int .i64 0] 28)).heap[w1.heap.size + 1]? = some (.cells #[.int .i64 0, .int .i64 0] 28 (0, 0)) := by simpa using heap_alloc_new (w1.alloc (.cells #[.int .u8 1, .string z2, .int .i64 z3] 106)) (.cells #[.int .i64 0, .int .i64 0] 28)
        have kA : ((w1.alloc (.cells #[.int .u8 1, .string z2, .int .i64 z3] 106)).alloc (.cells #[.int .i64 0, .int .i64 0] 28)).heap[w1.heap.size]? = some (.cells #[.int .u8 1, .string z2, .int .i64 z3] 106 (0, 0)) := (Below.heap_alloc _ _ _ (by simp)).trans (heap_alloc_new w1 _)
        have HKP := hide kP
        have HKA := hide kA
        have HS2 := hide hS2
        have hC2 := hN1 _ hS2.row hS2.toks
        clear hC hR1 hg1 HS0 hS1 hb2 kP kA hS2 hN1
        go_wp2_with fail
        generalize (w1.alloc (.cells #[.int .u8 1, .string z2, .int .i64 z3] 106)).alloc (.cells #[.int .i64 0, .int .i64 0] 28) = W2 at *
        refine hC2.mono ?_
        rintro x w3 ⟨rfl, hg3, k3, hR3, hk3⟩
        have hS3 := HS2.out.grow hg3 hR3
        have sB := HS2.out.lt
        have kP3 := (hg3.block _ (Array.getElem?_eq_some_iff.1 HKP.out).1 (by simp; omega)).trans HKP.out
        have kA3 := (hg3.block _ (Array.getElem?_eq_some_iff.1 HKA.out).1 (by simp; omega)).trans HKA.out
        obtain ⟨c9, f9⟩ := blk_cells kP3
        have v0 := c9 0
        have v1 := c9 1
        have s3 := (Array.getElem?_eq_some_iff.1 kP3).1
        have hS4 := (hS3.set (g := w1.heap.size + 1) (by omega) 0 (.int .i64 ne)).set (g := w1.heap.size + 1) (by omega) 1 (.int .i64 np)
        have HS := hide (hS4.below ((Below.refl _ _).alloc (Nat.le_refl _) (.cells #[.int .u8 y1, .string y2, .int .i64 y3] 106)))
        have HK3 := hide hk3
        have n1 : w1.heap.size + 1 ≠ w.heap.size := by omega
        have n2 : w1.heap.size + 1 ≠ w.heap.size + 1 := by omega
        have HA4 := hide (show (((w3.setCell ⟨w1.heap.size + 1, 0, none⟩ (.int .i64 ne)).setCell ⟨w1.heap.size + 1, 1, none⟩ (.int .i64 np)).alloc (.cells #[.int .u8 y1, .string y2, .int .i64 y3] 106)).heap[w1.heap.size]? = some (.cells #[.int .u8 1, .string z2, .int .i64 z3] 106 (0, 0)) from (Below.heap_alloc _ _ _ (by simp; omega)).trans ((Below.heap_setCell _ _ _ _ (by simp)).trans ((Below.heap_setCell _ _ _ _ (by simp)).trans kA3)))
        have HP4 := hide (show (((w3.setCell ⟨w1.heap.size + 1, 0, none⟩ (.int .i64 ne)).setCell ⟨w1.heap.size + 1, 1, none⟩ (.int .i64 np)).alloc (.cells #[.int .u8 y1, .string y2, .int .i64 y3] 106)).heap[w1.heap.size + 1]? = some (.cells #[.int .i64 ne, .int .i64 np] 28 (0, 0)) from (Below.heap_alloc _ _ _ (by simp; omega)).trans (two_set kP3 _ _))
        clear hC2 hg3 hR3 hk3 hS3 HS2 HKP HKA kP3 kA3 c9 hS4
        by_cases hne : ne = 0
        · subst hne
          obtain ⟨q1, q2, q3, q4, q5, q6, q7⟩ := numQ_zero (l := l) (k := 1) (len := len) (by rw [← HQ1.out])
          obtain rfl : k3 = 2 := HK3.out rfl
          rw [← HQ1.out] at q5 q6
          simp only at q5 q6
          have e9 := HEQ.out
          rw [if_neg (by simp)] at e9
          have hn2 : 2 ≤ n := by have := HL.out; omega
          have hN2 := fun (wx : World) (hx : RowAt wx B a n c 2 len rest T) (hvx : ToksV wx a l) => number_any7 B a n c 2 len rest T l wx hx hvx HL.out HN.out HIN.out hn2
          obtain ⟨Q2, hQ2⟩ : ∃ Q, Q = numQ l 2 len := ⟨_, rfl⟩
          rw [← hQ2] at hN2 e9
          have HQ2 := hide hQ2
          obtain ⟨m_o, ⟨x1, x2, x3⟩, me, mp⟩ := Q2
          unfold tokV at hN2
          simp only at hN2 e9
          have HEQ2 := hide e9
          have hC3 := hN2 _ HS.out.row HS.out.toks
          clear q1 q2 q3 q4 q7 HK3 e9 HEQ hQ2 hN2
          go_wp2_with fail
          generalize ((w3.setCell ⟨w1.heap.size + 1, 0, none⟩ (.int .i64 0)).setCell ⟨w1.heap.size + 1, 1, none⟩ (.int .i64 np)).alloc (.cells #[.int .u8 y1, .string y2, .int .i64 y3] 106) = W4 at *
          refine hC3.mono ?_
          rintro x w5 ⟨rfl, hg5, k5, hR5, hk5⟩
          have hS5 := HS.out.grow hg5 hR5
          have kP5 := (hg5.block _ (Array.getElem?_eq_some_iff.1 HP4.out).1 (by simp; omega)).trans HP4.out
          have kA5 := (hg5.block _ (Array.getElem?_eq_some_iff.1 HA4.out).1 (by simp; omega)).trans HA4.out
          obtain ⟨c9, f9'⟩ := blk_cells kP5
          obtain ⟨d9, g9⟩ := blk_cells kA5
          have v4 : w5.cell? ⟨w1.heap.size + 1, 0, none⟩ = some (.int .i64 0) := c9 0
          have v5 : w5.cell? ⟨w1.heap.size + 1, 1, none⟩ = some (.int .i64 np) := c9 1
          have v6 : w5.cell? ⟨w1.heap.size, 0, none⟩ = some (.int .u8 1) := d9 0
          have v7 : w5.cell? ⟨w1.heap.size, 1, none⟩ = some (.string z2) := d9 1
          have v8 : w5.cell? ⟨w1.heap.size, 2, none⟩ = some (.int .i64 z3) := d9 2
          have fa := f9' 0
          have fb := f9' 1
          have fc := g9 0
          have fd := g9 1
          have fe := g9 2
          have na : w1.heap.size ≠ w1.heap.size + 1 := by omega
          have nb : w1.heap.size + 1 ≠ w1.heap.size := by omega
          have s5 := (Array.getElem?_eq_some_iff.1 kP5).1
          obtain ⟨kA6, kP6, hb6⟩ := five_put kA5 kP5 (.int .u8 x1) (.string x2) (.int .i64 x3) (.int .i64 me) (.int .i64 mp)
          have hS6 := ((((hS5.set (g := w1.heap.size) (by omega) 0 (.int .u8 x1)).set (g := w1.heap.size) (by omega) 1 (.string x2)).set (g := w1.heap.size) (by omega) 2 (.int .i64 x3)).set (g := w1.heap.size + 1) (by omega) 0 (.int .i64 me)).set (g := w1.heap.size + 1) (by omega) 1 (.int .i64 mp)
          have HS6 := hide hS6
          have HA6 := hide kA6
          have HP6 := hide kP6
          have HK5 := hide hk5
          clear hC3 hg5 hR5 hk5 hS5 HS HP4 HA4 kP5 kA5 c9 d9 kA6 kP6 hb6 hS6 v0 v1 f9 f9' g9
          by_cases hme : me = 0
          · subst hme
            have hFA := fun wx => faultAt_any (x1, x2, x3) 24 wx
            rw [show fltA 24 ((x1, x2, x3) : TokT).2.2 = x3 by unfold fltA; simp] at hFA
            unfold tokV at hFA
            simp only at hFA
            have e9 := HEQ2.out
            rw [if_neg (by simp)] at e9
            by_cases hbd : m_o = 0 ∨ 65536 < m_o
            · rw [if_pos hbd] at e9
              have HE8 := hide e9
              clear e9 HEQ2
              by_cases hb0 : m_o = 0
              · subst hb0
                clear hbd
                go_wp2_with fail
                generalize ((((w5.setCell ⟨w1.heap.size, 0, none⟩ (.int .u8 x1)).setCell ⟨w1.heap.size, 1, none⟩ (.string x2)).setCell ⟨w1.heap.size, 2, none⟩ (.int .i64 x3)).setCell ⟨w1.heap.size + 1, 0, none⟩ (.int .i64 0)).setCell ⟨w1.heap.size + 1, 1, none⟩ (.int .i64 mp) = W6 at *
                refine (hFA _).mono ?_
                rintro x w7 ⟨rfl, hb7⟩
                have hS7 := HS6.out.below hb7
                obtain ⟨ch, fh⟩ := blk_cells hS7.head
                obtain ⟨cp, fp⟩ := blk_cells hS7.spot
                have u0 := ch 0
                have u1 := ch 1
                have p0 := cp 0
                have p1 := cp 1
                obtain ⟨r1, r2, r3⟩ := four_putX hS7.head hS7.spot (.int .u32 0) (.int .u32 0) (.int .i64 24) (.int .i64 x3)
                have HY := hide (grown_put hS7.grown r3)
                have HY1 := hide r1
                have HY2 := hide r2
                clear r1 r2 r3 ch cp hS7 hb7 hFA v4 v5 v6 v7 v8 fa fb fc fd fe HS6 HA6 HP6
                go_wp2_with fail
                generalize (((w7.setCell ⟨w.heap.size, 0, none⟩ (.int .u32 0)).setCell ⟨w.heap.size, 1, none⟩ (.int .u32 0)).setCell ⟨w.heap.size + 1, 0, none⟩ (.int .i64 24)).setCell ⟨w.heap.size + 1, 1, none⟩ (.int .i64 x3) = X at *
                obtain ⟨e1, _⟩ := blk_cells HY1.out
                obtain ⟨e2, _⟩ := blk_cells HY2.out
                have a0 := e1 0
                have a1 := e1 1
                have b0 := e2 0
                have b1 := e2 1
                refine bodyPost_ret (v := .tuple #[.agg #[.int .u32 0, .int .u32 0], .agg #[.int .i64 24, .int .i64 x3]]) ?_ rfl ⟨by rw [HE8.out], HY.out⟩
                simp [results, Tryz.results132, go_sem, a0, a1, b0, b1]
              · have hb0' : (m_o == 0) = false := by simpa using hb0
                have hb1' : decide ((65536 : Int) < m_o) = true := decide_eq_true (by omega)
                clear hbd hb0
                go_wp2_with fail
                generalize ((((w5.setCell ⟨w1.heap.size, 0, none⟩ (.int .u8 x1)).setCell ⟨w1.heap.size, 1, none⟩ (.string x2)).setCell ⟨w1.heap.size, 2, none⟩ (.int .i64 x3)).setCell ⟨w1.heap.size + 1, 0, none⟩ (.int .i64 0)).setCell ⟨w1.heap.size + 1, 1, none⟩ (.int .i64 mp) = W6 at *
                refine (hFA _).mono ?_
                rintro x w7 ⟨rfl, hb7⟩
                have hS7 := HS6.out.below hb7
                obtain ⟨ch, fh⟩ := blk_cells hS7.head
                obtain ⟨cp, fp⟩ := blk_cells hS7.spot
                have u0 := ch 0
                have u1 := ch 1
                have p0 := cp 0
                have p1 := cp 1
                obtain ⟨r1, r2, r3⟩ := four_putX hS7.head hS7.spot (.int .u32 0) (.int .u32 0) (.int .i64 24) (.int .i64 x3)
                have HY := hide (grown_put hS7.grown r3)
                have HY1 := hide r1
                have HY2 := hide r2
                clear r1 r2 r3 ch cp hS7 hb7 hFA v4 v5 v6 v7 v8 fa fb fc fd fe HS6 HA6 HP6
                go_wp2_with fail
                generalize (((w7.setCell ⟨w.heap.size, 0, none⟩ (.int .u32 0)).setCell ⟨w.heap.size, 1, none⟩ (.int .u32 0)).setCell ⟨w.heap.size + 1, 0, none⟩ (.int .i64 24)).setCell ⟨w.heap.size + 1, 1, none⟩ (.int .i64 x3) = X at *
                obtain ⟨e1, _⟩ := blk_cells HY1.out
                obtain ⟨e2, _⟩ := blk_cells HY2.out
                have a0 := e1 0
                have a1 := e1 1
                have b0 := e2 0
                have b1 := e2 1
                refine bodyPost_ret (v := .tuple #[.agg #[.int .u32 0, .int .u32 0], .agg #[.int .i64 24, .int .i64 x3]]) ?_ rfl ⟨by rw [HE8.out], HY.out⟩
                simp [results, Tryz.results132, go_sem, a0, a1, b0, b1]
            · rw [if_neg hbd] at e9
              have HE8 := hide e9
              have hb0' : (m_o == 0) = false := by simp; omega
              have hb1' : decide ((65536 : Int) < m_o) = false := decide_eq_false (by omega)
              obtain ⟨q1, _, _, _, _, _, _⟩ := numQ_zero (l := l) (k := 2) (len := len) (by rw [← HQ2.out])
              have hn3 : 3 ≤ n := by have := HL.out; omega
              obtain rfl : k5 = 3 := HK5.out rfl
              have hE := fun (wx : World) (hx : RowAt wx B a n c 3 len rest T) => ended_any B a n c 3 len rest T wx hx
              clear e9 HEQ2 hbd q1 HK5 hFA
              have HHE := hide (hE _ HS6.out.row)
              clear hE
              go_wp2_with fail
              generalize ((((w5.setCell ⟨w1.heap.size, 0, none⟩ (.int .u8 x1)).setCell ⟨w1.heap.size, 1, none⟩ (.string x2)).setCell ⟨w1.heap.size, 2, none⟩ (.int .i64 x3)).setCell ⟨w1.heap.size + 1, 0, none⟩ (.int .i64 0)).setCell ⟨w1.heap.size + 1, 1, none⟩ (.int .i64 mp) = W6 at *
              refine HHE.out.mono ?_
              rintro x w7 ⟨rfl, q, rfl⟩
              have hS7 := HS6.out.below (bel_drewN (Below.refl W6.heap.size W6) q)
              generalize W6.drewN q = W7 at *
              have HS := hide hS7
              clear hS7 HHE v4 v5 v6 v7 v8 fa fb fc fd fe HS6 HA6 HP6
              by_cases h3 : n = 3
              · subst h3
                have e8 := HE8.out
                rw [if_neg (by omega)] at e8
                have HE7 := hide e8
                clear HE8 e8
                obtain ⟨ch, fh⟩ := blk_cells HS.out.head
                obtain ⟨cp, fp⟩ := blk_cells HS.out.spot
                have u0 := ch 0
                have u1 := ch 1
                have p0 := cp 0
                have p1 := cp 1
                obtain ⟨r1, r2, r3⟩ := four_putX HS.out.head HS.out.spot (.int .u32 no) (.int .u32 m_o) (.int .i64 0) (.int .i64 0)
                have HY := hide (grown_put HS.out.grown r3)
                have HY1 := hide r1
                have HY2 := hide r2
                clear r1 r2 r3 ch cp HS
                go_wp2_with fail
                generalize (((W7.setCell ⟨w.heap.size, 0, none⟩ (.int .u32 no)).setCell ⟨w.heap.size, 1, none⟩ (.int .u32 m_o)).setCell ⟨w.heap.size + 1, 0, none⟩ (.int .i64 0)).setCell ⟨w.heap.size + 1, 1, none⟩ (.int .i64 0) = X at *
                obtain ⟨e1, _⟩ := blk_cells HY1.out
                obtain ⟨e2, _⟩ := blk_cells HY2.out
                have a0 := e1 0
                have a1 := e1 1
                have b0 := e2 0
                have b1 := e2 1
                refine bodyPost_ret (v := .tuple #[.agg #[.int .u32 no, .int .u32 m_o], .agg #[.int .i64 0, .int .i64 0]]) ?_ rfl ⟨by rw [HE7.out], HY.out⟩
                simp [results, Tryz.results132, go_sem, a0, a1, b0, b1]
              · have h3' : ((3 : Int) == (n : Int)) = false := by simp; omega
                have e8 := HE8.out
                rw [if_pos (by omega)] at e8
                have HE7 := hide e8
                clear HE8 e8
                obtain ⟨r0, r1, r2, rf⟩ := HS.out.row.cells
                obtain ⟨g1, o1, rfl, hg1, t1, t2, t3⟩ := HS.out.toks 3 (by have := HL.out; omega)
                have hFA := fun wx => faultAt_any (nthT l 3) 70 wx
                rw [show fltA 70 (nthT l 3).2.2 = (nthT l 3).2.2 by unfold fltA; simp] at hFA
                unfold tokV at hFA
                generalize nthT l 3 = zz at *
                obtain ⟨f1, f2, f3⟩ := zz
                simp only at hFA t1 t2 t3 HE7
                obtain ⟨ch, fh⟩ := blk_cells HS.out.head
                obtain ⟨cp, fp⟩ := blk_cells HS.out.spot
                have u0 := ch 0
                have u1 := ch 1
                have p0 := cp 0
                have p1 := cp 1
                have s7 := HS.out.size
                have hki : (3 : Int) < (n : Int) := by omega
                have hBw := HS.out.lt
                clear ch cp
                go_wp2_with fail
                go_region_with ((go_at_call 172; refine (hFA _).mono ?_; rintro x w8 ⟨rfl, hbx⟩; have m0 := hbx.cell (p := ⟨w.heap.size, 0, none⟩) (by simp; omega); have m1 := hbx.cell (p := ⟨w.heap.size, 1, none⟩) (by simp; omega); have m3 := hbx.cell (p := ⟨w.heap.size + 1, 0, none⟩) (by simp; omega); have m4 := hbx.cell (p := ⟨w.heap.size + 1, 1, none⟩) (by simp; omega); have m5 := hbx.frozen (p := ⟨w.heap.size, 0, none⟩) (by simp; omega); have m6 := hbx.frozen (p := ⟨w.heap.size, 1, none⟩) (by simp; omega); have m8 := hbx.frozen (p := ⟨w.heap.size + 1, 0, none⟩) (by simp; omega); have m9 := hbx.frozen (p := ⟨w.heap.size + 1, 1, none⟩) (by simp; omega); have HBX := hide hbx))
                all_goals
                  have hbx := HBX.out
                  have kH := (hbx.block w.heap.size (by simp; omega)).trans HS.out.head
                  have kS := (hbx.block (w.heap.size + 1) (by simp; omega)).trans HS.out.spot
                  have hg8 : w.grownBy w8 (some B) := ⟨hbx.os.trans HS.out.grown.os, hbx.tape.trans HS.out.grown.tape, hbx.output.trans HS.out.grown.output, Nat.le_trans HS.out.grown.size hbx.size, fun j hj hr => (hbx.block j (by simp; omega)).trans (HS.out.grown.block j hj hr)⟩
                  obtain ⟨y1', y2', y3'⟩ := four_putX kH kS (.int .u32 0) (.int .u32 0) (.int .i64 70) (.int .i64 f3)
                  have HY := hide (grown_put hg8 y3')
                  have HY1 := hide y1'
                  have HY2 := hide y2'
                  clear hbx kH kS hg8 y1' y2' y3' HBX m0 m1 m3 m4 m5 m6 m8 m9 u0 u1 p0 p1 fh fp r0 r1 r2 rf t1 t2 t3 HS hFA
                  generalize (((w8.setCell ⟨w.heap.size, 0, none⟩ (.int .u32 0)).setCell ⟨w.heap.size, 1, none⟩ (.int .u32 0)).setCell ⟨w.heap.size + 1, 0, none⟩ (.int .i64 70)).setCell ⟨w.heap.size + 1, 1, none⟩ (.int .i64 f3) = X at *
                  go_wp2
                  obtain ⟨e1, _⟩ := blk_cells HY1.out
                  obtain ⟨e2, _⟩ := blk_cells HY2.out
                  have a0 := e1 0
                  have a1 := e1 1
                  have b0 := e2 0
                  have b1 := e2 1
                  refine bodyPost_ret (v := .tuple #[.agg #[.int .u32 0, .int .u32 0], .agg #[.int .i64 70, .int .i64 f3]]) ?_ rfl ⟨by rw [HE7.out], HY.out⟩
                  simp [results, Tryz.results132, go_sem, a0, a1, b0, b1]
          · have hme' : (me != 0) = true := by simp [hme]
            have e9 := HEQ2.out
            rw [if_pos hme] at e9
            have HE8 := hide e9
            clear HEQ2 e9
            go_wp2_with fail
            generalize ((((w5.setCell ⟨w1.heap.size, 0, none⟩ (.int .u8 x1)).setCell ⟨w1.heap.size, 1, none⟩ (.string x2)).setCell ⟨w1.heap.size, 2, none⟩ (.int .i64 x3)).setCell ⟨w1.heap.size + 1, 0, none⟩ (.int .i64 me)).setCell ⟨w1.heap.size + 1, 1, none⟩ (.int .i64 mp) = W6 at *
            obtain ⟨c8, _⟩ := blk_cells HP6.out
            have v2 := c8 0
            have v3 := c8 1
            have HS := HS6
            clear v4 v5 v6 v7 v8 fa fb fc fd fe c8 HS6
            obtain ⟨ch, fh⟩ := blk_cells HS.out.head
            obtain ⟨cp, fp⟩ := blk_cells HS.out.spot
            have u0 := ch 0
            have u1 := ch 1
            have p0 := cp 0
            have p1 := cp 1
            obtain ⟨x1, x2, x3⟩ := four_drew HS.out.head HS.out.spot (.int .u32 0) (.int .u32 0) (.int .i64 (me)) (.int .i64 (mp))
            have HY := hide (grown_put HS.out.grown x3)
            have HY1 := hide x1
            have HY2 := hide x2
            clear x1 x2 x3 ch cp
            go_wp2_with fail
            go_region
            generalize (((((W6).setCell ⟨w.heap.size, 0, none⟩ (.int .u32 0)).setCell ⟨w.heap.size, 1, none⟩ (.int .u32 0)).setCell ⟨w.heap.size + 1, 0, none⟩ (.int .i64 (me))).setCell ⟨w.heap.size + 1, 1, none⟩ (.int .i64 (mp))).drew = X at *
            clear u0 u1 p0 p1 fh fp HS v2 v3
            go_wp2
            obtain ⟨e1, _⟩ := blk_cells HY1.out
            obtain ⟨e2, _⟩ := blk_cells HY2.out
            have a0 := e1 0
            have a1 := e1 1
            have b0 := e2 0
            have b1 := e2 1
            refine bodyPost_ret (v := .tuple #[.agg #[.int .u32 0, .int .u32 0], .agg #[.int .i64 (me), .int .i64 (mp)]]) ?_ rfl ⟨by rw [HE8.out], HY.out⟩
            simp [results, Tryz.results132, go_sem, a0, a1, b0, b1]
        · have hne' : (ne != 0) = true := by simp [hne]
          have HE9 := HEQ
          have e9 := HEQ.out
          rw [if_pos hne] at e9
          have HE8 := hide e9
          clear HEQ HE9 e9
          go_wp2_with fail
          generalize ((w3.setCell ⟨w1.heap.size + 1, 0, none⟩ (.int .i64 ne)).setCell ⟨w1.heap.size + 1, 1, none⟩ (.int .i64 np)).alloc (.cells #[.int .u8 y1, .string y2, .int .i64 y3] 106) = W4 at *
          obtain ⟨c8, _⟩ := blk_cells HP4.out
          have v2 := c8 0
          have v3 := c8 1
          clear v0 v1 f9 c8
          obtain ⟨ch, fh⟩ := blk_cells HS.out.head
          obtain ⟨cp, fp⟩ := blk_cells HS.out.spot
          have u0 := ch 0
          have u1 := ch 1
          have p0 := cp 0
          have p1 := cp 1
          obtain ⟨x1, x2, x3⟩ := four_drew HS.out.head HS.out.spot (.int .u32 0) (.int .u32 0) (.int .i64 (ne)) (.int .i64 (np))
          have HY := hide (grown_put HS.out.grown x3)
          have HY1 := hide x1
          have HY2 := hide x2
          clear x1 x2 x3 ch cp
          go_wp2_with fail
          go_region
          generalize (((((W4).setCell ⟨w.heap.size, 0, none⟩ (.int .u32 0)).setCell ⟨w.heap.size, 1, none⟩ (.int .u32 0)).setCell ⟨w.heap.size + 1, 0, none⟩ (.int .i64 (ne))).setCell ⟨w.heap.size + 1, 1, none⟩ (.int .i64 (np))).drew = X at *
          clear u0 u1 p0 p1 fh fp HS v2 v3
          go_wp2
          obtain ⟨e1, _⟩ := blk_cells HY1.out
          obtain ⟨e2, _⟩ := blk_cells HY2.out
          have a0 := e1 0
          have a1 := e1 1
          have b0 := e2 0
          have b1 := e2 1
          refine bodyPost_ret (v := .tuple #[.agg #[.int .u32 0, .int .u32 0], .agg #[.int .i64 (ne), .int .i64 (np)]]) ?_ rfl ⟨by rw [HE8.out], HY.out⟩
          simp [results, Tryz.results132, go_sem, a0, a1, b0, b1]
      · rw [if_pos (by simp [hm])] at hR1
        have HE9 := hide hR1
        have hm' : (z2.toList == [109, 111, 100, 117, 108, 101]) = false := by
          rw [beq_eq_false_iff_ne]
          intro e
          exact hm (str_injA (e.trans mod_list.symm))
        have hFA := fun wx => faultAt_any (1, z2, z3) 70 wx
        rw [show fltA 70 ((1, z2, z3) : TokT).2.2 = z3 by unfold fltA; simp] at hFA
        unfold tokV at hFA
        simp only at hFA
        clear hR1 hS0 h0 HR hm t0ok
        go_enter Tryz.func132, Tryz.ntmps132
        go_wp2_with fail
        generalize (w.alloc (.cells #[.int .u32 0, .int .u32 0] 80)).alloc (.cells #[.int .i64 0, .int .i64 0] 28) = W at *
        refine hC.mono ?_
        rintro x w1 ⟨rfl, hR1, hg1⟩
        have hS1 := HS0.out.grow hg1 hR1
        have s1 := hS1.size
        have hb2 : Below w1.heap.size w1 ((w1.alloc (.cells #[.int .u8 1, .string z2, .int .i64 z3] 106)).alloc (.cells #[.int .i64 0, .int .i64 0] 28)) := ((Below.refl _ w1).alloc (Nat.le_refl _) _).alloc (by simp) _
        have HS2 := hide (hS1.below hb2)
        have kP : ((w1.alloc (.cells #[.int .u8 1, .string z2, .int .i64 z3] 106)).alloc (.cells #[.int .i64 0, .int .i64 0] 28)).heap[w1.heap.size + 1]? = some (.cells #[.int .i64 0, .int .i64 0] 28 (0, 0)) := by simpa using heap_alloc_new (w1.alloc (.cells #[.int .u8 1, .string z2, .int .i64 z3] 106)) (.cells #[.int .i64 0, .int .i64 0] 28)
        have HKP := hide kP
        clear hC hR1 hg1 HS0 hS1 hb2 kP
        go_wp2_with fail
        generalize (w1.alloc (.cells #[.int .u8 1, .string z2, .int .i64 z3] 106)).alloc (.cells #[.int .i64 0, .int .i64 0] 28) = W2 at *
        refine (hFA _).mono ?_
        rintro x w3 ⟨rfl, hb3⟩
        have hS3 := HS2.out.below hb3
        have kP3 := (hb3.block _ (Array.getElem?_eq_some_iff.1 HKP.out).1).trans HKP.out
        obtain ⟨c9, f9⟩ := blk_cells kP3
        have v0 := c9 0
        have v1 := c9 1
        have HS := hide ((hS3.set (g := w1.heap.size + 1) (by omega) 0 (.int .i64 70)).set (g := w1.heap.size + 1) (by omega) 1 (.int .i64 z3))
        have n1 : w1.heap.size + 1 ≠ w.heap.size := by omega
        have n2 : w1.heap.size + 1 ≠ w.heap.size + 1 := by omega
        clear hFA hb3 hS3 HS2 HKP kP3 c9
        go_wp2_with fail
        generalize hW4 : (w3.setCell ⟨w1.heap.size + 1, 0, none⟩ (.int .i64 70)).setCell ⟨w1.heap.size + 1, 1, none⟩ (.int .i64 z3) = W4 at *
        have v2 : W4.cell? ⟨w1.heap.size + 1, 0, none⟩ = some (.int .i64 70) := by rw [← hW4]; simp [go_sem, v0, v1]
        have v3 : W4.cell? ⟨w1.heap.size + 1, 1, none⟩ = some (.int .i64 z3) := by rw [← hW4]; simp [go_sem, v0, v1]
        clear hW4 v0 v1 f9
        obtain ⟨ch, fh⟩ := blk_cells HS.out.head
        obtain ⟨cp, fp⟩ := blk_cells HS.out.spot
        have u0 := ch 0
        have u1 := ch 1
        have p0 := cp 0
        have p1 := cp 1
        obtain ⟨x1, x2, x3⟩ := four_drew HS.out.head HS.out.spot (.int .u32 0) (.int .u32 0) (.int .i64 (70)) (.int .i64 (z3))
        have HY := hide (grown_put HS.out.grown x3)
        have HY1 := hide x1
        have HY2 := hide x2
        clear x1 x2 x3 ch cp
        go_wp2_with fail
        go_region
        generalize (((((W4).setCell ⟨w.heap.size, 0, none⟩ (.int .u32 0)).setCell ⟨w.heap.size, 1, none⟩ (.int .u32 0)).setCell ⟨w.heap.size + 1, 0, none⟩ (.int .i64 (70))).setCell ⟨w.heap.size + 1, 1, none⟩ (.int .i64 (z3))).drew = X at *
        clear u0 u1 p0 p1 fh fp HS v2 v3
        go_wp2
        obtain ⟨e1, _⟩ := blk_cells HY1.out
        obtain ⟨e2, _⟩ := blk_cells HY2.out
        have a0 := e1 0
        have a1 := e1 1
        have b0 := e2 0
        have b1 := e2 1
        refine bodyPost_ret (v := .tuple #[.agg #[.int .u32 0, .int .u32 0], .agg #[.int .i64 (70), .int .i64 (z3)]]) ?_ rfl ⟨by rw [HE9.out], HY.out⟩
        simp [results, Tryz.results132, go_sem, a0, a1, b0, b1]
    · rw [if_pos (by simp [hk])] at hR1
      have hC := take_wrong B a n c 0 len rest T l 1 _ hS0.row hS0.toks HL.out HN.out (by omega) hk
      have HE9 := hide hR1
      have HS0 := hide hS0
      unfold tokV noTok at hC
      clear hR1 HR hS0 h0 hk t0ok
      generalize (nthT l 0).2.2 = p9 at *
      go_enter Tryz.func132, Tryz.ntmps132
      go_wp2_with fail
      generalize (w.alloc (.cells #[.int .u32 0, .int .u32 0] 80)).alloc (.cells #[.int .i64 0, .int .i64 0] 28) = W at *
      refine hC.mono ?_
      rintro x w1 ⟨rfl, hb1⟩
      have hS1 := HS0.out.below hb1
      have s1 := hS1.size
      have HS := hide (hS1.below (((Below.refl _ w1).alloc (Nat.le_refl _) (.cells #[.int .u8 0, .string ⟨#[]⟩, .int .i64 0] 106)).alloc (by simp) (.cells #[.int .i64 70, .int .i64 p9] 28)))
      have n1 : w1.heap.size + 1 ≠ w.heap.size := by omega
      have n2 : w1.heap.size + 1 ≠ w.heap.size + 1 := by omega
      clear hC hb1 hS1 HS0
      obtain ⟨ch, fh⟩ := blk_cells HS.out.head
      obtain ⟨cp, fp⟩ := blk_cells HS.out.spot
      have u0 := ch 0
      have u1 := ch 1
      have p0 := cp 0
      have p1 := cp 1
      obtain ⟨x1, x2, x3⟩ := four_drew HS.out.head HS.out.spot (.int .u32 0) (.int .u32 0) (.int .i64 (70)) (.int .i64 (p9))
      have HY := hide (grown_put HS.out.grown x3)
      have HY1 := hide x1
      have HY2 := hide x2
      clear x1 x2 x3 ch cp
      go_wp2_with fail
      go_region
      generalize ((((((w1.alloc (.cells #[.int .u8 0, .string ⟨#[]⟩, .int .i64 0] 106)).alloc (.cells #[.int .i64 70, .int .i64 p9] 28)).setCell ⟨w.heap.size, 0, none⟩ (.int .u32 0)).setCell ⟨w.heap.size, 1, none⟩ (.int .u32 0)).setCell ⟨w.heap.size + 1, 0, none⟩ (.int .i64 (70))).setCell ⟨w.heap.size + 1, 1, none⟩ (.int .i64 (p9))).drew = X at *
      clear u0 u1 p0 p1 fh fp HS
      go_wp2
      obtain ⟨e1, _⟩ := blk_cells HY1.out
      obtain ⟨e2, _⟩ := blk_cells HY2.out
      have a0 := e1 0
      have a1 := e1 1
      have b0 := e2 0
      have b1 := e2 1
      refine bodyPost_ret (v := .tuple #[.agg #[.int .u32 0, .int .u32 0], .agg #[.int .i64 (70), .int .i64 (p9)]]) ?_ rfl ⟨by rw [HE9.out], HY.out⟩
      simp [results, Tryz.results132, go_sem, a0, a1, b0, b1]

end Go.Proofs.YtddkapkkjhomkaaGreatDoor

/-
  What look and step of the scanner of the layer lex do: its block holds the line, the place, the byte that is next and its kind; no other block turns.
-/
namespace Go.Proofs.YtddkapkkjhomkaaGreatDoor
open Go.RowKit
set_option maxRecDepth 10000
set_option linter.unusedVariables false
set_option linter.unusedSimpArgs false

/-- The kind of what is next: 0 at the end. -/
def kAt (l : List Int) (p : Nat) : Int := if p < l.length then kindL (nth l p) else 0
def scnC (s : ByteArray) (p : Nat) (x y : Value) : Obj := .cells #[.string s, .int .i64 p, x, y] 234 (0, 0)
/-- A scanner of a line that stands at a place. -/
def Scn (b : Nat) (s : ByteArray) (p : Nat) (w : World) : Prop := w.heap[b]? = some (scnC s p (.int .u8 (nth (strI s) p)) (.int .u8 (kAt (strI s) p)))

theorem grown_trans {w w1 w2 : World} {r : Option Nat} (h : w.grownBy w1 r) (k : w1.grownBy w2 r) : w.grownBy w2 r :=
  ⟨k.os.trans h.os, k.tape.trans h.tape, k.output.trans h.output, Nat.le_trans h.size k.size, fun i hi hr => (k.block i (Nat.lt_of_lt_of_le hi h.size) hr).trans (h.block i hi hr)⟩
theorem grown_refl (w : World) (r : Option Nat) : w.grownBy w r := ⟨rfl, rfl, rfl, Nat.le_refl _, fun _ _ _ => rfl⟩
theorem grown_belowX {w w1 w2 : World} {r : Option Nat} {B : Nat} (h : w.grownBy w1 r) (k : Below B w1 w2) (hB : w.heap.size ≤ B) : w.grownBy w2 r :=
  ⟨k.os.trans h.os, k.tape.trans h.tape, k.output.trans h.output, Nat.le_trans h.size k.size, fun i hi hr => (k.block i (Nat.lt_of_lt_of_le hi hB)).trans (h.block i hi hr)⟩
theorem grown_setCellX {w w1 : World} {b : Nat} (h : w.grownBy w1 (some b)) (i : Nat) (u : Value) : w.grownBy (w1.setCell ⟨b, i, none⟩ u) (some b) :=
  ⟨h.os, h.tape, h.output, by simpa [World.setCell] using h.size, fun k hk hr => (Below.heap_setCell _ _ _ _ (fun e => hr (by rw [e]))).trans (h.block k hk hr)⟩
theorem grown_drew1 {w w1 : World} {r : Option Nat} (h : w.grownBy w1 r) : w.grownBy w1.drew r := ⟨h.os, h.tape, h.output, h.size, h.block⟩

theorem scn_cells {w : World} {b p : Nat} {s : ByteArray} {x y : Value} (h : w.heap[b]? = some (scnC s p x y)) : w.cell? ⟨b, 0, none⟩ = some (.string s) ∧ w.cell? ⟨b, 1, none⟩ = some (.int .i64 p) ∧ w.cell? ⟨b, 2, none⟩ = some x ∧ w.cell? ⟨b, 3, none⟩ = some y ∧ ∀ i, w.frozen? ⟨b, i, none⟩ = false := by
  refine ⟨?_, ?_, ?_, ?_, fun i => ?_⟩ <;> simp [World.cell?, World.frozen?, h, scnC]

theorem scn_set2 {w : World} {b p : Nat} {s : ByteArray} {x y : Value} (h : w.heap[b]? = some (scnC s p x y)) (u : Value) : (w.setCell ⟨b, 2, none⟩ u).heap[b]? = some (scnC s p u y) := by
  simp [World.setCell, Array.getElem?_modify, h, scnC]
theorem scn_set3 {w : World} {b p : Nat} {s : ByteArray} {x y : Value} (h : w.heap[b]? = some (scnC s p x y)) (u : Value) : (w.setCell ⟨b, 3, none⟩ u).heap[b]? = some (scnC s p x u) := by
  simp [World.setCell, Array.getElem?_modify, h, scnC]
theorem scn_set1 {w : World} {b p : Nat} {s : ByteArray} {x y : Value} (h : w.heap[b]? = some (scnC s p x y)) (q : Nat) : (w.setCell ⟨b, 1, none⟩ (.int .i64 q)).heap[b]? = some (scnC s q x y) := by
  simp [World.setCell, Array.getElem?_modify, h, scnC]
theorem scn_drew {w : World} {b : Nat} {o : Option Obj} (h : w.heap[b]? = o) : w.drew.heap[b]? = o := h

set_option maxHeartbeats 2000000 in
theorem look_any (b p : Nat) (s : ByteArray) (x y : Value) (w : World) (h : w.heap[b]? = some (scnC s p x y)) (hp : p ≤ 140737488351300) (hs : s.size ≤ 140737488351232) :
    Calls Tryz.prog 169 #[.pointer (some ⟨b, 0, none⟩)] w fun e w' => e = .returned (.tuple #[]) ∧ Scn b s p w' ∧ w.grownBy w' (some b) := by
  obtain ⟨c0, c1, c2, c3, cf⟩ := scn_cells h
  by_cases hlt : p < s.size
  · have hc0 : (0 : Int) ≤ (s[p].toNat : Int) := by omega
    have hc1 : (s[p].toNat : Int) < 256 := by have := s[p].toNat_lt; omega
    have hK := fun wx => lexKindOf_any (s[p].toNat : Int) wx hc0 hc1
    have hn := nth_strI s p hlt
    have hk : kAt (strI s) p = kindL (s[p].toNat : Int) := by rw [kAt, if_pos (by rw [strI_len]; exact hlt), hn]
    have HF : Hid (∀ w' : World, w.grownBy w' (some b) → w'.heap[b]? = some (scnC s p (.int .u8 (s[p].toNat : Int)) (.int .u8 (kindL (s[p].toNat : Int)))) → Scn b s p w' ∧ w.grownBy w' (some b)) := fun w' hg hh => ⟨by unfold Scn; rw [hn, hk]; exact hh, hg⟩
    have HS : Hid (w.heap[b]? = some (scnC s p x y)) := h
    have hpi : (p : Int) < (s.size : Int) := by omega
    have f2 := cf 2
    have f3 := cf 3
    clear h hn hk cf
    generalize kindL (s[p].toNat : Int) = kd at *
    go_enter Tryz.func169, Tryz.ntmps169
    go_wp2
    go_region
    go_wp2
    go_region
    all_goals
      go_wp2_with fail
      refine (hK _).mono ?_
      rintro e w' ⟨rfl, rfl⟩
      go_wp2_with fail
      go_end0
      refine ⟨rfl, HF.out _ ?_ ?_⟩
      · exact grown_setCellX (grown_drew1 (grown_setCellX (grown_drew1 (grown_setCellX (grown_setCellX (grown_refl w _) 2 _) 3 _)) 2 _)) 3 _
      · exact scn_set3 (scn_drew (scn_set2 (scn_drew (scn_set3 (scn_set2 HS.out _) _)) _)) _
  · have hn : nth (strI s) p = 0 := nth_over _ _ (by rw [strI_len]; omega)
    have hk : kAt (strI s) p = 0 := by rw [kAt, if_neg (by rw [strI_len]; exact hlt)]
    have HF : Hid (∀ w' : World, w.grownBy w' (some b) → w'.heap[b]? = some (scnC s p (.int .u8 0) (.int .u8 0)) → Scn b s p w' ∧ w.grownBy w' (some b)) := fun w' hg hh => ⟨by unfold Scn; rw [hn, hk]; exact hh, hg⟩
    have HS : Hid (w.heap[b]? = some (scnC s p x y)) := h
    have hpi : ¬ (p : Int) < (s.size : Int) := by omega
    have f2 := cf 2
    have f3 := cf 3
    clear h hn hk cf
    go_enter Tryz.func169, Tryz.ntmps169
    go_wp2
    go_region
    go_wp2
    go_end0
    refine ⟨rfl, HF.out _ ?_ ?_⟩
    · exact grown_drew1 (grown_setCellX (grown_setCellX (grown_refl w _) 2 _) 3 _)
    · exact scn_drew (scn_set3 (scn_set2 HS.out _) _)

theorem step_any (b p : Nat) (s : ByteArray) (w : World) (h : Scn b s p w) (hp : p ≤ 140737488351240) (hs : s.size ≤ 140737488351232) :
    Calls Tryz.prog 205 #[.pointer (some ⟨b, 0, none⟩)] w fun e w' => e = .returned (.tuple #[]) ∧ Scn b s (p + 1) w' ∧ w.grownBy w' (some b) := by
  obtain ⟨c0, c1, c2, c3, cf⟩ := scn_cells h
  have hL := look_any b (p + 1) s _ _ _ (scn_set1 h (p + 1)) (by omega) hs
  have hg := grown_setCellX (grown_refl w (some b)) 1 (.int .i64 ((p + 1 : Nat) : Int))
  have f1 := cf 1
  rw [show ((p + 1 : Nat) : Int) = (p : Int) + 1 by omega] at hL hg
  clear h cf
  go_enter Tryz.func205, Tryz.ntmps205
  go_wp2_with fail
  refine hL.mono ?_
  rintro e w' ⟨rfl, h1, h2⟩
  go_wp2_with fail
  go_end0
  exact ⟨rfl, h1, grown_trans hg h2⟩

end Go.Proofs.YtddkapkkjhomkaaGreatDoor
