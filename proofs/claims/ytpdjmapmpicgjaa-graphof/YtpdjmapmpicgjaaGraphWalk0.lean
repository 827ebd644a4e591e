/-
  A graph in memory while it is walked: its block, the row of nodes that the walk came to, and the row of those that it left.
-/
import Derived.WalkSpells
import Derived.WalkMore
import Derived.OwnWalk
import Derived.Test.YtpdjmapmpicgjaaProg
import Derived.Test.YtpdjmapmpicgjaaBoxes
import Derived.Test.YtpdjmapmpicgjaaGrRows
import Derived.Test.YtpdjmapmpicgjaaGraphOnce
namespace Go.Proofs.Ytpdjmapmpicgjaa
open Go.RowKit
set_option linter.unusedVariables false
set_option linter.unusedSimpArgs false
set_option maxRecDepth 10000

/-- A graph's cells. -/
def gC (nv av : Value) (m : Nat → Nat) (cv ov : Value) : List Value := nv :: av :: (arr64 m ++ [cv, ov])
theorem gC_len (nv av : Value) (m : Nat → Nat) (cv ov : Value) : (gC nv av m cv ov).length = 68 := by simp [gC, arr64_len]
theorem gC_m (nv av : Value) (m : Nat → Nat) (cv ov : Value) (k : Nat) (h : k < 64) : (gC nv av m cv ov)[2 + k]? = some (.int .u64 (m k : Int)) := by
  have e : (gC nv av m cv ov)[2 + k]? = (arr64 m ++ [cv, ov])[k]? := by rw [Nat.add_comm]; rfl
  rw [e, List.getElem?_append_left (by rw [arr64_len]; exact h), arr64_get m k h]
theorem gC_c (nv av : Value) (m : Nat → Nat) (cv ov : Value) : (gC nv av m cv ov)[66]? = some cv := by
  have e : (gC nv av m cv ov)[66]? = (arr64 m ++ [cv, ov])[64]? := rfl
  rw [e, List.getElem?_append_right (by rw [arr64_len]; omega), arr64_len]; rfl
theorem gC_o (nv av : Value) (m : Nat → Nat) (cv ov : Value) : (gC nv av m cv ov)[67]? = some ov := by
  have e : (gC nv av m cv ov)[67]? = (arr64 m ++ [cv, ov])[65]? := rfl
  rw [e, List.getElem?_append_right (by rw [arr64_len]; omega), arr64_len]; rfl
theorem gC_setM (nv av : Value) (m : Nat → Nat) (cv ov : Value) (i : Nat) (h : i < 4096) : (gC nv av m cv ov).set (2 + i / 64) (.int .u64 (setM m i (i / 64) : Int)) = gC nv av (setM m i) cv ov := by
  have e : (gC nv av m cv ov).set (2 + i / 64) (.int .u64 (setM m i (i / 64) : Int)) = nv :: av :: ((arr64 m ++ [cv, ov]).set (i / 64) (.int .u64 (setM m i (i / 64) : Int))) := by rw [Nat.add_comm]; rfl
  rw [e, List.set_append_left _ _ (by rw [arr64_len]; omega), arr64_set m i h]; rfl
theorem gC_setC (nv av : Value) (m : Nat → Nat) (cv ov v : Value) : (gC nv av m cv ov).set 66 v = gC nv av m v ov := by
  have e : (gC nv av m cv ov).set 66 v = nv :: av :: ((arr64 m ++ [cv, ov]).set 64 v) := rfl
  rw [e, List.set_append_right _ _ (by rw [arr64_len]; omega), arr64_len]; rfl
theorem gC_setO (nv av : Value) (m : Nat → Nat) (cv ov v : Value) : (gC nv av m cv ov).set 67 v = gC nv av m cv v := by
  have e : (gC nv av m cv ov).set 67 v = nv :: av :: ((arr64 m ++ [cv, ov]).set 65 v) := rfl
  rw [e, List.set_append_right _ _ (by rw [arr64_len]; omega), arr64_len]; rfl
theorem gC_setA (nv av : Value) (m : Nat → Nat) (cv ov v : Value) : (gC nv av m cv ov).set 1 v = gC nv v m cv ov := rfl

/-- Block p is a graph. -/
def GrB (w : World) (p : Nat) (nv av : Value) (m : Nat → Nat) (cv ov : Value) : Prop := w.heap[p]? = some (.cells (gC nv av m cv ov).toArray 71 (0, 0)) ∧ ∀ k, m k < 18446744073709551616
theorem GrB.cell {w : World} {p : Nat} {nv av : Value} {m : Nat → Nat} {cv ov : Value} (h : GrB w p nv av m cv ov) (k : Nat) : w.cell? ⟨p, k, none⟩ = (gC nv av m cv ov)[k]? := by simp [World.cell?, h.1]
theorem GrB.frozen {w : World} {p : Nat} {nv av : Value} {m : Nat → Nat} {cv ov : Value} (h : GrB w p nv av m cv ov) (k : Nat) : w.frozen? ⟨p, k, none⟩ = false := by simp [World.frozen?, h.1]
theorem GrB.lt {w : World} {p : Nat} {nv av : Value} {m : Nat → Nat} {cv ov : Value} (h : GrB w p nv av m cv ov) : p < w.heap.size := (Array.getElem?_eq_some_iff.1 h.1).1
theorem GrB.mkAt {w : World} {p : Nat} {nv av : Value} {m : Nat → Nat} {cv ov : Value} (h : GrB w p nv av m cv ov) : MkAt w p 2 m := fun k hk => ⟨by rw [h.cell, gC_m _ _ _ _ _ k hk], h.frozen _, h.2 k⟩
theorem GrB.other {w w' : World} {p : Nat} {nv av : Value} {m : Nat → Nat} {cv ov : Value} (h : GrB w p nv av m cv ov) (he : w'.heap[p]? = w.heap[p]?) : GrB w' p nv av m cv ov := ⟨he.trans h.1, h.2⟩
theorem GrB.below {w w' : World} {p : Nat} {nv av : Value} {m : Nat → Nat} {cv ov : Value} (h : GrB w p nv av m cv ov) (hb : Below w.heap.size w w') : GrB w' p nv av m cv ov := h.other (hb.block p h.lt)
theorem GrB.set {w : World} {p : Nat} {nv av : Value} {m : Nat → Nat} {cv ov : Value} (h : GrB w p nv av m cv ov) (k : Nat) (v : Value) : (w.setCell ⟨p, k, none⟩ v).heap[p]? = some (.cells ((gC nv av m cv ov).set k v).toArray 71 (0, 0)) := by
  simp only [World.setCell, Array.getElem?_modify]
  rw [if_pos trivial, h.1]
  simp
theorem GrB.setM {w : World} {p : Nat} {nv av : Value} {m : Nat → Nat} {cv ov : Value} (h : GrB w p nv av m cv ov) {i : Nat} (hi : i < 4096) (d : Nat) : GrB ((w.setCell ⟨p, 2 + i / 64, none⟩ (.int .u64 (setM m i (i / 64) : Int))).drewN d) p nv av (Go.Proofs.Ytpdjmapmpicgjaa.setM m i) cv ov := by
  refine ⟨?_, fun k => setM_lt m i k (h.2 k)⟩
  have := h.set (2 + i / 64) (.int .u64 (Go.Proofs.Ytpdjmapmpicgjaa.setM m i (i / 64) : Int))
  rw [gC_setM _ _ _ _ _ i hi] at this
  exact this

/-- The walk's memory, since the world W0. -/
structure WkS (W0 : World) (p : Nat) (nv av : Value) (w : World) (m : Nat → Nat) (cv ov : Value) (mc c l : List Int) : Prop where
  blk : GrB w p nv av m cv ov
  marked : Marked m mc
  came : w.ownsRow W0.heap.size 3 1 cv c.length (c.map (Value.int .i64))
  left : w.ownsRow W0.heap.size 3 1 ov l.length (l.map (Value.int .i64))
  apart : ∀ g, cv.ownBlock = some g → ov.ownBlock ≠ some g
  grown : W0.grownBy w (some p)
  plt : p < W0.heap.size

theorem WkS.mark {W0 : World} {p : Nat} {nv av : Value} {w : World} {m : Nat → Nat} {cv ov : Value} {mc c l : List Int} (h : WkS W0 p nv av w m cv ov mc c l) {i : Nat} (hi : i < 4096) (d : Nat) {w3 : World} (hd : w3 = (w.setCell ⟨p, 2 + i / 64, none⟩ (.int .u64 (setM m i (i / 64) : Int))).drewN d) : WkS W0 p nv av w3 (setM m i) cv ov (mc ++ [(i : Int)]) c l := by
  have hg : w.grownBy w3 (some p) := by
    rw [hd]
    have := grown_setCell w p (2 + i / 64) (.int .u64 (setM m i (i / 64) : Int))
    exact ⟨this.os, this.tape, this.output, this.size, this.block⟩
  have hp := h.plt
  refine ⟨by rw [hd]; exact h.blk.setM hi d, h.marked.add i, own_grown h.came hg (fun g e e2 => by have := (World.ownsRow.lt h.came g e2).1; cases e; omega), own_grown h.left hg (fun g e e2 => by have := (World.ownsRow.lt h.left g e2).1; cases e; omega), h.apart, h.grown.trans hg, hp⟩
theorem WkS.below {W0 : World} {p : Nat} {nv av : Value} {w w' : World} {m : Nat → Nat} {cv ov : Value} {mc c l : List Int} (h : WkS W0 p nv av w m cv ov mc c l) (hb : Below w.heap.size w w') : WkS W0 p nv av w' m cv ov mc c l :=
  ⟨h.blk.below hb, h.marked, own_below h.came hb, own_below h.left hb, h.apart, h.grown.trans ⟨hb.os, hb.tape, hb.output, hb.size, fun k hk _ => hb.block k hk⟩, h.plt⟩
theorem WkS.pushC {W0 : World} {p : Nat} {nv av : Value} {w w5 : World} {m : Nat → Nat} {cv ov : Value} {mc c l : List Int} (h : WkS W0 p nv av w m cv ov mc c l) (i : Int) {g cap k : Nat} (hg : w.grownBy w5 cv.ownBlock) (hat : cv.ownBlock = some g ∨ g = w.heap.size) (ho : w5.ownsRow W0.heap.size 3 1 (.slice (some ⟨g, 0, none⟩) k cap) (c ++ [i]).length ((c ++ [i]).map (Value.int .i64))) : WkS W0 p nv av (w5.setCell ⟨p, 66, none⟩ (.slice (some ⟨g, 0, none⟩) k cap)) m (.slice (some ⟨g, 0, none⟩) k cap) ov mc (c ++ [i]) l := by
  have hp := h.plt
  have hne : ∀ j, cv.ownBlock = some j → W0.heap.size ≤ j := fun j e => (World.ownsRow.lt h.came j e).1
  have hb5 : GrB w5 p nv av m cv ov := h.blk.other (hg.block p h.blk.lt (fun e => by have := hne p e.symm; omega))
  have hs := hb5.set 66 (.slice (some ⟨g, 0, none⟩) k cap)
  rw [gC_setC] at hs
  have hl5 := own_grown h.left hg (fun j e => h.apart j e)
  refine ⟨⟨hs, h.blk.2⟩, h.marked, ownsRow_setCell_below ho (by simp; exact hp) _, ownsRow_setCell_below hl5 (by simp; exact hp) _, fun j e e2 => ?_, ?_, hp⟩
  · cases e
    rcases hat with h1 | h1
    · exact h.apart g h1 e2
    · have := (World.ownsRow.lt h.left g e2).2; omega
  · exact (h.grown.andThen hg (fun j e => .inl (hne j e))).trans (grown_setCell w5 p 66 _)
theorem WkS.pushL {W0 : World} {p : Nat} {nv av : Value} {w w5 : World} {m : Nat → Nat} {cv ov : Value} {mc c l : List Int} (h : WkS W0 p nv av w m cv ov mc c l) (i : Int) {g cap k : Nat} (hg : w.grownBy w5 ov.ownBlock) (hat : ov.ownBlock = some g ∨ g = w.heap.size) (ho : w5.ownsRow W0.heap.size 3 1 (.slice (some ⟨g, 0, none⟩) k cap) (l ++ [i]).length ((l ++ [i]).map (Value.int .i64))) : WkS W0 p nv av (w5.setCell ⟨p, 67, none⟩ (.slice (some ⟨g, 0, none⟩) k cap)) m cv (.slice (some ⟨g, 0, none⟩) k cap) mc c (l ++ [i]) := by
  have hp := h.plt
  have hne : ∀ j, ov.ownBlock = some j → W0.heap.size ≤ j := fun j e => (World.ownsRow.lt h.left j e).1
  have hb5 : GrB w5 p nv av m cv ov := h.blk.other (hg.block p h.blk.lt (fun e => by have := hne p e.symm; omega))
  have hs := hb5.set 67 (.slice (some ⟨g, 0, none⟩) k cap)
  rw [gC_setO] at hs
  have hl5 := own_grown h.came hg (fun j e e2 => h.apart j e2 e)
  refine ⟨⟨hs, h.blk.2⟩, h.marked, ownsRow_setCell_below hl5 (by simp; exact hp) _, ownsRow_setCell_below ho (by simp; exact hp) _, fun j e e2 => ?_, ?_, hp⟩
  · cases e2
    rcases hat with h1 | h1
    · exact h.apart g e h1
    · have := (World.ownsRow.lt h.came g e).2; omega
  · exact (h.grown.andThen hg (fun j e => .inl (hne j e))).trans (grown_setCell w5 p 67 _)
/-- The edges stay. -/
theorem WkS.next {W0 : World} {p lo : Nat} {nv av : Value} {w : World} {m : Nat → Nat} {cv ov : Value} {mc c l : List Int} {N : List (List Int)} {v : Value} (h : WkS W0 p nv av w m cv ov mc c l) (hN : OwnL W0 lo v N) (hT : ∃ cs fr, W0.heap[p]? = some (.cells cs 71 fr)) : OwnL w lo v N :=
  hN.same fun g cs T fr _ hTT hg => by
    refine (h.grown.block g (Array.getElem?_eq_some_iff.1 hg).1 (fun e => ?_)).trans hg
    cases e
    obtain ⟨cs', fr', h'⟩ := hT
    rw [h'] at hg
    cases hg
    rcases hTT with e | e <;> exact absurd e (by decide)
/-- What lay there but the graph stays. -/
theorem WkS.old {W0 : World} {p k : Nat} {nv av : Value} {w : World} {m : Nat → Nat} {cv ov : Value} {mc c l : List Int} {o : Obj} (h : WkS W0 p nv av w m cv ov mc c l) (hk : W0.heap[k]? = some o) (hne : k ≠ p) : w.heap[k]? = some o :=
  (h.grown.block k (Array.getElem?_eq_some_iff.1 hk).1 (fun e => hne (Option.some.inj e))).trans hk

/-- What the walk came to behind the first k edges of a node. -/
theorem dfsK_seg (N : List (List Int)) (n : Nat) (hE : Edges n N) (f : Nat) (i : Int) (s : WalkS) (hg : GoodC n s.1) (hi : i ∉ s.1) (h0 : 0 ≤ i) (h1 : i < n) (hl : n - s.1.length ≤ f + 1) (hls : s.2.length ≤ s.1.length) (k : Nat) : GoodC n (dfsK N f i s k).1 ∧ n - (dfsK N f i s k).1.length ≤ f ∧ (dfsK N f i s k).2.length ≤ (dfsK N f i s k).1.length := by
  obtain ⟨e, d, hs, _, _⟩ := (walk_all N n hE f).1 ((rowN N i.toNat).take k) (s.1 ++ [i], s.2) (hg.snoc hi h0 h1) (fun x hx => hE _ x (List.mem_of_mem_take hx)) (by simp; omega)
  have hc : (dfsK N f i s k).1 = (s.1 ++ [i]) ++ e := hs.came
  have hd : (dfsK N f i s k).2 = s.2 ++ d := hs.left
  have hp := hs.perm.length_eq
  refine ⟨hs.good, ?_, ?_⟩
  · rw [hc]; simp; omega
  · rw [hc, hd]; simp; omega

end Go.Proofs.Ytpdjmapmpicgjaa
