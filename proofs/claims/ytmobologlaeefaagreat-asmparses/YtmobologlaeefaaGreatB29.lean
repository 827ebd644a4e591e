/-
  Texts laid together in one: Ref07Line0.
-/
import Derived.WalkSpells
import Derived.WalkMore
import Derived.BigRegion
import Derived.Deep.RegionWith
import Derived.Deep.RegionHeld2
import Derived.RangeFuncNested
import Derived.OwnWalkIn
import Derived.TacticsInMore
import Derived.Test.YtmobologlaeefaaGreatProg
import Derived.Test.YtmobologlaeefaaGreatB22
import Derived.Test.YtmobologlaeefaaGreatB27
import Derived.Test.YtmobologlaeefaaGreatB28
import Derived.Test.YtmobologlaeefaaGreatB01
import Derived.Test.YtmobologlaeefaaGreatB09
import Derived.Test.YtmobologlaeefaaGreatB23
/-
  What Line of the document's answer for layer 7 returns: what holds at its cuts.
-/
namespace Go.Proofs.YtmobologlaeefaaGreat
open Go.RowKit
set_option linter.unusedVariables false
set_option linter.unusedSimpArgs false
set_option maxRecDepth 20000

theorem frame231 (t : Array Value) (h : t.size = 231) : t = #[slot t 0, slot t 1, slot t 2, slot t 3, slot t 4, slot t 5, slot t 6, slot t 7, slot t 8, slot t 9, slot t 10, slot t 11, slot t 12, slot t 13, slot t 14, slot t 15, slot t 16, slot t 17, slot t 18, slot t 19, slot t 20, slot t 21, slot t 22, slot t 23, slot t 24, slot t 25, slot t 26, slot t 27, slot t 28, slot t 29, slot t 30, slot t 31, slot t 32, slot t 33, slot t 34, slot t 35, slot t 36, slot t 37, slot t 38, slot t 39, slot t 40, slot t 41, slot t 42, slot t 43, slot t 44, slot t 45, slot t 46, slot t 47, slot t 48, slot t 49, slot t 50, slot t 51, slot t 52, slot t 53, slot t 54, slot t 55, slot t 56, slot t 57, slot t 58, slot t 59, slot t 60, slot t 61, slot t 62, slot t 63, slot t 64, slot t 65, slot t 66, slot t 67, slot t 68, slot t 69, slot t 70, slot t 71, slot t 72, slot t 73, slot t 74, slot t 75, slot t 76, slot t 77, slot t 78, slot t 79, slot t 80, slot t 81, slot t 82, slot t 83, slot t 84, slot t 85, slot t 86, slot t 87, slot t 88, slot t 89, slot t 90, slot t 91, slot t 92, slot t 93, slot t 94, slot t 95, slot t 96, slot t 97, slot t 98, slot t 99, slot t 100, slot t 101, slot t 102, slot t 103, slot t 104, slot t 105, slot t 106, slot t 107, slot t 108, slot t 109, slot t 110, slot t 111, slot t 112, slot t 113, slot t 114, slot t 115, slot t 116, slot t 117, slot t 118, slot t 119, slot t 120, slot t 121, slot t 122, slot t 123, slot t 124, slot t 125, slot t 126, slot t 127, slot t 128, slot t 129, slot t 130, slot t 131, slot t 132, slot t 133, slot t 134, slot t 135, slot t 136, slot t 137, slot t 138, slot t 139, slot t 140, slot t 141, slot t 142, slot t 143, slot t 144, slot t 145, slot t 146, slot t 147, slot t 148, slot t 149, slot t 150, slot t 151, slot t 152, slot t 153, slot t 154, slot t 155, slot t 156, slot t 157, slot t 158, slot t 159, slot t 160, slot t 161, slot t 162, slot t 163, slot t 164, slot t 165, slot t 166, slot t 167, slot t 168, slot t 169, slot t 170, slot t 171, slot t 172, slot t 173, slot t 174, slot t 175, slot t 176, slot t 177, slot t 178, slot t 179, slot t 180, slot t 181, slot t 182, slot t 183, slot t 184, slot t 185, slot t 186, slot t 187, slot t 188, slot t 189, slot t 190, slot t 191, slot t 192, slot t 193, slot t 194, slot t 195, slot t 196, slot t 197, slot t 198, slot t 199, slot t 200, slot t 201, slot t 202, slot t 203, slot t 204, slot t 205, slot t 206, slot t 207, slot t 208, slot t 209, slot t 210, slot t 211, slot t 212, slot t 213, slot t 214, slot t 215, slot t 216, slot t 217, slot t 218, slot t 219, slot t 220, slot t 221, slot t 222, slot t 223, slot t 224, slot t 225, slot t 226, slot t 227, slot t 228, slot t 229, slot t 230] := (frame_eq t 231 h).trans rfl

theorem refSpot_exact (e p : Int) (w : World) : Calls Tryz.prog 22 #[.int .i64 e, .int .i64 p] w fun x w' => x = .returned (.agg #[.int .i64 e, .int .i64 p]) ∧ w' = w.alloc (.cells #[.int .i64 e, .int .i64 p] 28) := by
  go_enter Tryz.func22, Tryz.ntmps22
  go_wp2
  refine bodyPost_ret (v := .agg #[.int .i64 e, .int .i64 p]) ?_ rfl ⟨rfl, rfl⟩
  simp [results, Tryz.results22, go_sem]

theorem toks_ok {l : List TokT} (h : wOk l = true) {q : Nat} (hq : q < l.length) : tokOk (nthT l q).1 (strI (nthT l q).2.1) = true := by
  have hm : nthT l q ∈ l := by rw [nthT_lt l q hq]; exact List.getElem_mem _
  exact List.all_eq_true.1 h _ hm

/-- The results' boxes, that of no instruction, that of the line's end, the tokens. -/
structure LnS (w : World) (BE : Nat) (len : Int) (a : Option Addr) (l : List TokT) (W : World) : Prop where
  res : W.heap[w.heap.size]? = some (.cells #[.int .u16 0, .int .u32 0, .int .u32 0, .slice none 0 0] 41 (0, 0))
  spot : W.heap[w.heap.size + 1]? = some (.cells #[.int .i64 0, .int .i64 0] 28 (0, 0))
  non : W.heap[w.heap.size + 2]? = some (.cells #[.int .u16 0, .int .u32 0, .int .u32 0, .slice none 0 0] 41 (0, 0))
  fin : W.heap[BE]? = some (.cells #[.int .i64 72, .int .i64 len] 28 (0, 0))
  bel : Below w.heap.size w W
  toks : ToksV W a l
  lt : w.heap.size + 2 < BE
  off : ∀ b off, a = some ⟨b, off, none⟩ → w.heap.size + 2 < b
theorem LnS.size {w W : World} {BE : Nat} {len : Int} {a : Option Addr} {l : List TokT} (h : LnS w BE len a l W) : BE < W.heap.size := (Array.getElem?_eq_some_iff.1 h.fin).1
theorem LnS.below {w W W' : World} {BE : Nat} {len : Int} {a : Option Addr} {l : List TokT} (h : LnS w BE len a l W) (hb : Below W.heap.size W W') : LnS w BE len a l W' := by
  have s := h.size
  have t := h.lt
  exact ⟨(hb.block _ (by omega)).trans h.res, (hb.block _ (by omega)).trans h.spot, (hb.block _ (by omega)).trans h.non, (hb.block _ s).trans h.fin, h.bel.trans (hb.mono h.bel.size), h.toks.below hb, t, h.off⟩
/-- A store above all of it. -/
theorem LnS.far {w W : World} {BE : Nat} {len : Int} {a : Option Addr} {l : List TokT} (h : LnS w BE len a l W) {g : Nat} (hg : BE < g) (ha : ∀ b off, a = some ⟨b, off, none⟩ → b ≠ g) (i : Nat) (v : Value) : LnS w BE len a l (W.setCell ⟨g, i, none⟩ v) := by
  have t := h.lt
  refine ⟨(Below.heap_setCell _ _ _ _ (by simp; omega)).trans h.res, (Below.heap_setCell _ _ _ _ (by simp; omega)).trans h.spot, (Below.heap_setCell _ _ _ _ (by simp; omega)).trans h.non, (Below.heap_setCell _ _ _ _ (by simp; omega)).trans h.fin, h.bel.setCell (by simp; omega) _, ?_, t, h.off⟩
  intro j hj
  obtain ⟨b, off, e, hb, h1, h2, h3⟩ := h.toks j hj
  have hx : (W.setCell ⟨g, i, none⟩ v).heap[b]? = W.heap[b]? := Below.heap_setCell _ _ _ _ (by simpa using ha b off e)
  refine ⟨b, off, e, by simpa using hb, ?_, ?_, ?_⟩
  · simp only [World.cell?, hx] at h1 ⊢; exact h1
  · simp only [World.cell?, hx] at h2 ⊢; exact h2
  · simp only [World.cell?, hx] at h3 ⊢; exact h3
/-- All but a row of one's own is as it was. -/
theorem LnS.row {w W W' : World} {BE : Nat} {len : Int} {a : Option Addr} {l : List TokT} {row : Option Nat} (h : LnS w BE len a l W) (hg : W.grownBy W' row) (hr : ∀ g, row = some g → BE < g ∧ ∀ b off, a = some ⟨b, off, none⟩ → b ≠ g) : LnS w BE len a l W' := by
  have s := h.size
  have t := h.lt
  have key : ∀ i, i ≤ BE → W'.heap[i]? = W.heap[i]? := fun i hi => hg.block i (by omega) (fun e => by have := (hr i e.symm).1; omega)
  have hs := h.bel.size
  refine ⟨(key _ (by omega)).trans h.res, (key _ (by omega)).trans h.spot, (key _ (by omega)).trans h.non, (key _ (by omega)).trans h.fin, ⟨hg.os.trans h.bel.os, hg.tape.trans h.bel.tape, hg.output.trans h.bel.output, Nat.le_trans h.bel.size hg.size, fun i hi => (key i (by omega)).trans (h.bel.block i hi)⟩, ?_, t, h.off⟩
  intro j hj
  obtain ⟨b, off, e, hb, h1, h2, h3⟩ := h.toks j hj
  have hx : W'.heap[b]? = W.heap[b]? := hg.block b hb (fun e' => (hr b e'.symm).2 b off e rfl)
  refine ⟨b, off, e, Nat.lt_of_lt_of_le hb hg.size, ?_, ?_, ?_⟩
  · simp only [World.cell?, hx] at h1 ⊢; exact h1
  · simp only [World.cell?, hx] at h2 ⊢; exact h2
  · simp only [World.cell?, hx] at h3 ⊢; exact h3

/-- The frame: what its slots hold. -/
def FrmL (s : ByteArray) (b : Int) (w : World) (a : Option Addr) (n c BE : Nat) (more : Array Value → Prop) (a' : Act) : Prop := ∃ t : Array Value, a' = { tmps := t, defers := [] } ∧ t.size = 231 ∧ slot t 0 = .string s ∧ slot t 1 = .int .u32 b ∧ slot t 4 = .pointer (some ⟨w.heap.size, 0, none⟩) ∧ slot t 6 = .pointer (some ⟨w.heap.size + 1, 0, none⟩) ∧ slot t 7 = .pointer (some ⟨w.heap.size + 2, 0, none⟩) ∧ slot t 8 = .slice a n c ∧ slot t 10 = .pointer (some ⟨BE, 0, none⟩) ∧ more t

/-- Where a line says no instruction. -/
def LnBad (w : World) (R : LineR) (Q : Exit → Act → World → Prop) : Prop :=
  ∀ (a' : Act) (w' : World) (E P : Int), a'.tmps.getD 4 undef = .pointer (some ⟨w.heap.size, 0, none⟩) → a'.tmps.getD 5 undef = .bool false → a'.tmps.getD 6 undef = .pointer (some ⟨w.heap.size + 1, 0, none⟩) → a'.defers = [] →
    w'.heap[w.heap.size]? = some (.cells #[.int .u16 0, .int .u32 0, .int .u32 0, .slice none 0 0] 41 (0, 0)) → w'.heap[w.heap.size + 1]? = some (.cells #[.int .i64 E, .int .i64 P] 28 (0, 0)) → Below w.heap.size w w' → R = noLine E P → Q .ret a' w'
/-- Where it says one. -/
def LnOk (w : World) (R : LineR) (Q : Exit → Act → World → Prop) : Prop :=
  ∀ (a' : Act) (w' : World) (x : InstT) (ax : Option Addr) (m cx : Nat), a'.tmps.getD 4 undef = .pointer (some ⟨w.heap.size, 0, none⟩) → a'.tmps.getD 5 undef = .bool true → a'.tmps.getD 6 undef = .pointer (some ⟨w.heap.size + 1, 0, none⟩) → a'.defers = [] →
    w'.heap[w.heap.size]? = some (.cells #[.int .u16 x.1, .int .u32 x.2.1, .int .u32 x.2.2.1, .slice ax m cx] 41 (0, 0)) → w'.heap[w.heap.size + 1]? = some (.cells #[.int .i64 0, .int .i64 0] 28 (0, 0)) → Below w.heap.size w w' →
    w'.ownsRow (w.heap.size + 2) 81 3 (.slice ax m cx) m (x.2.2.2.flatMap argC) → x.2.2.2.length = m → R = (x, true, 0, 0) → Q .ret a' w'

def formC (o : Int) (f : Frm) : Array Value := #[.int .u16 o, .string f.1, .bool f.2.1, .bool f.2.2.1, .string f.2.2.2.1, .string f.2.2.2.2.1, .int .i64 f.2.2.2.2.2.1, .int .u8 f.2.2.2.2.2.2]
/-- The form's box and the instruction's. -/
structure LnX (BE FB XB : Nat) (a : Option Addr) (o : Int) (f : Frm) (t r : Int) (v : Value) (W : World) : Prop where
  form : W.heap[FB]? = some (.cells (formC o f) 64 (0, 0))
  inst : W.heap[XB]? = some (.cells #[.int .u16 o, .int .u32 t, .int .u32 r, v] 41 (0, 0))
  lt1 : BE < FB
  lt2 : FB < XB
  far : ∀ b off, a = some ⟨b, off, none⟩ → b < FB
theorem LnX.size {BE FB XB : Nat} {a : Option Addr} {o : Int} {f : Frm} {t r : Int} {v : Value} {W : World} (h : LnX BE FB XB a o f t r v W) : XB < W.heap.size := (Array.getElem?_eq_some_iff.1 h.inst).1
theorem LnX.below {BE FB XB : Nat} {a : Option Addr} {o : Int} {f : Frm} {t r : Int} {v : Value} {W W' : World} (h : LnX BE FB XB a o f t r v W) (hb : Below W.heap.size W W') : LnX BE FB XB a o f t r v W' := by
  have s := h.size
  have t := h.lt2
  exact ⟨(hb.block _ (by omega)).trans h.form, (hb.block _ s).trans h.inst, h.lt1, t, h.far⟩
theorem LnX.row {BE FB XB : Nat} {a : Option Addr} {o : Int} {f : Frm} {t r : Int} {v : Value} {W W' : World} {row : Option Nat} (h : LnX BE FB XB a o f t r v W) (hg : W.grownBy W' row) (hr : ∀ g, row = some g → XB < g) : LnX BE FB XB a o f t r v W' := by
  have s := h.size
  have t := h.lt2
  have key : ∀ i, i ≤ XB → W'.heap[i]? = W.heap[i]? := fun i hi => hg.block i (by omega) (fun e => by have := hr i e.symm; omega)
  exact ⟨(key _ (by omega)).trans h.form, (key _ (by omega)).trans h.inst, h.lt1, t, h.far⟩
theorem LnX.put {BE FB XB : Nat} {a : Option Addr} {o : Int} {f : Frm} {t r : Int} {v : Value} {W : World} (h : LnX BE FB XB a o f t r v W) (i : Nat) (u : Value) (t' r' : Int) (v' : Value) (ho : (W.setCell ⟨XB, i, none⟩ u).heap[XB]? = some (.cells #[.int .u16 o, .int .u32 t', .int .u32 r', v'] 41 (0, 0))) : LnX BE FB XB a o f t' r' v' (W.setCell ⟨XB, i, none⟩ u) := by
  have t := h.lt2
  exact ⟨(Below.heap_setCell _ _ _ _ (by simp; omega)).trans h.form, ho, h.lt1, t, h.far⟩
theorem LnX.setType {BE FB XB : Nat} {a : Option Addr} {o : Int} {f : Frm} {t r : Int} {v : Value} {W : World} (h : LnX BE FB XB a o f t r v W) (x : Int) : LnX BE FB XB a o f x r v (W.setCell ⟨XB, 1, none⟩ (.int .u32 x)) := h.put 1 _ x r v (by have := h.inst; simp [World.setCell, Array.getElem?_modify, this])
theorem LnX.setResult {BE FB XB : Nat} {a : Option Addr} {o : Int} {f : Frm} {t r : Int} {v : Value} {W : World} (h : LnX BE FB XB a o f t r v W) (x : Int) : LnX BE FB XB a o f t x v (W.setCell ⟨XB, 2, none⟩ (.int .u32 x)) := h.put 2 _ t x v (by have := h.inst; simp [World.setCell, Array.getElem?_modify, this])
theorem LnX.setArgs {BE FB XB : Nat} {a : Option Addr} {o : Int} {f : Frm} {t r : Int} {v : Value} {W : World} (h : LnX BE FB XB a o f t r v W) (x : Value) : LnX BE FB XB a o f t r x (W.setCell ⟨XB, 3, none⟩ x) := h.put 3 _ t r x (by have := h.inst; simp [World.setCell, Array.getElem?_modify, this])

/-- At region 16, 29, 38, 47. -/
def LnJ1 (s : ByteArray) (b : Int) (w : World) (l : List TokT) (R : LineR) (a' : Act) (w' : World) : Prop := ∃ (a : Option Addr) (c BE at_ : Nat) (said : Bool), FrmL s b w a l.length c BE (fun t => slot t 11 = .bool said ∧ slot t 12 = .int .i64 (at_ : Int)) a' ∧ LnS w BE (s.size : Int) a l w' ∧ at_ < l.length ∧ said = ((nthT l 0).1 == 2) ∧ R = lineO said l at_ (s.size : Int) b
def LnJ2 (s : ByteArray) (b : Int) (w : World) (l : List TokT) (R : LineR) (a' : Act) (w' : World) : Prop := ∃ (a : Option Addr) (c BE FB XB at_ o : Nat) (r : Int), FrmL s b w a l.length c BE (fun t => slot t 12 = .int .i64 (at_ : Int) ∧ slot t 13 = .pointer (some ⟨FB, 0, none⟩) ∧ slot t 15 = .pointer (some ⟨XB, 0, none⟩)) a' ∧ LnS w BE (s.size : Int) a l w' ∧ LnX BE FB XB a o (opF o) 0 r (.slice none 0 0) w' ∧ at_ < l.length ∧ ResOk o r b ∧ R = lineT o (opF o) r l (at_ + 1) (s.size : Int) b
def LnJ3 (s : ByteArray) (b : Int) (w : World) (l : List TokT) (R : LineR) (a' : Act) (w' : World) : Prop := ∃ (a : Option Addr) (c BE FB XB at_ o : Nat) (t r : Int), FrmL s b w a l.length c BE (fun u => slot u 12 = .int .i64 (at_ : Int) ∧ slot u 13 = .pointer (some ⟨FB, 0, none⟩) ∧ slot u 15 = .pointer (some ⟨XB, 0, none⟩)) a' ∧ LnS w BE (s.size : Int) a l w' ∧ LnX BE FB XB a o (opF o) t r (.slice none 0 0) w' ∧ at_ ≤ l.length ∧ HeadOk o t r b ∧ R = lineA o (opF o) t r l at_ (s.size : Int) b
def LnJ4 (s : ByteArray) (b : Int) (w : World) (l : List TokT) (R : LineR) (a' : Act) (w' : World) : Prop := ∃ (a : Option Addr) (c BE FB XB at_ o : Nat) (t r : Int) (ax ak : Option Addr) (m cx ck : Nat), FrmL s b w a l.length c BE (fun u => slot u 13 = .pointer (some ⟨FB, 0, none⟩) ∧ slot u 15 = .pointer (some ⟨XB, 0, none⟩) ∧ slot u 20 = .slice ak m ck) a' ∧ LnS w BE (s.size : Int) a l w' ∧ LnX BE FB XB a o (opF o) t r (.slice ax m cx) w' ∧ at_ + m = l.length ∧ HeadOk o t r b ∧ R = lineA o (opF o) t r l at_ (s.size : Int) b ∧
  w'.ownsRow (XB + 1) 81 3 (.slice ax m cx) m ((argsN (opF o) b l at_ m).flatMap argC) ∧ View .u8 w' ak (kindsL (argsN (opF o) b l at_ m)) ∧ ∀ i, i < m → argE (letterI (opF o) i) (nthT l (at_ + i)) b = 0

/-- All blocks that were there, two aside, are as they were. -/
def Aside (W : World) (b : Nat) (wx : World) : Prop := W.heap.size ≤ wx.heap.size ∧ ∀ k, k < W.heap.size → k ≠ b → k ≠ b + 1 → wx.heap[k]? = W.heap[k]?
theorem Aside.refl (W : World) (b : Nat) : Aside W b W := ⟨Nat.le_refl _, fun _ _ _ _ => rfl⟩
theorem Aside.drew {W wx : World} {b : Nat} (h : Aside W b wx) : Aside W b wx.drew := h
theorem Aside.set0 {W wx : World} {b : Nat} (h : Aside W b wx) (i : Nat) (v : Value) : Aside W b (wx.setCell ⟨b, i, none⟩ v) := ⟨by simpa using h.1, fun k h1 h2 h3 => (Below.heap_setCell _ _ _ _ (by simpa using h2)).trans (h.2 k h1 h2 h3)⟩
theorem Aside.set1 {W wx : World} {b : Nat} (h : Aside W b wx) (i : Nat) (v : Value) : Aside W b (wx.setCell ⟨b + 1, i, none⟩ v) := ⟨by simpa using h.1, fun k h1 h2 h3 => (Below.heap_setCell _ _ _ _ (by simpa using h3)).trans (h.2 k h1 h2 h3)⟩
theorem Aside.alloc {W wx : World} {b : Nat} (h : Aside W b wx) (o : Obj) : Aside W b (wx.alloc o) := ⟨Nat.le_trans h.1 (by simp), fun k h1 h2 h3 => (Below.heap_alloc _ _ _ (Nat.lt_of_lt_of_le h1 h.1)).trans (h.2 k h1 h2 h3)⟩
theorem Aside.cell {W wx : World} {b : Nat} (h : Aside W b wx) {k i : Nat} {v : Value} (h1 : k < W.heap.size) (h2 : k ≠ b) (h3 : k ≠ b + 1) (hc : W.cell? ⟨k, i, none⟩ = some v) : wx.cell? ⟨k, i, none⟩ = some v := by
  simp only [World.cell?] at hc ⊢
  rw [h.2 k h1 h2 h3]
  exact hc

/-- While a line that says nothing is returned. -/
structure LeafC (w W wx : World) : Prop where
  aside : Aside W w.heap.size wx
  res : wx.heap[w.heap.size]? = some (.cells #[.int .u16 0, .int .u32 0, .int .u32 0, .slice none 0 0] 41 (0, 0))
  spot : ∃ y0 y1, wx.heap[w.heap.size + 1]? = some (.cells #[y0, y1] 28 (0, 0))
  bel : Below w.heap.size w wx
theorem LeafC.start {w W : World} {BE : Nat} {len : Int} {a : Option Addr} {l : List TokT} (h : LnS w BE len a l W) : LeafC w W W.drew := ⟨Aside.refl _ _, h.res, ⟨_, _, h.spot⟩, h.bel.drew⟩
theorem LeafC.alloc {w W wx : World} (h : LeafC w W wx) (o : Obj) : LeafC w W (wx.alloc o) := by
  obtain ⟨y0, y1, hy⟩ := h.spot
  exact ⟨h.aside.alloc o, (Below.heap_alloc _ _ _ (Array.getElem?_eq_some_iff.1 h.res).1).trans h.res, ⟨y0, y1, (Below.heap_alloc _ _ _ (Array.getElem?_eq_some_iff.1 hy).1).trans hy⟩, h.bel.alloc h.bel.size _⟩
theorem LeafC.zero {w W wx : World} (h : LeafC w W wx) : LeafC w W ((((wx.setCell ⟨w.heap.size, 0, none⟩ (.int .u16 0)).setCell ⟨w.heap.size, 1, none⟩ (.int .u32 0)).setCell ⟨w.heap.size, 2, none⟩ (.int .u32 0)).setCell ⟨w.heap.size, 3, none⟩ (.slice none 0 0)) ∧ ((((wx.setCell ⟨w.heap.size, 0, none⟩ (.int .u16 0)).setCell ⟨w.heap.size, 1, none⟩ (.int .u32 0)).setCell ⟨w.heap.size, 2, none⟩ (.int .u32 0)).setCell ⟨w.heap.size, 3, none⟩ (.slice none 0 0)).heap[w.heap.size + 1]? = wx.heap[w.heap.size + 1]? := by
  have k : ((((wx.setCell ⟨w.heap.size, 0, none⟩ (.int .u16 0)).setCell ⟨w.heap.size, 1, none⟩ (.int .u32 0)).setCell ⟨w.heap.size, 2, none⟩ (.int .u32 0)).setCell ⟨w.heap.size, 3, none⟩ (.slice none 0 0)).heap[w.heap.size + 1]? = wx.heap[w.heap.size + 1]? := by
    rw [Below.heap_setCell _ _ _ _ (by simp), Below.heap_setCell _ _ _ _ (by simp), Below.heap_setCell _ _ _ _ (by simp), Below.heap_setCell _ _ _ _ (by simp)]
  obtain ⟨y0, y1, hy⟩ := h.spot
  refine ⟨⟨(((h.aside.set0 _ _).set0 _ _).set0 _ _).set0 _ _, ?_, ⟨y0, y1, k.trans hy⟩, (((h.bel.setCell (Nat.le_refl _) _).setCell (Nat.le_refl _) _).setCell (Nat.le_refl _) _).setCell (Nat.le_refl _) _⟩, k⟩
  have := h.res
  simp [World.setCell, Array.getElem?_modify, this]
theorem LeafC.put {w W wx : World} (h : LeafC w W wx) (v0 v1 : Value) : LeafC w W ((wx.setCell ⟨w.heap.size + 1, 0, none⟩ v0).setCell ⟨w.heap.size + 1, 1, none⟩ v1) ∧ ((wx.setCell ⟨w.heap.size + 1, 0, none⟩ v0).setCell ⟨w.heap.size + 1, 1, none⟩ v1).heap[w.heap.size + 1]? = some (.cells #[v0, v1] 28 (0, 0)) := by
  obtain ⟨y0, y1, hy⟩ := h.spot
  obtain ⟨g1, g2⟩ := two_putB hy v0 v1
  exact ⟨⟨(h.aside.set1 _ _).set1 _ _, (g2.block _ (by omega)).trans h.res, ⟨v0, v1, g1⟩, h.bel.trans (g2.mono (by omega))⟩, g1⟩
theorem LeafC.cells {w W wx : World} (h : LeafC w W wx) : (wx.cell? ⟨w.heap.size, 0, none⟩ = some (.int .u16 0) ∧ wx.cell? ⟨w.heap.size, 1, none⟩ = some (.int .u32 0) ∧ wx.cell? ⟨w.heap.size, 2, none⟩ = some (.int .u32 0) ∧ wx.cell? ⟨w.heap.size, 3, none⟩ = some (.slice none 0 0) ∧ ∀ i, wx.frozen? ⟨w.heap.size, i, none⟩ = false) ∧ ∃ y0 y1, wx.cell? ⟨w.heap.size + 1, 0, none⟩ = some y0 ∧ wx.cell? ⟨w.heap.size + 1, 1, none⟩ = some y1 ∧ ∀ i, wx.frozen? ⟨w.heap.size + 1, i, none⟩ = false := by
  obtain ⟨c1, f1⟩ := blk_cells h.res
  obtain ⟨y0, y1, hy⟩ := h.spot
  obtain ⟨c2, f2⟩ := blk_cells hy
  exact ⟨⟨c1 0, c1 1, c1 2, c1 3, f1⟩, y0, y1, c2 0, c2 1, f2⟩

/-- The results' boxes are written. -/
theorem LnS.put {w W : World} {BE : Nat} {len : Int} {a : Option Addr} {l : List TokT} (h : LnS w BE len a l W) (u0 u1 u2 u3 v0 v1 : Value) (o : Obj) : let X := ((((((W.setCell ⟨w.heap.size, 0, none⟩ u0).setCell ⟨w.heap.size, 1, none⟩ u1).setCell ⟨w.heap.size, 2, none⟩ u2).setCell ⟨w.heap.size, 3, none⟩ u3).setCell ⟨w.heap.size + 1, 0, none⟩ v0).setCell ⟨w.heap.size + 1, 1, none⟩ v1)
    (X.heap[w.heap.size]? = some (.cells #[u0, u1, u2, u3] 41 (0, 0)) ∧ X.heap[w.heap.size + 1]? = some (.cells #[v0, v1] 28 (0, 0)) ∧ Below w.heap.size w X) ∧ ((X.alloc o).heap[w.heap.size]? = some (.cells #[u0, u1, u2, u3] 41 (0, 0)) ∧ (X.alloc o).heap[w.heap.size + 1]? = some (.cells #[v0, v1] 28 (0, 0)) ∧ Below w.heap.size w (X.alloc o)) := by
  intro X
  obtain ⟨r1, r2, r3⟩ := six_put h.res h.spot u0 u1 u2 u3 v0 v1
  have s := h.size
  have t := h.lt
  have hx : X.heap.size = W.heap.size := by simp [X]
  have hb := h.bel.trans r3
  exact ⟨⟨r1, r2, hb⟩, (Below.heap_alloc _ _ _ (by omega)).trans r1, (Below.heap_alloc _ _ _ (by omega)).trans r2, hb.alloc hb.size _⟩
theorem LnS.cells {w W : World} {BE : Nat} {len : Int} {a : Option Addr} {l : List TokT} (h : LnS w BE len a l W) : (W.cell? ⟨w.heap.size, 0, none⟩ = some (.int .u16 0) ∧ W.cell? ⟨w.heap.size, 1, none⟩ = some (.int .u32 0) ∧ W.cell? ⟨w.heap.size, 2, none⟩ = some (.int .u32 0) ∧ W.cell? ⟨w.heap.size, 3, none⟩ = some (.slice none 0 0) ∧ ∀ i, W.frozen? ⟨w.heap.size, i, none⟩ = false) ∧ (W.cell? ⟨w.heap.size + 1, 0, none⟩ = some (.int .i64 0) ∧ W.cell? ⟨w.heap.size + 1, 1, none⟩ = some (.int .i64 0) ∧ ∀ i, W.frozen? ⟨w.heap.size + 1, i, none⟩ = false) ∧
    (W.cell? ⟨w.heap.size + 2, 0, none⟩ = some (.int .u16 0) ∧ W.cell? ⟨w.heap.size + 2, 1, none⟩ = some (.int .u32 0) ∧ W.cell? ⟨w.heap.size + 2, 2, none⟩ = some (.int .u32 0) ∧ W.cell? ⟨w.heap.size + 2, 3, none⟩ = some (.slice none 0 0)) ∧ (W.cell? ⟨BE, 0, none⟩ = some (.int .i64 72) ∧ W.cell? ⟨BE, 1, none⟩ = some (.int .i64 len)) := by
  obtain ⟨c1, f1⟩ := blk_cells h.res
  obtain ⟨c2, f2⟩ := blk_cells h.spot
  obtain ⟨c3, f3⟩ := blk_cells h.non
  obtain ⟨c4, f4⟩ := blk_cells h.fin
  exact ⟨⟨c1 0, c1 1, c1 2, c1 3, f1⟩, ⟨c2 0, c2 1, f2⟩, ⟨c3 0, c3 1, c3 2, c3 3⟩, ⟨c4 0, c4 1⟩⟩

end Go.Proofs.YtmobologlaeefaaGreat
