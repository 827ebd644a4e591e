/-
  The scanner's tokens of the layer lex: what holds at each of its labels, and the passes from a token that is taken, from a whole piece and from a run. No condition but what each names.
-/
import Derived.WalkSpells
import Derived.WalkMore
import Derived.BigRegion
import Derived.Deep.RegionWith
import Derived.Test.YteckmcgihbicfabProg
import Derived.Test.YteckmcgihbicfabToks
import Derived.Test.YteckmcgihbicfabJumps
import Derived.Test.YteckmcgihbicfabLexWords
import Derived.Test.YteckmcgihbicfabLexQuoted
import Derived.Test.YteckmcgihbicfabStringsClone
import Derived.Test.YteckmcgihbicfabSlots
namespace Go.Proofs.Yteckmcgihbicfab
open Go.RowKit
set_option maxRecDepth 100000
set_option linter.unusedVariables false
set_option linter.unusedSimpArgs false
attribute [local go_sem] jumps_normal jumps_exit jumps_ret jumps_panic jumps_goto onNormal_normal

/-- The code within the first scope. -/
def inScope : Code → Code
  | .seq _ x => inScope x
  | .scope c => c
  | _ => .skip

/-- What holds of memory: the scanner, the spot, the tokens so far; no other block that was there has turned. -/
structure TokS (b : Nat) (s : ByteArray) (w : World) (p : Nat) (acc : List TokT) (v : Value) (w' : World) : Prop where
  scn : Scn b s p w'
  spot : w'.heap[w.heap.size]? = some (.cells #[.int .i64 0, .int .i64 0] 28 (0, 0))
  row : w'.ownsRow (w.heap.size + 2) 77 3 v acc.length (acc.flatMap tokC)
  grown : w.grownBy w' (some b)
  size : w.heap.size + 2 ≤ w'.heap.size
  at_le : p ≤ s.size
def BoxT (w w' : World) (x y z : Value) : Prop := w'.heap[w.heap.size + 1]? = some (.cells #[x, y, z] 77 (0, 0))

/-- What the tokens come to when a piece from fr to e is to be a token of kind K at p0. -/
def tokRes (l : List Int) (acc : List TokT) (K : Int) (fr p0 e : Nat) : TokR := joinR acc (if tokOk K (cutL l fr e) = true then consR (K, strOfNums (cutL l fr e), (p0 : Int)) (toksP l e) else ([], 62, (p0 : Int)))

/-- The frame: what its slots hold. -/
def FrmT (b : Nat) (w : World) (v : Value) (a' : Act) : Prop := ∃ t : Array Value, a' = { tmps := t, defers := [] } ∧ t.size = 99 ∧ slot t 0 = .pointer (some ⟨b, 0, none⟩) ∧ slot t 3 = .pointer (some ⟨w.heap.size, 0, none⟩) ∧ slot t 4 = v ∧ slot t 5 = .pointer (some ⟨w.heap.size + 1, 0, none⟩)
def FrmF (b : Nat) (w : World) (v : Value) (fr : Nat) (a' : Act) : Prop := ∃ t : Array Value, a' = { tmps := t, defers := [] } ∧ t.size = 99 ∧ slot t 0 = .pointer (some ⟨b, 0, none⟩) ∧ slot t 3 = .pointer (some ⟨w.heap.size, 0, none⟩) ∧ slot t 4 = v ∧ slot t 5 = .pointer (some ⟨w.heap.size + 1, 0, none⟩) ∧ slot t 6 = .int .i64 fr

def TokJ (b : Nat) (s : ByteArray) (w : World) (R : TokR) : Nat → Act → World → Prop
  | 0, a', w' => ∃ (p : Nat) (acc : List TokT) (v x y z : Value), FrmT b w v a' ∧ TokS b s w p acc v w' ∧ BoxT w w' x y z ∧ R = joinR acc (toksP (strI s) p) ∧ acc.length ≤ p
  | 1, a', w' => ∃ (p p0 fr rs : Nat) (K : Int) (acc : List TokT) (v y : Value), FrmF b w v fr a' ∧ TokS b s w p acc v w' ∧ BoxT w w' (.int .u8 K) y (.int .i64 p0) ∧ R = tokRes (strI s) acc K fr p0 (runE (strI s) rs) ∧ (∀ i, rs ≤ i → i < p → runB (nth (strI s) i) = true) ∧ fr ≤ rs ∧ rs ≤ p ∧ p0 + 1 ≤ runE (strI s) rs ∧ 0 ≤ K ∧ K < 256 ∧ acc.length ≤ p0
  | 2, a', w' => ∃ (p p0 : Nat) (K : Int) (t : ByteArray) (acc : List TokT) (v : Value), FrmT b w v a' ∧ TokS b s w p acc v w' ∧ BoxT w w' (.int .u8 K) (.string t) (.int .i64 p0) ∧ R = joinR (acc ++ [(K, t, (p0 : Int))]) (toksP (strI s) p) ∧ p0 + 1 ≤ p ∧ acc.length ≤ p0
  | 3, a', w' => ∃ (p p0 fr : Nat) (K : Int) (acc : List TokT) (v y : Value), FrmF b w v fr a' ∧ TokS b s w p acc v w' ∧ BoxT w w' (.int .u8 K) y (.int .i64 p0) ∧ R = tokRes (strI s) acc K fr p0 p ∧ fr ≤ p ∧ p0 + 1 ≤ p ∧ 0 ≤ K ∧ K < 256 ∧ acc.length ≤ p0
  | _, _, _ => False
/-- Where the token in hand begins. -/
def boxAt (w w' : World) : Nat := match w'.cell? ⟨w.heap.size + 1, 2, none⟩ with
  | some (.int _ n) => n.toNat
  | _ => 0
def TokM (b : Nat) (s : ByteArray) (w : World) (l : Nat) (_ : Act) (w' : World) : Nat :=
  if l = 0 then (s.size - posOf b w') * (s.size + 3) + (s.size + 2) else (s.size - boxAt w w') * (s.size + 3) + (if l = 1 then s.size - posOf b w' + 1 else 0)
theorem box_at {w w' : World} {x y : Value} {p0 : Nat} (h : BoxT w w' x y (.int .i64 p0)) : boxAt w w' = p0 := by
  have : w'.cell? ⟨w.heap.size + 1, 2, none⟩ = some (.int .i64 p0) := by rw [Lib.cell_of_heap h]; rfl
  unfold boxAt; rw [this]; simp
theorem mul_step {L a c : Nat} (h : a + 1 ≤ c) (hc : c ≤ L) : (L - c) * (L + 3) + (L + 2) < (L - a) * (L + 3) := by
  have h1 : L - c + 1 ≤ L - a := by omega
  have := Nat.mul_le_mul_right (L + 3) h1
  rw [Nat.add_mul] at this; omega

theorem setCell_high {w w1 : World} {r : Option Nat} (h : w.grownBy w1 r) {g : Nat} (hg : w.heap.size ≤ g) (i : Nat) (u : Value) : w.grownBy (w1.setCell ⟨g, i, none⟩ u) r :=
  ⟨h.os, h.tape, h.output, by simpa [World.setCell] using h.size, fun k hk hr => (Below.heap_setCell _ _ _ _ (by simp only; omega)).trans (h.block k hk hr)⟩
theorem row_block {w' : World} {B n : Nat} {v : Value} {xs : List Value} (h : w'.ownsRow B 77 3 v n xs) {k : Nat} (hk : k < B) : v.ownBlock = none ∨ v.ownBlock ≠ some k := by
  cases e : v.ownBlock with
  | none => exact .inl rfl
  | some g => exact .inr fun e' => by have := (h.lt g e).1; simp at e'; omega

/-- The scanner goes on. -/
theorem TokS.next {b : Nat} {s : ByteArray} {w w1 w2 : World} {p q : Nat} {acc : List TokT} {v : Value} (hb : b < w.heap.size) (h : TokS b s w p acc v w1) (hg : w1.grownBy w2 (some b)) (hS : Scn b s q w2) (hq : q ≤ s.size) : TokS b s w q acc v w2 :=
  ⟨hS, (hg.block _ (by have := h.size; omega) (by simp; omega)).trans h.spot, h.row.kept hg (row_block h.row (by omega)), grown_trans h.grown hg, Nat.le_trans h.size hg.size, hq⟩
theorem BoxT.next {b : Nat} {w w1 w2 : World} {x y z : Value} (hb : b < w.heap.size) (h : BoxT w w1 x y z) (hg : w1.grownBy w2 (some b)) : BoxT w w2 x y z :=
  (hg.block _ (Array.getElem?_eq_some_iff.1 h).1 (by simp; omega)).trans h
theorem TokS.below {b : Nat} {s : ByteArray} {w w1 w2 : World} {p : Nat} {acc : List TokT} {v : Value} (hb : b < w.heap.size) (h : TokS b s w p acc v w1) (hg : Below w1.heap.size w1 w2) : TokS b s w p acc v w2 := by
  have hs := h.size
  exact ⟨(hg.block _ (by omega)).trans h.scn, (hg.block _ (by omega)).trans h.spot, own_below h.row hg, grown_below h.grown hg (by omega), Nat.le_trans hs hg.size, h.at_le⟩
theorem BoxT.below {w w1 w2 : World} {x y z : Value} (h : BoxT w w1 x y z) (hg : Below w1.heap.size w1 w2) : BoxT w w2 x y z := (hg.block _ (Array.getElem?_eq_some_iff.1 h).1).trans h
theorem TokS.box {b : Nat} {s : ByteArray} {w w1 : World} {p : Nat} {acc : List TokT} {v : Value} (hb : b < w.heap.size) (h : TokS b s w p acc v w1) (i : Nat) (u : Value) : TokS b s w p acc v (w1.setCell ⟨w.heap.size + 1, i, none⟩ u) :=
  ⟨(Below.heap_setCell _ _ _ _ (by simp; omega)).trans h.scn, (Below.heap_setCell _ _ _ _ (by simp)).trans h.spot, ownsRow_setCell_below h.row (by simp) _, setCell_high h.grown (by omega) _ _, by simpa [World.setCell] using h.size, h.at_le⟩
theorem TokS.drew {b : Nat} {s : ByteArray} {w w1 : World} {p : Nat} {acc : List TokT} {v : Value} (h : TokS b s w p acc v w1) : TokS b s w p acc v w1.drew :=
  ⟨h.scn, h.spot, own_below h.row (Below.drew (Below.refl _ _)), grown_drew1 h.grown, h.size, h.at_le⟩
theorem BoxT.drew {w w1 : World} {x y z : Value} (h : BoxT w w1 x y z) : BoxT w w1.drew x y z := h
theorem BoxT.set0 {w w1 : World} {x y z : Value} (h : BoxT w w1 x y z) (u : Value) : BoxT w (w1.setCell ⟨w.heap.size + 1, 0, none⟩ u) u y z := by
  unfold BoxT at *; simp [World.setCell, Array.getElem?_modify, h]
theorem BoxT.set1 {w w1 : World} {x y z : Value} (h : BoxT w w1 x y z) (u : Value) : BoxT w (w1.setCell ⟨w.heap.size + 1, 1, none⟩ u) x u z := by
  unfold BoxT at *; simp [World.setCell, Array.getElem?_modify, h]
theorem BoxT.set2 {w w1 : World} {x y z : Value} (h : BoxT w w1 x y z) (u : Value) : BoxT w (w1.setCell ⟨w.heap.size + 1, 2, none⟩ u) x y u := by
  unfold BoxT at *; simp [World.setCell, Array.getElem?_modify, h]
theorem BoxT.cells {w w1 : World} {x y z : Value} (h : BoxT w w1 x y z) : w1.cell? ⟨w.heap.size + 1, 0, none⟩ = some x ∧ w1.cell? ⟨w.heap.size + 1, 1, none⟩ = some y ∧ w1.cell? ⟨w.heap.size + 1, 2, none⟩ = some z ∧ ∀ i, w1.frozen? ⟨w.heap.size + 1, i, none⟩ = false := by
  unfold BoxT at h
  refine ⟨?_, ?_, ?_, fun i => ?_⟩ <;> simp [World.cell?, World.frozen?, h]
theorem TokS.cells {b : Nat} {s : ByteArray} {w w1 : World} {p : Nat} {acc : List TokT} {v : Value} (h : TokS b s w p acc v w1) : w1.cell? ⟨w.heap.size, 0, none⟩ = some (.int .i64 0) ∧ w1.cell? ⟨w.heap.size, 1, none⟩ = some (.int .i64 0) ∧ ∀ i, w1.frozen? ⟨w.heap.size, i, none⟩ = false := by
  have := h.spot
  refine ⟨?_, ?_, fun i => ?_⟩ <;> simp [World.cell?, World.frozen?, this]

theorem Tok.info : (Try.prog.info? 77).map (fun i => (i.zero, i.size, i.bytes)) = some (some (.agg #[.int .u8 0, .string ⟨#[]⟩, .int .i64 0]), 3, 32) := by kernel_rfl
theorem flatT_push (l : List TokT) (x : TokT) : (l ++ [x]).flatMap tokC = l.flatMap tokC ++ tokC x := by simp

/-- The answers. -/
def TokQ (b : Nat) (s : ByteArray) (w : World) (R : TokR) (Q : Exit → Act → World → Prop) : Prop :=
  ∀ (a' : Act) (w' : World) (v : Value), a'.tmps.getD 2 undef = v → a'.tmps.getD 3 undef = .pointer (some ⟨w.heap.size, 0, none⟩) → a'.defers = [] → w'.heap[w.heap.size]? = some (.cells #[.int .i64 R.2.1, .int .i64 R.2.2] 28 (0, 0)) → w'.ownsRow (w.heap.size + 2) 77 3 v R.1.length (R.1.flatMap tokC) → w.grownBy w' (some b) → Q .ret a' w'
theorem spot_put {w w1 : World} {x y : Value} (h : w1.heap[w.heap.size]? = some (.cells #[x, y] 28 (0, 0))) (u t : Value) : ((w1.setCell ⟨w.heap.size, 0, none⟩ u).setCell ⟨w.heap.size, 1, none⟩ t).heap[w.heap.size]? = some (.cells #[u, t] 28 (0, 0)) := by
  simp [World.setCell, Array.getElem?_modify, h]

set_option maxHeartbeats 4000000 in
theorem tok_taken (b : Nat) (s : ByteArray) (w : World) (R : TokR) (Q : Exit → Act → World → Prop) (hb : b < w.heap.size) (hs : 32 * s.size + 64 ≤ 140737488351232) (n : Nat) (a : Act) (w1 : World) (hJ : TokJ b s w R 2 a w1) (hN : TokM b s w 2 a w1 ≤ n) :
    (behind (findLabel (inScope (Try.f63.body.getD .skip)) 2)).wp Try.prog (jumps (fun l' a' w' => TokJ b s w R l' a' w' ∧ TokM b s w l' a' w' < n) Q) a w1 := by
  obtain ⟨p, p0, K, t, acc, v, ⟨f, rfl, hsz, h0, h3, h4, h5⟩, hS, hB, hR, hp, hacc⟩ := hJ
  conv => arg 2; whnf
  rw [frame99 f hsz, h0, h3, h4, h5]
  clear h0 h3 h4 h5 hsz
  obtain ⟨i0, hi, hz0, hz1, hz2⟩ := info_parts Tok.info
  obtain ⟨x0, x1, x2, _⟩ := hB.cells
  have hle := hS.at_le
  have HM : Hid ((s.size - p0) * (s.size + 3) ≤ n) := by
    unfold TokM at hN
    rw [box_at hB] at hN
    show _ ≤ _
    simpa using hN
  have hrow := hS.row.alloc (.cells #[.int .u8 K, .string t, .int .i64 p0] 77)
  go_wp2_with (at_builtin; refine wpList_append_own _ rfl (.tmp 95) (.tmp 97) 73 rfl (w.heap.size + 2) 77 i0 (.agg #[.int .u8 0, .string ⟨#[]⟩, .int .i64 0]) 3 32 Try.underlying73 hi hz0 hz1 hz2 rfl (by decide) _ acc.length (acc.flatMap tokC) rfl hrow ⟨w1.heap.size, 0, none⟩ 1 1 [.int .u8 K, .string t, .int .i64 p0] rfl rfl ?c1 ?c2 ?c3 ?c4 ?c5 ?_)
  case c1 =>
    intro j u hj
    match j, hj with
    | 0, hj => simp at hj; subst hj; simp [Addr.add]
    | 1, hj => simp at hj; subst hj; simp [Addr.add]
    | 2, hj => simp at hj; subst hj; simp [Addr.add]
  case c2 => intro u hu; simp at hu; rcases hu with rfl | rfl | rfl <;> rfl
  case c3 => unfold maxLen; omega
  case c4 => omega
  case c5 => have := hS.size; simp; omega
  intro v' w2 hown hgr _
  have hszw := hS.size
  have hwa : ∀ k, k < w.heap.size + 2 → w2.heap[k]? = w1.heap[k]? := fun k hk => by
    rw [hgr.block k (by simp; omega) (fun e => by have := (hS.row.lt k e.symm).1; omega)]
    exact Below.heap_alloc _ _ _ (by omega)
  have hS2 : TokS b s w p (acc ++ [(K, t, (p0 : Int))]) v' w2 := by
    refine ⟨(hwa b (by omega)).trans hS.scn, (hwa _ (by omega)).trans hS.spot, ?_, ?_, ?_, hle⟩
    · rw [flatT_push, List.length_append]; exact hown
    · have hg1 := grown_trans hS.grown (World.grownBy_alloc w1 (.cells #[.int .u8 K, .string t, .int .i64 p0] 77) (some b))
      exact ⟨hgr.os.trans hg1.os, hgr.tape.trans hg1.tape, hgr.output.trans hg1.output, Nat.le_trans hg1.size hgr.size, fun k hk hr => (hwa k (by omega)).trans (hS.grown.block k hk hr)⟩
    · have := hgr.size; simp at this; omega
  have hB2 : BoxT w w2 (.int .u8 K) (.string t) (.int .i64 p0) := (hwa _ (by omega)).trans hB
  have HS2 : Hid (TokS b s w p (acc ++ [(K, t, (p0 : Int))]) v' w2) := hS2
  have HB2 : Hid (BoxT w w2 (.int .u8 K) (.string t) (.int .i64 p0)) := hB2
  have HR : Hid (R = joinR (acc ++ [(K, t, (p0 : Int))]) (toksP (strI s) p)) := hR
  clear hown hgr hwa hrow x0 x1 x2 hS hB hS2 hB2 hR hN
  go_wp2_with fail
  go_step3
  refine ⟨⟨p, acc ++ [(K, t, (p0 : Int))], v', _, _, _, ⟨_, rfl, rfl, rfl, rfl, rfl, rfl⟩, HS2.out, HB2.out, HR.out, by simp; omega⟩, ?_⟩
  unfold TokM
  rw [if_pos rfl, pos_scn HS2.out.scn]
  exact Nat.lt_of_lt_of_le (mul_step hp hle) HM.out

set_option maxHeartbeats 4000000 in
theorem tok_whole (b : Nat) (s : ByteArray) (w : World) (R : TokR) (Q : Exit → Act → World → Prop) (hb : b < w.heap.size) (hs : 32 * s.size + 64 ≤ 140737488351232) (hQ : TokQ b s w R Q)
    (hP : ∀ n a w1, TokJ b s w R 2 a w1 → TokM b s w 2 a w1 ≤ n → (behind (findLabel (inScope (Try.f63.body.getD .skip)) 2)).wp Try.prog (jumps (fun l' a' w' => TokJ b s w R l' a' w' ∧ TokM b s w l' a' w' < n) Q) a w1)
    (n : Nat) (a : Act) (w1 : World) (hJ : TokJ b s w R 3 a w1) (hN : TokM b s w 3 a w1 ≤ n) :
    (behind (findLabel (inScope (Try.f63.body.getD .skip)) 3)).wp Try.prog (jumps (fun l' a' w' => TokJ b s w R l' a' w' ∧ TokM b s w l' a' w' < n) Q) a w1 := by
  obtain ⟨p, p0, fr, K, acc, v, y, ⟨f, rfl, hsz, h0, h3, h4, h5, h6⟩, hS, hB, hR, hfr, hp, hK0, hK1, hacc⟩ := hJ
  conv => arg 2; whnf
  rw [frame99 f hsz, h0, h3, h4, h5, h6]
  clear h0 h3 h4 h5 h6 hsz
  obtain ⟨x0, x1, x2, xf⟩ := hB.cells
  obtain ⟨s0, s1, s2, s3, sf⟩ := scn_cells hS.scn
  have hle := hS.at_le
  have HM : Hid ((s.size - p0) * (s.size + 3) ≤ n) := by
    unfold TokM at hN
    rw [box_at hB] at hN
    show _ ≤ _
    simpa using hN
  have HE : Hid (strOfNums (cutL (strI s) fr p) = s.extract fr p) := by
    show _ = _
    rw [← str_of_strI (s.extract fr p), strI_extract]; rfl
  have HE2 : Hid (strI (s.extract fr p) = cutL (strI s) fr p) := strI_extract s fr p
  have hes : (s.extract fr p).size ≤ s.size := by rw [ByteArray.size_extract]; omega
  have hC := fun wx => stringsClone_any (s.extract fr p) wx (by omega)
  have hMB := fun wx => mayBe_any K (s.extract fr p) (p0 : Int) wx hK0 hK1 (by omega)
  rw [HE2.out] at hMB
  have HS : Hid (TokS b s w p acc v w1) := hS
  have HB : Hid (BoxT w w1 (.int .u8 K) y (.int .i64 p0)) := hB
  have HR : Hid (R = tokRes (strI s) acc K fr p0 p) := hR
  have f1 := xf 1
  have hfi : (fr : Int) ≤ (p : Int) := by omega
  have hpi : (p : Int) ≤ (s.size : Int) := by omega
  have HC1 : Hid (∀ w2, Below w1.drew.heap.size w1.drew w2 → w2.cell? ⟨w.heap.size + 1, 1, none⟩ = some y) := fun w2 h => (h.cell (p := ⟨w.heap.size + 1, 1, none⟩) (Array.getElem?_eq_some_iff.1 hB).1).trans x1
  have HC2 : Hid (∀ w2, Below w1.drew.heap.size w1.drew w2 → w2.frozen? ⟨w.heap.size + 1, 1, none⟩ = false) := fun w2 h => (h.frozen (p := ⟨w.heap.size + 1, 1, none⟩) (Array.getElem?_eq_some_iff.1 hB).1).trans f1
  clear hS hB hR hN xf sf s2 s3 x0 x1 x2 f1
  go_wp2_with fail
  refine wp_norm ?_
  go_region_with (go_at_call 79; refine (hC _).mono ?_; rintro e w2 ⟨rfl, hb2⟩; have q1 := HC1.out w2 hb2; have q2 := HC2.out w2 hb2)
  all_goals
    have hS2 := (TokS.below hb HS.out.drew hb2).box hb 1 (.string (s.extract fr p))
    have hB2 := (BoxT.below HB.out.drew hb2).set1 (.string (s.extract fr p))
    obtain ⟨y0, y1, y2, _⟩ := hB2.cells
    have HS2 : Hid (TokS b s w p acc v (w2.setCell ⟨w.heap.size + 1, 1, none⟩ (.string (s.extract fr p)))) := hS2
    have HB2 : Hid (BoxT w (w2.setCell ⟨w.heap.size + 1, 1, none⟩ (.string (s.extract fr p))) (.int .u8 K) (.string (s.extract fr p)) (.int .i64 p0)) := hB2
    clear hS2 hB2 q1 q2 hb2
    generalize w2.setCell ⟨w.heap.size + 1, 1, none⟩ (.string (s.extract fr p)) = w3 at *
    rw [onNormal_normal]
    go_wp2_with fail
    refine (hMB _).mono ?_
    rintro e w4 ⟨rfl, hb4⟩
    have hS4 := TokS.below hb HS2.out hb4
    have hB4 := BoxT.below HB2.out hb4
    clear HS2 HB2 hb4 y0 y1 y2
    cases hok : tokOk K (cutL (strI s) fr p)
    · have HRv : Hid (R = ([], 62, (p0 : Int))) := by
        show _ = _
        rw [HR.out, tokRes, if_neg (by simp [hok])]; rfl
      obtain ⟨y0, y1, y2, _⟩ := hB4.cells
      obtain ⟨z0, z1, zf⟩ := hS4.cells
      have f0 := zf 0
      have f1 := zf 1
      have HX : Hid (((w4.drew.setCell ⟨w.heap.size, 0, none⟩ (.int .i64 62)).setCell ⟨w.heap.size, 1, none⟩ (.int .i64 p0)).heap[w.heap.size]? = some (.cells #[.int .i64 62, .int .i64 p0] 28 (0, 0))) := spot_put hS4.spot _ _
      have HG : Hid (w.grownBy ((w4.drew.setCell ⟨w.heap.size, 0, none⟩ (.int .i64 62)).setCell ⟨w.heap.size, 1, none⟩ (.int .i64 p0)) (some b)) := setCell_high (setCell_high (grown_drew1 hS4.grown) (Nat.le_refl _) _ _) (Nat.le_refl _) _ _
      clear hS4 hB4 zf
      go_wp2_with fail
      refine wp_norm ?_
      go_region
      rw [onNormal_normal]
      go_wp2_with fail
      rw [jumps_ret]
      refine hQ _ _ (.slice none 0 0) rfl rfl rfl ?_ ?_ HG.out
      · rw [HRv.out]; exact HX.out
      · rw [HRv.out]; exact World.ownsRow_nil _ _ _ _
    · have HRv : Hid (R = joinR (acc ++ [(K, s.extract fr p, (p0 : Int))]) (toksP (strI s) p)) := by
        show _ = _
        rw [HR.out, tokRes, if_pos hok, join_cons, HE.out]
      have HS4 : Hid (TokS b s w p acc v w4) := hS4
      have HB4 : Hid (BoxT w w4 (.int .u8 K) (.string (s.extract fr p)) (.int .i64 p0)) := hB4
      clear hS4 hB4
      go_wp2_with fail
      refine wp_label ?_
      rename_i Kx hKx
      refine hKx _ _ (hP n _ _ ⟨p, p0, K, s.extract fr p, acc, v, ⟨_, rfl, rfl, rfl, rfl, rfl, rfl⟩, HS4.out, HB4.out, HRv.out, hp, hacc⟩ ?_)
      unfold TokM
      rw [box_at HB4.out]
      simpa using HM.out

set_option maxHeartbeats 4000000 in
theorem tok_run (b : Nat) (s : ByteArray) (w : World) (R : TokR) (Q : Exit → Act → World → Prop) (hb : b < w.heap.size) (hs : 32 * s.size + 64 ≤ 140737488351232)
    (hP : ∀ n a w1, TokJ b s w R 3 a w1 → TokM b s w 3 a w1 ≤ n → (behind (findLabel (inScope (Try.f63.body.getD .skip)) 3)).wp Try.prog (jumps (fun l' a' w' => TokJ b s w R l' a' w' ∧ TokM b s w l' a' w' < n) Q) a w1)
    (n : Nat) (a : Act) (w1 : World) (hJ : TokJ b s w R 1 a w1) (hN : TokM b s w 1 a w1 ≤ n) :
    (behind (findLabel (inScope (Try.f63.body.getD .skip)) 1)).wp Try.prog (jumps (fun l' a' w' => TokJ b s w R l' a' w' ∧ TokM b s w l' a' w' < n) Q) a w1 := by
  obtain ⟨p, p0, fr, rs, K, acc, v, y, ⟨f, rfl, hsz, h0, h3, h4, h5, h6⟩, hS, hB, hR, hrun, hfr, hrs, hp, hK0, hK1, hacc⟩ := hJ
  conv => arg 2; whnf
  rw [frame99 f hsz, h0, h3, h4, h5, h6]
  clear h0 h3 h4 h5 h6 hsz
  obtain ⟨s0, s1, s2, s3, sf⟩ := scn_cells hS.scn
  have hle := hS.at_le
  have HM : Hid ((s.size - p0) * (s.size + 3) + (s.size - p + 1) ≤ n) := by
    unfold TokM at hN
    rw [box_at hB, pos_scn hS.scn] at hN
    show _ ≤ _
    simpa using hN
  have hkb : 0 ≤ kAt (strI s) p ∧ kAt (strI s) p < 256 := by
    unfold kAt; split
    · have := kind_lo (nth (strI s) p); have := kind_hi (nth (strI s) p); omega
    · omega
  have hIR := fun wx => inRun_any (kAt (strI s) p) wx hkb.1 hkb.2
  have HS : Hid (TokS b s w p acc v w1) := hS
  have HB : Hid (BoxT w w1 (.int .u8 K) y (.int .i64 p0)) := hB
  have HR : Hid (R = tokRes (strI s) acc K fr p0 (runE (strI s) rs)) := hR
  have HRUN : Hid (∀ i, rs ≤ i → i < p → runB (nth (strI s) i) = true) := hrun
  have hrl : (strI s).length = s.size := strI_len s
  by_cases hin : p < s.size ∧ runB (nth (strI s) p) = true
  · have hkr : (kAt (strI s) p == 3 || kAt (strI s) p == 4) = true := by
      unfold kAt; rw [if_pos (by omega), kind_run]; exact hin.2
    have hST := step_any b p s w1 hS.scn (by omega) (by omega)
    have HIN : Hid (runB (nth (strI s) p) = true) := hin.2
    have hlt := hin.1
    rw [hkr] at hIR
    clear hS hB hR hN hrun sf hin hrl hkr hkb
    generalize kAt (strI s) p = kd at *
    generalize nth (strI s) p = c at s2
    go_wp2_with fail
    refine (hIR _).mono ?_
    rintro e w' ⟨rfl, rfl⟩
    go_wp2_with fail
    refine hST.mono ?_
    rintro e w2 ⟨rfl, hS2, hg2⟩
    have HS2 : Hid (TokS b s w (p + 1) acc v w2) := TokS.next hb HS.out hg2 hS2 (by omega)
    have HB2 : Hid (BoxT w w2 (.int .u8 K) y (.int .i64 p0)) := BoxT.next hb HB.out hg2
    clear hST hS2 hg2 s0 s1 s2 s3
    go_wp2_with fail
    go_step3
    refine ⟨⟨p + 1, p0, fr, rs, K, acc, v, y, ⟨_, rfl, rfl, rfl, rfl, rfl, rfl, rfl⟩, HS2.out, HB2.out, HR.out, fun i h1 h2 => ?_, hfr, by omega, hp, hK0, hK1, hacc⟩, ?_⟩
    · by_cases e : i = p
      · subst e; exact HIN.out
      · exact HRUN.out i h1 (by omega)
    · unfold TokM
      rw [box_at HB2.out, pos_scn HS2.out.scn]
      have := HM.out
      simp only [Nat.one_ne_zero, if_false, if_true]
      omega
  · have hkr : (kAt (strI s) p == 3 || kAt (strI s) p == 4) = false := by
      unfold kAt; split
      · rw [kind_run]
        cases e : runB (nth (strI s) p)
        · rfl
        · exact absurd ⟨by omega, e⟩ hin
      · rfl
    have hE : runE (strI s) rs = p := runE_spec hrs (by omega) hrun (by
      by_cases h : p < s.size
      · right
        cases e : runB (nth (strI s) p)
        · rfl
        · exact absurd ⟨h, e⟩ hin
      · left; omega)
    have HR2 : Hid (R = tokRes (strI s) acc K fr p0 p) := by rw [hE] at hR; exact hR
    have hp2 : p0 + 1 ≤ p := by omega
    rw [hkr] at hIR
    clear hS hB hR hN hrun sf hin hrl hkr hkb hE
    generalize kAt (strI s) p = kd at *
    generalize nth (strI s) p = c at s2
    go_wp2_with fail
    refine (hIR _).mono ?_
    rintro e w' ⟨rfl, rfl⟩
    go_wp2_with fail
    refine wp_label ?_
    rename_i Kx hKx
    refine hKx _ _ (hP n _ _ ⟨p, p0, fr, K, acc, v, y, ⟨_, rfl, rfl, rfl, rfl, rfl, rfl, rfl⟩, HS.out, HB.out, HR2.out, by omega, hp2, hK0, hK1, hacc⟩ ?_)
    unfold TokM
    rw [box_at HB.out]
    have := HM.out
    simp only [show (3 : Nat) ≠ 0 by decide, show (3 : Nat) ≠ 1 by decide, if_false]
    omega

end Go.Proofs.Yteckmcgihbicfab
