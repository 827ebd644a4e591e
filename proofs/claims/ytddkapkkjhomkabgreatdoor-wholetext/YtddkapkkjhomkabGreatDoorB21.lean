/-
  Texts laid together in one: LexTok0, LexTok1, LexTokens.
-/
import Derived.WalkSpells
import Derived.WalkMore
import Derived.BigRegion
import Derived.Deep.RegionWith
import Derived.Test.YtddkapkkjhomkabGreatDoorProg
import Derived.Test.YtddkapkkjhomkabGreatDoorB11
import Derived.Test.YtddkapkkjhomkabGreatDoorB17
import Derived.Test.YtddkapkkjhomkabGreatDoorB14
import Derived.Test.YtddkapkkjhomkabGreatDoorB20
import Derived.Test.YtddkapkkjhomkabGreatDoorB12
/-
  The scanner's tokens of the layer lex: what holds at each of its labels, and the passes from a token that is taken, from a whole piece and from a run. No condition but what each names.
-/
namespace Go.Proofs.YtddkapkkjhomkabGreatDoor
open Go.RowKit
set_option maxRecDepth 100000
set_option linter.unusedVariables false
set_option linter.unusedSimpArgs false
attribute [local go_sem] jumps_normal jumps_exit jumps_ret jumps_panic jumps_goto onNormal_normal

/-- The code within the first scope. -/
def inScope : Code → Code
  | .seq _ x => inScope x
  | .scope c => c
  | _ => .skip

/-- What holds of memory: the scanner, the spot, the tokens so far; no other block that was there has turned. -/
structure TokS (b : Nat) (s : ByteArray) (w : World) (p : Nat) (acc : List TokT) (v : Value) (w' : World) : Prop where
  scn : Scn b s p w'
  spot : w'.heap[w.heap.size]? = some (.cells #[.int .i64 0, .int .i64 0] 28 (0, 0))
  row : w'.ownsRow (w.heap.size + 2) 41 3 v acc.length (acc.flatMap tokC)
  grown : w.grownBy w' (some b)
  size : w.heap.size + 2 ≤ w'.heap.size
  at_le : p ≤ s.size
def BoxT (w w' : World) (x y z : Value) : Prop := w'.heap[w.heap.size + 1]? = some (.cells #[x, y, z] 41 (0, 0))

/-- What the tokens come to when a piece from fr to e is to be a token of kind K at p0. -/
def tokRes (l : List Int) (acc : List TokT) (K : Int) (fr p0 e : Nat) : TokR := joinR acc (if tokOk K (cutL l fr e) = true then consR (K, strOfNums (cutL l fr e), (p0 : Int)) (toksP l e) else ([], 62, (p0 : Int)))

/-- The frame: what its slots hold. -/
def FrmT (b : Nat) (w : World) (v : Value) (a' : Act) : Prop := ∃ t : Array Value, a' = { tmps := t, defers := [] } ∧ t.size = 99 ∧ slot t 0 = .pointer (some ⟨b, 0, none⟩) ∧ slot t 3 = .pointer (some ⟨w.heap.size, 0, none⟩) ∧ slot t 4 = v ∧ slot t 5 = .pointer (some ⟨w.heap.size + 1, 0, none⟩)
def FrmF (b : Nat) (w : World) (v : Value) (fr : Nat) (a' : Act) : Prop := ∃ t : Array Value, a' = { tmps := t, defers := [] } ∧ t.size = 99 ∧ slot t 0 = .pointer (some ⟨b, 0, none⟩) ∧ slot t 3 = .pointer (some ⟨w.heap.size, 0, none⟩) ∧ slot t 4 = v ∧ slot t 5 = .pointer (some ⟨w.heap.size + 1, 0, none⟩) ∧ slot t 6 = .int .i64 fr

def TokJ (b : Nat) (s : ByteArray) (w : World) (R : TokR) : Nat → Act → World → Prop
  | 0, a', w' => ∃ (p : Nat) (acc : List TokT) (v x y z : Value), FrmT b w v a' ∧ TokS b s w p acc v w' ∧ BoxT w w' x y z ∧ R = joinR acc (toksP (strI s) p) ∧ acc.length ≤ p
  | 1, a', w' => ∃ (p p0 fr rs : Nat) (K : Int) (acc : List TokT) (v y : Value), FrmF b w v fr a' ∧ TokS b s w p acc v w' ∧ BoxT w w' (.int .u8 K) y (.int .i64 p0) ∧ R = tokRes (strI s) acc K fr p0 (runE (strI s) rs) ∧ (∀ i, rs ≤ i → i < p → runB (nth (strI s) i) = true) ∧ fr ≤ rs ∧ rs ≤ p ∧ p0 + 1 ≤ runE (strI s) rs ∧ 0 ≤ K ∧ K < 256 ∧ acc.length ≤ p0
  | 2, a', w' => ∃ (p p0 : Nat) (K : Int) (t : ByteArray) (acc : List TokT) (v : Value), FrmT b w v a' ∧ TokS b s w p acc v w' ∧ BoxT w w' (.int .u8 K) (.string t) (.int .i64 p0) ∧ R = joinR (acc ++ [(K, t, (p0 : Int))]) (toksP (strI s) p) ∧ p0 + 1 ≤ p ∧ acc.length ≤ p0
  | 3, a', w' => ∃ (p p0 fr : Nat) (K : Int) (acc : List TokT) (v y : Value), FrmF b w v fr a' ∧ TokS b s w p acc v w' ∧ BoxT w w' (.int .u8 K) y (.int .i64 p0) ∧ R = tokRes (strI s) acc K fr p0 p ∧ fr ≤ p ∧ p0 + 1 ≤ p ∧ 0 ≤ K ∧ K < 256 ∧ acc.length ≤ p0
  | _, _, _ => False
/-- Where the token in hand begins. -/
def boxAt (w w' : World) : Nat := match w'.cell? ⟨w.heap.size + 1, 2, none⟩ with
  | some (.int _ n) => n.toNat
  | _ => 0
def TokM (b : Nat) (s : ByteArray) (w : World) (l : Nat) (_ : Act) (w' : World) : Nat :=
  if l = 0 then (s.size - posOf b w') * (s.size + 3) + (s.size + 2) else (s.size - boxAt w w') * (s.size + 3) + (if l = 1 then s.size - posOf b w' + 1 else 0)
theorem box_at {w w' : World} {x y : Value} {p0 : Nat} (h : BoxT w w' x y (.int .i64 p0)) : boxAt w w' = p0 := by
  have : w'.cell? ⟨w.heap.size + 1, 2, none⟩ = some (.int .i64 p0) := by rw [Lib.cell_of_heap h]; rfl
  unfold boxAt; rw [this]; simp
theorem mul_step {L a c : Nat} (h : a + 1 ≤ c) (hc : c ≤ L) : (L - c) * (L + 3) + (L + 2) < (L - a) * (L + 3) := by
  have h1 : L - c + 1 ≤ L - a := by omega
  have := Nat.mul_le_mul_right (L + 3) h1
  rw [Nat.add_mul] at this; omega

theorem setCell_high {w w1 : World} {r : Option Nat} (h : w.grownBy w1 r) {g : Nat} (hg : w.heap.size ≤ g) (i : Nat) (u : Value) : w.grownBy (w1.setCell ⟨g, i, none⟩ u) r :=
  ⟨h.os, h.tape, h.output, by simpa [World.setCell] using h.size, fun k hk hr => (Below.heap_setCell _ _ _ _ (by simp only; omega)).trans (h.block k hk hr)⟩
theorem row_block {w' : World} {B n : Nat} {v : Value} {xs : List Value} (h : w'.ownsRow B 41 3 v n xs) {k : Nat} (hk : k < B) : v.ownBlock = none ∨ v.ownBlock ≠ some k := by
  cases e : v.ownBlock with
  | none => exact .inl rfl
  | some g => exact .inr fun e' => by have := (h.lt g e).1; simp at e'; omega

/-- The scanner goes on. -/
theorem TokS.next {b : Nat} {s : ByteArray} {w w1 w2 : World} {p q : Nat} {acc : List TokT} {v : Value} (hb : b < w.heap.size) (h : TokS b s w p acc v w1) (hg : w1.grownBy w2 (some b)) (hS : Scn b s q w2) (hq : q ≤ s.size) : TokS b s w q acc v w2 :=
  ⟨hS, (hg.block _ (by have := h.size; omega) (by simp; omega)).trans h.spot, h.row.kept hg (row_block h.row (by omega)), grown_trans h.grown hg, Nat.le_trans h.size hg.size, hq⟩
theorem BoxT.next {b : Nat} {w w1 w2 : World} {x y z : Value} (hb : b < w.heap.size) (h : BoxT w w1 x y z) (hg : w1.grownBy w2 (some b)) : BoxT w w2 x y z :=
  (hg.block _ (Array.getElem?_eq_some_iff.1 h).1 (by simp; omega)).trans h
theorem TokS.below {b : Nat} {s : ByteArray} {w w1 w2 : World} {p : Nat} {acc : List TokT} {v : Value} (hb : b < w.heap.size) (h : TokS b s w p acc v w1) (hg : Below w1.heap.size w1 w2) : TokS b s w p acc v w2 := by
  have hs := h.size
  exact ⟨(hg.block _ (by omega)).trans h.scn, (hg.block _ (by omega)).trans h.spot, own_below h.row hg, grown_belowX h.grown hg (by omega), Nat.le_trans hs hg.size, h.at_le⟩
theorem BoxT.below {w w1 w2 : World} {x y z : Value} (h : BoxT w w1 x y z) (hg : Below w1.heap.size w1 w2) : BoxT w w2 x y z := (hg.block _ (Array.getElem?_eq_some_iff.1 h).1).trans h
theorem TokS.box {b : Nat} {s : ByteArray} {w w1 : World} {p : Nat} {acc : List TokT} {v : Value} (hb : b < w.heap.size) (h : TokS b s w p acc v w1) (i : Nat) (u : Value) : TokS b s w p acc v (w1.setCell ⟨w.heap.size + 1, i, none⟩ u) :=
  ⟨(Below.heap_setCell _ _ _ _ (by simp; omega)).trans h.scn, (Below.heap_setCell _ _ _ _ (by simp)).trans h.spot, ownsRow_setCell_below h.row (by simp) _, setCell_high h.grown (by omega) _ _, by simpa [World.setCell] using h.size, h.at_le⟩
theorem TokS.drew {b : Nat} {s : ByteArray} {w w1 : World} {p : Nat} {acc : List TokT} {v : Value} (h : TokS b s w p acc v w1) : TokS b s w p acc v w1.drew :=
  ⟨h.scn, h.spot, own_below h.row (Below.drew (Below.refl _ _)), grown_drew1 h.grown, h.size, h.at_le⟩
theorem BoxT.drew {w w1 : World} {x y z : Value} (h : BoxT w w1 x y z) : BoxT w w1.drew x y z := h
theorem BoxT.set0 {w w1 : World} {x y z : Value} (h : BoxT w w1 x y z) (u : Value) : BoxT w (w1.setCell ⟨w.heap.size + 1, 0, none⟩ u) u y z := by
  unfold BoxT at *; simp [World.setCell, Array.getElem?_modify, h]
theorem BoxT.set1 {w w1 : World} {x y z : Value} (h : BoxT w w1 x y z) (u : Value) : BoxT w (w1.setCell ⟨w.heap.size + 1, 1, none⟩ u) x u z := by
  unfold BoxT at *; simp [World.setCell, Array.getElem?_modify, h]
theorem BoxT.set2 {w w1 : World} {x y z : Value} (h : BoxT w w1 x y z) (u : Value) : BoxT w (w1.setCell ⟨w.heap.size + 1, 2, none⟩ u) x y u := by
  unfold BoxT at *; simp [World.setCell, Array.getElem?_modify, h]
theorem BoxT.cells {w w1 : World} {x y z : Value} (h : BoxT w w1 x y z) : w1.cell? ⟨w.heap.size + 1, 0, none⟩ = some x ∧ w1.cell? ⟨w.heap.size + 1, 1, none⟩ = some y ∧ w1.cell? ⟨w.heap.size + 1, 2, none⟩ = some z ∧ ∀ i, w1.frozen? ⟨w.heap.size + 1, i, none⟩ = false := by
  unfold BoxT at h
  refine ⟨?_, ?_, ?_, fun i => ?_⟩ <;> simp [World.cell?, World.frozen?, h]
theorem TokS.cells {b : Nat} {s : ByteArray} {w w1 : World} {p : Nat} {acc : List TokT} {v : Value} (h : TokS b s w p acc v w1) : w1.cell? ⟨w.heap.size, 0, none⟩ = some (.int .i64 0) ∧ w1.cell? ⟨w.heap.size, 1, none⟩ = some (.int .i64 0) ∧ ∀ i, w1.frozen? ⟨w.heap.size, i, none⟩ = false := by
  have := h.spot
  refine ⟨?_, ?_, fun i => ?_⟩ <;> simp [World.cell?, World.frozen?, this]

theorem TokL.info : (Tryz.prog.info? 41).map (fun i => (i.zero, i.size, i.bytes)) = some (some (.agg #[.int .u8 0, .string ⟨#[]⟩, .int .i64 0]), 3, 32) := by kernel_rfl
theorem flatT_push (l : List TokT) (x : TokT) : (l ++ [x]).flatMap tokC = l.flatMap tokC ++ tokC x := by simp

/-- The answers. -/
def TokQ (b : Nat) (s : ByteArray) (w : World) (R : TokR) (Q : Exit → Act → World → Prop) : Prop :=
  ∀ (a' : Act) (w' : World) (v : Value), a'.tmps.getD 2 undef = v → a'.tmps.getD 3 undef = .pointer (some ⟨w.heap.size, 0, none⟩) → a'.defers = [] → w'.heap[w.heap.size]? = some (.cells #[.int .i64 R.2.1, .int .i64 R.2.2] 28 (0, 0)) → w'.ownsRow (w.heap.size + 2) 41 3 v R.1.length (R.1.flatMap tokC) → w.grownBy w' (some b) → Q .ret a' w'
theorem spot_put {w w1 : World} {x y : Value} (h : w1.heap[w.heap.size]? = some (.cells #[x, y] 28 (0, 0))) (u t : Value) : ((w1.setCell ⟨w.heap.size, 0, none⟩ u).setCell ⟨w.heap.size, 1, none⟩ t).heap[w.heap.size]? = some (.cells #[u, t] 28 (0, 0)) := by
  simp [World.setCell, Array.getElem?_modify, h]

set_option maxHeartbeats 4000000 in
theorem tok_taken (b : Nat) (s : ByteArray) (w : World) (R : TokR) (Q : Exit → Act → World → Prop) (hb : b < w.heap.size) (hs : 32 * s.size + 64 ≤ 140737488351232) (n : Nat) (a : Act) (w1 : World) (hJ : TokJ b s w R 2 a w1) (hN : TokM b s w 2 a w1 ≤ n) :
    (behind (findLabel (inScope (Tryz.f34.body.getD .skip)) 2)).wp Tryz.prog (jumps (fun l' a' w' => TokJ b s w R l' a' w' ∧ TokM b s w l' a' w' < n) Q) a w1 := by
  obtain ⟨p, p0, K, t, acc, v, ⟨f, rfl, hsz, h0, h3, h4, h5⟩, hS, hB, hR, hp, hacc⟩ := hJ
  conv => arg 2; whnf
  rw [frame99 f hsz, h0, h3, h4, h5]
  clear h0 h3 h4 h5 hsz
  obtain ⟨i0, hi, hz0, hz1, hz2⟩ := info_parts TokL.info
  obtain ⟨x0, x1, x2, _⟩ := hB.cells
  have hle := hS.at_le
  have HM : Hid ((s.size - p0) * (s.size + 3) ≤ n) := by
    unfold TokM at hN
    rw [box_at hB] at hN
    show _ ≤ _
    simpa using hN
  have hrow := hS.row.alloc (.cells #[.int .u8 K, .string t, .int .i64 p0] 41)
  go_wp2_with (at_builtin; refine wpList_append_own _ rfl (.tmp 95) (.tmp 97) 37 rfl (w.heap.size + 2) 41 i0 (.agg #[.int .u8 0, .string ⟨#[]⟩, .int .i64 0]) 3 32 Tryz.underlying37 hi hz0 hz1 hz2 rfl (by decide) _ acc.length (acc.flatMap tokC) rfl hrow ⟨w1.heap.size, 0, none⟩ 1 1 [.int .u8 K, .string t, .int .i64 p0] rfl rfl ?c1 ?c2 ?c3 ?c4 ?c5 ?_)
  case c1 =>
    intro j u hj
    match j, hj with
    | 0, hj => simp at hj; subst hj; simp [Addr.add]
    | 1, hj => simp at hj; subst hj; simp [Addr.add]
    | 2, hj => simp at hj; subst hj; simp [Addr.add]
  case c2 => intro u hu; simp at hu; rcases hu with rfl | rfl | rfl <;> rfl
  case c3 => unfold maxLen; omega
  case c4 => omega
  case c5 => have := hS.size; simp; omega
  intro v' w2 hown hgr _
  have hszw := hS.size
  have hwa : ∀ k, k < w.heap.size + 2 → w2.heap[k]? = w1.heap[k]? := fun k hk => by
    rw [hgr.block k (by simp; omega) (fun e => by have := (hS.row.lt k e.symm).1; omega)]
    exact Below.heap_alloc _ _ _ (by omega)
  have hS2 : TokS b s w p (acc ++ [(K, t, (p0 : Int))]) v' w2 := by
    refine ⟨(hwa b (by omega)).trans hS.scn, (hwa _ (by omega)).trans hS.spot, ?_, ?_, ?_, hle⟩
    · rw [flatT_push, List.length_append]; exact hown
    · have hg1 := grown_trans hS.grown (World.grownBy_alloc w1 (.cells #[.int .u8 K, .string t, .int .i64 p0] 41) (some b))
      exact ⟨hgr.os.trans hg1.os, hgr.tape.trans hg1.tape, hgr.output.trans hg1.output, Nat.le_trans hg1.size hgr.size, fun k hk hr => (hwa k (by omega)).trans (hS.grown.block k hk hr)⟩
    · have := hgr.size; simp at this; omega
  have hB2 : BoxT w w2 (.int .u8 K) (.string t) (.int .i64 p0) := (hwa _ (by omega)).trans hB
  have HS2 : Hid (TokS b s w p (acc ++ [(K, t, (p0 : Int))]) v' w2) := hS2
  have HB2 : Hid (BoxT w w2 (.int .u8 K) (.string t) (.int .i64 p0)) := hB2
  have HR : Hid (R = joinR (acc ++ [(K, t, (p0 : Int))]) (toksP (strI s) p)) := hR
  clear hown hgr hwa hrow x0 x1 x2 hS hB hS2 hB2 hR hN
  go_wp2_with fail
  go_step3
  refine ⟨⟨p, acc ++ [(K, t, (p0 : Int))], v', _, _, _, ⟨_, rfl, rfl, rfl, rfl, rfl, rfl⟩, HS2.out, HB2.out, HR.out, by simp; omega⟩, ?_⟩
  unfold TokM
  rw [if_pos rfl, pos_scn HS2.out.scn]
  exact Nat.lt_of_lt_of_le (mul_step hp hle) HM.out

set_option maxHeartbeats 4000000 in
theorem tok_whole (b : Nat) (s : ByteArray) (w : World) (R : TokR) (Q : Exit → Act → World → Prop) (hb : b < w.heap.size) (hs : 32 * s.size + 64 ≤ 140737488351232) (hQ : TokQ b s w R Q)
    (hP : ∀ n a w1, TokJ b s w R 2 a w1 → TokM b s w 2 a w1 ≤ n → (behind (findLabel (inScope (Tryz.f34.body.getD .skip)) 2)).wp Tryz.prog (jumps (fun l' a' w' => TokJ b s w R l' a' w' ∧ TokM b s w l' a' w' < n) Q) a w1)
    (n : Nat) (a : Act) (w1 : World) (hJ : TokJ b s w R 3 a w1) (hN : TokM b s w 3 a w1 ≤ n) :
    (behind (findLabel (inScope (Tryz.f34.body.getD .skip)) 3)).wp Tryz.prog (jumps (fun l' a' w' => TokJ b s w R l' a' w' ∧ TokM b s w l' a' w' < n) Q) a w1 := by
  obtain ⟨p, p0, fr, K, acc, v, y, ⟨f, rfl, hsz, h0, h3, h4, h5, h6⟩, hS, hB, hR, hfr, hp, hK0, hK1, hacc⟩ := hJ
  conv => arg 2; whnf
  rw [frame99 f hsz, h0, h3, h4, h5, h6]
  clear h0 h3 h4 h5 h6 hsz
  obtain ⟨x0, x1, x2, xf⟩ := hB.cells
  obtain ⟨s0, s1, s2, s3, sf⟩ := scn_cells hS.scn
  have hle := hS.at_le
  have HM : Hid ((s.size - p0) * (s.size + 3) ≤ n) := by
    unfold TokM at hN
    rw [box_at hB] at hN
    show _ ≤ _
    simpa using hN
  have HE : Hid (strOfNums (cutL (strI s) fr p) = s.extract fr p) := by
    show _ = _
    rw [← str_of_strI (s.extract fr p), strI_extract]; rfl
  have HE2 : Hid (strI (s.extract fr p) = cutL (strI s) fr p) := strI_extract s fr p
  have hes : (s.extract fr p).size ≤ s.size := by rw [ByteArray.size_extract]; omega
  have hC := fun wx => stringsClone_any (s.extract fr p) wx (by omega)
  have hMB := fun wx => mayBe_any K (s.extract fr p) (p0 : Int) wx hK0 hK1 (by omega)
  rw [HE2.out] at hMB
  have HS : Hid (TokS b s w p acc v w1) := hS
  have HB : Hid (BoxT w w1 (.int .u8 K) y (.int .i64 p0)) := hB
  have HR : Hid (R = tokRes (strI s) acc K fr p0 p) := hR
  have f1 := xf 1
  have hfi : (fr : Int) ≤ (p : Int) := by omega
  have hpi : (p : Int) ≤ (s.size : Int) := by omega
  have HC1 : Hid (∀ w2, Below w1.drew.heap.size w1.drew w2 → w2.cell? ⟨w.heap.size + 1, 1, none⟩ = some y) := fun w2 h => (h.cell (p := ⟨w.heap.size + 1, 1, none⟩) (Array.getElem?_eq_some_iff.1 hB).1).trans x1
  have HC2 : Hid (∀ w2, Below w1.drew.heap.size w1.drew w2 → w2.frozen? ⟨w.heap.size + 1, 1, none⟩ = false) := fun w2 h => (h.frozen (p := ⟨w.heap.size + 1, 1, none⟩) (Array.getElem?_eq_some_iff.1 hB).1).trans f1
  clear hS hB hR hN xf sf s2 s3 x0 x1 x2 f1
  go_wp2_with fail
  refine wp_norm ?_
  go_region_with (go_at_call 32; refine (hC _).mono ?_; rintro e w2 ⟨rfl, hb2⟩; have q1 := HC1.out w2 hb2; have q2 := HC2.out w2 hb2)
  all_goals
    have hS2 := (TokS.below hb HS.out.drew hb2).box hb 1 (.string (s.extract fr p))
    have hB2 := (BoxT.below HB.out.drew hb2).set1 (.string (s.extract fr p))
    obtain ⟨y0, y1, y2, _⟩ := hB2.cells
    have HS2 : Hid (TokS b s w p acc v (w2.setCell ⟨w.heap.size + 1, 1, none⟩ (.string (s.extract fr p)))) := hS2
    have HB2 : Hid (BoxT w (w2.setCell ⟨w.heap.size + 1, 1, none⟩ (.string (s.extract fr p))) (.int .u8 K) (.string (s.extract fr p)) (.int .i64 p0)) := hB2
    clear hS2 hB2 q1 q2 hb2
    generalize w2.setCell ⟨w.heap.size + 1, 1, none⟩ (.string (s.extract fr p)) = w3 at *
    rw [onNormal_normal]
    go_wp2_with fail
    refine (hMB _).mono ?_
    rintro e w4 ⟨rfl, hb4⟩
    have hS4 := TokS.below hb HS2.out hb4
    have hB4 := BoxT.below HB2.out hb4
    clear HS2 HB2 hb4 y0 y1 y2
    cases hok : tokOk K (cutL (strI s) fr p)
    · have HRv : Hid (R = ([], 62, (p0 : Int))) := by
        show _ = _
        rw [HR.out, tokRes, if_neg (by simp [hok])]; rfl
      obtain ⟨y0, y1, y2, _⟩ := hB4.cells
      obtain ⟨z0, z1, zf⟩ := hS4.cells
      have f0 := zf 0
      have f1 := zf 1
      have HX : Hid (((w4.drew.setCell ⟨w.heap.size, 0, none⟩ (.int .i64 62)).setCell ⟨w.heap.size, 1, none⟩ (.int .i64 p0)).heap[w.heap.size]? = some (.cells #[.int .i64 62, .int .i64 p0] 28 (0, 0))) := spot_put hS4.spot _ _
      have HG : Hid (w.grownBy ((w4.drew.setCell ⟨w.heap.size, 0, none⟩ (.int .i64 62)).setCell ⟨w.heap.size, 1, none⟩ (.int .i64 p0)) (some b)) := setCell_high (setCell_high (grown_drew1 hS4.grown) (Nat.le_refl _) _ _) (Nat.le_refl _) _ _
      clear hS4 hB4 zf
      go_wp2_with fail
      refine wp_norm ?_
      go_region
      rw [onNormal_normal]
      go_wp2_with fail
      rw [jumps_ret]
      refine hQ _ _ (.slice none 0 0) rfl rfl rfl ?_ ?_ HG.out
      · rw [HRv.out]; exact HX.out
      · rw [HRv.out]; exact World.ownsRow_nil _ _ _ _
    · have HRv : Hid (R = joinR (acc ++ [(K, s.extract fr p, (p0 : Int))]) (toksP (strI s) p)) := by
        show _ = _
        rw [HR.out, tokRes, if_pos hok, join_cons, HE.out]
      have HS4 : Hid (TokS b s w p acc v w4) := hS4
      have HB4 : Hid (BoxT w w4 (.int .u8 K) (.string (s.extract fr p)) (.int .i64 p0)) := hB4
      clear hS4 hB4
      go_wp2_with fail
      refine wp_label ?_
      rename_i Kx hKx
      refine hKx _ _ (hP n _ _ ⟨p, p0, K, s.extract fr p, acc, v, ⟨_, rfl, rfl, rfl, rfl, rfl, rfl⟩, HS4.out, HB4.out, HRv.out, hp, hacc⟩ ?_)
      unfold TokM
      rw [box_at HB4.out]
      simpa using HM.out

set_option maxHeartbeats 4000000 in
theorem tok_run (b : Nat) (s : ByteArray) (w : World) (R : TokR) (Q : Exit → Act → World → Prop) (hb : b < w.heap.size) (hs : 32 * s.size + 64 ≤ 140737488351232)
    (hP : ∀ n a w1, TokJ b s w R 3 a w1 → TokM b s w 3 a w1 ≤ n → (behind (findLabel (inScope (Tryz.f34.body.getD .skip)) 3)).wp Tryz.prog (jumps (fun l' a' w' => TokJ b s w R l' a' w' ∧ TokM b s w l' a' w' < n) Q) a w1)
    (n : Nat) (a : Act) (w1 : World) (hJ : TokJ b s w R 1 a w1) (hN : TokM b s w 1 a w1 ≤ n) :
    (behind (findLabel (inScope (Tryz.f34.body.getD .skip)) 1)).wp Tryz.prog (jumps (fun l' a' w' => TokJ b s w R l' a' w' ∧ TokM b s w l' a' w' < n) Q) a w1 := by
  obtain ⟨p, p0, fr, rs, K, acc, v, y, ⟨f, rfl, hsz, h0, h3, h4, h5, h6⟩, hS, hB, hR, hrun, hfr, hrs, hp, hK0, hK1, hacc⟩ := hJ
  conv => arg 2; whnf
  rw [frame99 f hsz, h0, h3, h4, h5, h6]
  clear h0 h3 h4 h5 h6 hsz
  obtain ⟨s0, s1, s2, s3, sf⟩ := scn_cells hS.scn
  have hle := hS.at_le
  have HM : Hid ((s.size - p0) * (s.size + 3) + (s.size - p + 1) ≤ n) := by
    unfold TokM at hN
    rw [box_at hB, pos_scn hS.scn] at hN
    show _ ≤ _
    simpa using hN
  have hkb : 0 ≤ kAt (strI s) p ∧ kAt (strI s) p < 256 := by
    unfold kAt; split
    · have := kind_lo (nth (strI s) p); have := kind_hi (nth (strI s) p); omega
    · omega
  have hIR := fun wx => inRun_any (kAt (strI s) p) wx hkb.1 hkb.2
  have HS : Hid (TokS b s w p acc v w1) := hS
  have HB : Hid (BoxT w w1 (.int .u8 K) y (.int .i64 p0)) := hB
  have HR : Hid (R = tokRes (strI s) acc K fr p0 (runE (strI s) rs)) := hR
  have HRUN : Hid (∀ i, rs ≤ i → i < p → runB (nth (strI s) i) = true) := hrun
  have hrl : (strI s).length = s.size := strI_len s
  by_cases hin : p < s.size ∧ runB (nth (strI s) p) = true
  · have hkr : (kAt (strI s) p == 3 || kAt (strI s) p == 4) = true := by
      unfold kAt; rw [if_pos (by omega), kind_run]; exact hin.2
    have hST := step_any b p s w1 hS.scn (by omega) (by omega)
    have HIN : Hid (runB (nth (strI s) p) = true) := hin.2
    have hlt := hin.1
    rw [hkr] at hIR
    clear hS hB hR hN hrun sf hin hrl hkr hkb
    generalize kAt (strI s) p = kd at *
    generalize nth (strI s) p = c at s2
    go_wp2_with fail
    refine (hIR _).mono ?_
    rintro e w' ⟨rfl, rfl⟩
    go_wp2_with fail
    refine hST.mono ?_
    rintro e w2 ⟨rfl, hS2, hg2⟩
    have HS2 : Hid (TokS b s w (p + 1) acc v w2) := TokS.next hb HS.out hg2 hS2 (by omega)
    have HB2 : Hid (BoxT w w2 (.int .u8 K) y (.int .i64 p0)) := BoxT.next hb HB.out hg2
    clear hST hS2 hg2 s0 s1 s2 s3
    go_wp2_with fail
    go_step3
    refine ⟨⟨p + 1, p0, fr, rs, K, acc, v, y, ⟨_, rfl, rfl, rfl, rfl, rfl, rfl, rfl⟩, HS2.out, HB2.out, HR.out, fun i h1 h2 => ?_, hfr, by omega, hp, hK0, hK1, hacc⟩, ?_⟩
    · by_cases e : i = p
      · subst e; exact HIN.out
      · exact HRUN.out i h1 (by omega)
    · unfold TokM
      rw [box_at HB2.out, pos_scn HS2.out.scn]
      have := HM.out
      simp only [Nat.one_ne_zero, if_false, if_true]
      omega
  · have hkr : (kAt (strI s) p == 3 || kAt (strI s) p == 4) = false := by
      unfold kAt; split
      · rw [kind_run]
        cases e : runB (nth (strI s) p)
        · rfl
        · exact absurd ⟨by omega, e⟩ hin
      · rfl
    have hE : runE (strI s) rs = p := runE_spec hrs (by omega) hrun (by
      by_cases h : p < s.size
      · right
        cases e : runB (nth (strI s) p)
        · rfl
        · exact absurd ⟨h, e⟩ hin
      · left; omega)
    have HR2 : Hid (R = tokRes (strI s) acc K fr p0 p) := by rw [hE] at hR; exact hR
    have hp2 : p0 + 1 ≤ p := by omega
    rw [hkr] at hIR
    clear hS hB hR hN hrun sf hin hrl hkr hkb hE
    generalize kAt (strI s) p = kd at *
    generalize nth (strI s) p = c at s2
    go_wp2_with fail
    refine (hIR _).mono ?_
    rintro e w' ⟨rfl, rfl⟩
    go_wp2_with fail
    refine wp_label ?_
    rename_i Kx hKx
    refine hKx _ _ (hP n _ _ ⟨p, p0, fr, K, acc, v, y, ⟨_, rfl, rfl, rfl, rfl, rfl, rfl, rfl⟩, HS.out, HB.out, HR2.out, by omega, hp2, hK0, hK1, hacc⟩ ?_)
    unfold TokM
    rw [box_at HB.out]
    have := HM.out
    simp only [show (3 : Nat) ≠ 0 by decide, show (3 : Nat) ≠ 1 by decide, if_false]
    omega

end Go.Proofs.YtddkapkkjhomkabGreatDoor

/-
  The scanner's tokens of the layer lex: the pass from between two tokens. No condition but what each names.
-/
namespace Go.Proofs.YtddkapkkjhomkabGreatDoor
open Go.RowKit
set_option maxRecDepth 100000
set_option linter.unusedVariables false
set_option linter.unusedSimpArgs false
attribute [local go_sem] jumps_normal jumps_exit jumps_ret jumps_panic jumps_goto onNormal_normal

/-- A piece that is a token if its text may be. -/
def tokIf (l : List Int) (K : Int) (fr p0 e : Nat) : TokR := if tokOk K (cutL l fr e) = true then consR (K, strOfNums (cutL l fr e), (p0 : Int)) (toksP l e) else ([], 62, (p0 : Int))

theorem kind_cases (c : Int) : (kindL c = 3 ∧ letterB c = true) ∨ (kindL c = 4 ∧ digitB c = true ∧ letterB c = false) ∨ (kindL c = 2 ∧ blankB c = true) ∨ (kindL c = 5 ∧ c = 37) ∨ (kindL c = 6 ∧ c = 45) ∨ (kindL c = 7 ∧ c = 34) ∨ (kindL c = 9 ∧ c = 61) ∨ (kindL c = 10 ∧ c = 59) ∨ ((kindL c = 8 ∨ kindL c = 1) ∧ letterB c = false ∧ digitB c = false ∧ blankB c = false ∧ c ≠ 37 ∧ c ≠ 45 ∧ c ≠ 34 ∧ c ≠ 61 ∧ c ≠ 59) := by
  cases h1 : letterB c
  · cases h2 : digitB c
    · cases h3 : blankB c
      · by_cases h4 : c = 37
        · subst h4; simp [kindL, letterB, digitB, blankB]
        · by_cases h5 : c = 45
          · subst h5; simp [kindL, letterB, digitB, blankB]
          · by_cases h6 : c = 34
            · subst h6; simp [kindL, letterB, digitB, blankB]
            · by_cases h7 : c = 61
              · subst h7; simp [kindL, letterB, digitB, blankB]
              · by_cases h8 : c = 59
                · subst h8; simp [kindL, letterB, digitB, blankB]
                · by_cases h9 : c = 92
                  · subst h9; simp [kindL, letterB, digitB, blankB]
                  · simp [kindL, h1, h2, h3, h4, h5, h6, h7, h8, h9]
      · simp [kindL, h1, h2, h3]
    · simp [kindL, h1, h2]
  · simp [kindL, h1]
theorem letter_not {c : Int} (h : letterB c = true) : blankB c = false ∧ c ≠ 59 := by
  refine ⟨?_, fun e => by subst e; exact absurd h (by decide)⟩
  cases e : blankB c
  · rfl
  · simp only [blankB, Bool.or_eq_true, beq_iff_eq] at e
    rcases e with (rfl | rfl) | rfl <;> exact absurd h (by decide)
theorem digit_not {c : Int} (h : digitB c = true) : blankB c = false ∧ c ≠ 59 ∧ c ≠ 37 := by
  simp only [digitB, decide_eq_true_eq] at h
  refine ⟨?_, by omega, by omega⟩
  cases e : blankB c
  · rfl
  · simp only [blankB, Bool.or_eq_true, beq_iff_eq] at e
    omega
theorem cut_len (l : List Int) (a b : Nat) (h : b ≤ l.length) : (cutL l a b).length = b - a := by
  unfold cutL; rw [List.length_drop, List.length_take]; omega
theorem nth_cut (l : List Int) (a b i : Nat) (h : a + i < b) : nth (cutL l a b) i = nth l (a + i) := by
  unfold cutL nth
  simp [List.getD, List.getElem?_drop, List.getElem?_take, h]
theorem runE_run {l : List Int} {p i : Nat} (h : p ≤ i) (hi : i < runE l p) : runB (nth l i) = true := by
  have key : ∀ (m : List Int) (j : Nat), j < (m.takeWhile runB).length → runB (nth m j) = true := by
    intro m
    induction m with
    | nil => intro j hj; simp at hj
    | cons c m ih =>
      intro j hj
      by_cases hc : runB c = true
      · rw [List.takeWhile_cons_of_pos hc] at hj
        cases j with
        | zero => exact hc
        | succ j =>
          have := ih j (by simpa using hj)
          simpa [nth, List.getD] using this
      · rw [List.takeWhile_cons_of_neg hc] at hj; simp at hj
  unfold runE at hi
  have := key (l.drop p) (i - p) (by omega)
  have e : nth (l.drop p) (i - p) = nth l i := by
    unfold nth; simp [List.getD, List.getElem?_drop, show p + (i - p) = i by omega]
  rwa [e] at this
theorem runE_stop (l : List Int) (p : Nat) (h : runE l p < l.length) : runB (nth l (runE l p)) = false := by
  have key : ∀ (m : List Int), (m.takeWhile runB).length < m.length → runB (nth m (m.takeWhile runB).length) = false := by
    intro m
    induction m with
    | nil => intro h; simp at h
    | cons c m ih =>
      intro h
      by_cases hc : runB c = true
      · rw [List.takeWhile_cons_of_pos hc] at h ⊢
        have := ih (by simpa using h)
        simpa [nth, List.getD] using this
      · rw [List.takeWhile_cons_of_neg hc]; simpa [nth, List.getD] using hc
  have h' := h
  unfold runE at h
  have := key (l.drop p) (by rw [List.length_drop]; omega)
  have e : nth (l.drop p) ((l.drop p).takeWhile runB).length = nth l (runE l p) := by
    unfold nth runE; simp [List.getD, List.getElem?_drop]
  rwa [e] at this
theorem runE_step {l : List Int} {p : Nat} (h : p < l.length) (hr : runB (nth l p) = true) : runE l p = runE l (p + 1) := by
  refine runE_spec (Nat.le_trans (by omega) (runE_ge l (p + 1))) (runE_le l (p + 1) (by omega)) (fun i h1 h2 => ?_) ?_
  · by_cases e : i = p
    · subst e; exact hr
    · exact runE_run (by omega) h2
  · rcases Nat.lt_or_ge (runE l (p + 1)) l.length with h' | h'
    · exact .inr (runE_stop _ _ h')
    · exact .inl (by have := runE_le l (p + 1) (by omega); omega)
theorem word_run {l : List Int} {p : Nat} (h : p < l.length) (hc : letterB (nth l p) = true) : wordB (cutL l p (runE l p)) = true := by
  have hr : runB (nth l p) = true := by simp [runB, hc]
  have h1 := runE_gt h hr
  have h2 := runE_le l p (by omega)
  have hl := cut_len l p (runE l p) h2
  rw [word_all (fun e => by rw [e] at hl; simp at hl; omega) (fun k hk => ?_), nth_cut l p (runE l p) 0 (by omega)]
  · exact hc
  · rw [hl] at hk
    rw [nth_cut l p (runE l p) k (by omega)]
    exact runE_run (p := p) (by omega) (by omega)

theorem toks_letter {l : List Int} {p : Nat} (h : p < l.length) (hc : letterB (nth l p) = true) : toksP l p = tokIf l 1 p p (runE l p) := by
  obtain ⟨h1, h2⟩ := letter_not hc
  have ht : tokP l p = .inr (1, cutL l p (runE l p), runE l p) := by unfold tokP; rw [if_pos hc]
  rw [toksP_tok h h2 h1 ht, tokIf, if_pos]
  exact word_run h hc
theorem toks_percent {l : List Int} {p : Nat} (h : p < l.length) (hc : nth l p = 37) : toksP l p = tokIf l 2 (p + 1) p (runE l (p + 1)) := by
  have h1 : blankB (nth l p) = false := by rw [hc]; rfl
  have h2 : nth l p ≠ 59 := by rw [hc]; decide
  have h3 : ¬ letterB (nth l p) = true := by rw [hc]; decide
  unfold tokIf
  cases e : plainB (cutL l (p + 1) (runE l (p + 1)))
  · rw [if_neg (by show ¬ plainB _ = true; simp [e])]
    exact toksP_err h h2 h1 (by unfold tokP; rw [if_neg h3, if_pos hc, if_neg (by simp [e])])
  · rw [if_pos (by show plainB _ = true; exact e)]
    exact toksP_tok h h2 h1 (by unfold tokP; rw [if_neg h3, if_pos hc, if_pos e])
theorem toks_number {l : List Int} {p : Nat} (h : p < l.length) (hl : letterB (nth l p) = false) (hb : blankB (nth l p) = false) (hs : nth l p ≠ 59) (hp : nth l p ≠ 37) (hc : (digitB (nth l p) || decide (nth l p = 45)) = true) : toksP l p = tokIf l 3 p p (runE l (p + 1)) := by
  unfold tokIf
  cases e : numB (cutL l p (runE l (p + 1)))
  · rw [if_neg (by show ¬ numB _ = true; simp [e])]
    exact toksP_err h hs hb (by unfold tokP; rw [if_neg (by simp [hl]), if_neg hp, if_pos hc, if_neg (by simp [e])])
  · rw [if_pos (by show numB _ = true; exact e)]
    exact toksP_tok h hs hb (by unfold tokP; rw [if_neg (by simp [hl]), if_neg hp, if_pos hc, if_pos e])
theorem toks_quote {l : List Int} {p : Nat} (h : p < l.length) (hc : nth l p = 34) : toksP l p = match quotP l (p + 1) with
    | some (t, q) => consR (4, strOfNums t, (p : Int)) (toksP l q)
    | none => ([], 61, (p : Int)) := by
  have h1 : blankB (nth l p) = false := by rw [hc]; rfl
  have h2 : nth l p ≠ 59 := by rw [hc]; decide
  have h3 : ¬ letterB (nth l p) = true := by rw [hc]; decide
  have h4 : ¬ nth l p = 37 := by rw [hc]; decide
  have h5 : ¬ (digitB (nth l p) || decide (nth l p = 45)) = true := by rw [hc]; decide
  cases e : quotP l (p + 1) with
  | none => exact toksP_err h h2 h1 (by unfold tokP; rw [if_neg h3, if_neg h4, if_neg h5, if_pos hc, e])
  | some r =>
    obtain ⟨t, q⟩ := r
    exact toksP_tok h h2 h1 (by unfold tokP; rw [if_neg h3, if_neg h4, if_neg h5, if_pos hc, e])
theorem toks_equal {l : List Int} {p : Nat} (h : p < l.length) (hc : nth l p = 61) : toksP l p = tokIf l 5 p p (p + 1) := by
  have h1 : blankB (nth l p) = false := by rw [hc]; rfl
  have h2 : nth l p ≠ 59 := by rw [hc]; decide
  have h3 : ¬ letterB (nth l p) = true := by rw [hc]; decide
  have h4 : ¬ nth l p = 37 := by rw [hc]; decide
  have h5 : ¬ (digitB (nth l p) || decide (nth l p = 45)) = true := by rw [hc]; decide
  have h6 : ¬ nth l p = 34 := by rw [hc]; decide
  have ec : cutL l p (p + 1) = [61] := by
    unfold cutL
    rw [take_snoc l p h, hc, List.drop_append_of_le_length (by rw [List.length_take]; omega), List.drop_eq_nil_of_le (by rw [List.length_take]; omega)]; rfl
  rw [toksP_tok h h2 h1 (by unfold tokP; rw [if_neg h3, if_neg h4, if_neg h5, if_neg h6, if_pos hc]), tokIf, ec, if_pos (by decide)]
theorem toks_stray {l : List Int} {p : Nat} (h : p < l.length) (h1 : letterB (nth l p) = false) (h2 : digitB (nth l p) = false) (h3 : blankB (nth l p) = false) (h4 : nth l p ≠ 37) (h5 : nth l p ≠ 45) (h6 : nth l p ≠ 34) (h7 : nth l p ≠ 61) (h8 : nth l p ≠ 59) : toksP l p = ([], 60, (p : Int)) :=
  toksP_err h h8 h3 (by unfold tokP; rw [if_neg (by simp [h1]), if_neg h4, if_neg (by simp [h2, h5]), if_neg h6, if_neg h7])

set_option maxHeartbeats 8000000 in
theorem tok_between (b : Nat) (s : ByteArray) (w : World) (R : TokR) (Q : Exit → Act → World → Prop) (hb : b < w.heap.size) (hs : 32 * s.size + 64 ≤ 140737488351232) (hQ : TokQ b s w R Q)
    (n : Nat) (a : Act) (w1 : World) (hJ : TokJ b s w R 0 a w1) (hN : TokM b s w 0 a w1 ≤ n) :
    (behind (findLabel (inScope (Tryz.f34.body.getD .skip)) 0)).wp Tryz.prog (jumps (fun l' a' w' => TokJ b s w R l' a' w' ∧ TokM b s w l' a' w' < n) Q) a w1 := by
  obtain ⟨p, acc, v, x, y, z, ⟨f, rfl, hsz, h0, h3, h4, h5⟩, hS, hB, hR, hacc⟩ := hJ
  conv => arg 2; whnf
  rw [frame99 f hsz, h0, h3, h4, h5]
  clear h0 h3 h4 h5 hsz
  obtain ⟨x0, x1, x2, xf⟩ := hB.cells
  obtain ⟨s0, s1, s2, s3, sf⟩ := scn_cells hS.scn
  have hle := hS.at_le
  have HM : Hid ((s.size - p) * (s.size + 3) + (s.size + 2) ≤ n) := by
    unfold TokM at hN
    rw [if_pos rfl, pos_scn hS.scn] at hN
    exact hN
  have f0 := xf 0
  have f1 := xf 1
  have f2 := xf 2
  have hS2 := TokS.drew (((hS.box hb 0 (.int .u8 0)).box hb 1 (.string ⟨#[]⟩)).box hb 2 (.int .i64 p))
  have hB2 := BoxT.drew (((hB.set0 (.int .u8 0)).set1 (.string ⟨#[]⟩)).set2 (.int .i64 p))
  have HS2 := hide (hS2)
  have HB2 := hide (hB2)
  have HR : Hid (R = joinR acc (toksP (strI s) p)) := hR
  have HLen : Hid ((strI s).length = s.size) := strI_len s
  clear hS hB hR hN xf sf hS2 hB2
  go_wp2_with fail
  refine wp_norm ?_
  go_region
  rw [onNormal_normal]
  have hS3 := HS2.out
  have hB3 := HB2.out
  clear HS2 HB2 x0 x1 x2 f0 f1 f2 s0 s1 s2 s3
  generalize (((w1.setCell ⟨w.heap.size + 1, 0, none⟩ (.int .u8 0)).setCell ⟨w.heap.size + 1, 1, none⟩ (.string ⟨#[]⟩)).setCell ⟨w.heap.size + 1, 2, none⟩ (.int .i64 p)).drew = w2 at hS3 hB3 ⊢
  obtain ⟨x0, x1, x2, xf⟩ := hB3.cells
  obtain ⟨s0, s1, s2, s3, sf⟩ := scn_cells hS3.scn
  obtain ⟨z0, z1, zf⟩ := hS3.cells
  have f0 := xf 0
  have f1 := xf 1
  have g0 := zf 0
  have g1 := zf 1
  have HS : Hid (TokS b s w p acc v w2) := hS3
  have HB : Hid (BoxT w w2 (.int .u8 0) (.string ⟨#[]⟩) (.int .i64 p)) := hB3
  have HBK : Hid (∀ K : Int, TokS b s w p acc v (w2.setCell ⟨w.heap.size + 1, 0, none⟩ (.int .u8 K)) ∧ BoxT w (w2.setCell ⟨w.heap.size + 1, 0, none⟩ (.int .u8 K)) (.int .u8 K) (.string ⟨#[]⟩) (.int .i64 p)) := fun K => ⟨hS3.box hb 0 _, hB3.set0 _⟩
  have HEND : Hid (∀ w3 : World, TokS b s w p acc v w3 → (toksP (strI s) p = ([], 0, 0)) → ∀ a' : Act, a'.tmps.getD 2 undef = v → a'.tmps.getD 3 undef = .pointer (some ⟨w.heap.size, 0, none⟩) → a'.defers = [] → Q .ret a' ((w3.setCell ⟨w.heap.size, 0, none⟩ (.int .i64 0)).setCell ⟨w.heap.size, 1, none⟩ (.int .i64 0))) := fun w3 h3 ht a' q2 q3 q4 => by
    have hRv : R = (acc, 0, 0) := by rw [HR.out, ht]; simp [joinR]
    refine hQ a' _ v q2 q3 q4 ?_ ?_ (setCell_high (setCell_high h3.grown (Nat.le_refl _) _ _) (Nat.le_refl _) _ _)
    · rw [hRv]; exact spot_put h3.spot _ _
    · rw [hRv]; exact ownsRow_setCell_below (ownsRow_setCell_below h3.row (by simp) _) (by simp) _
  have HERR : Hid (∀ (w3 : World) (er : Int), (w3.heap[w.heap.size]? = some (.cells #[.int .i64 0, .int .i64 0] 28 (0, 0)) ∧ w.grownBy w3 (some b)) → er ≠ 0 → toksP (strI s) p = ([], er, (p : Int)) → ∀ a' : Act, a'.tmps.getD 2 undef = .slice none 0 0 → a'.tmps.getD 3 undef = .pointer (some ⟨w.heap.size, 0, none⟩) → a'.defers = [] → Q .ret a' ((w3.setCell ⟨w.heap.size, 0, none⟩ (.int .i64 er)).setCell ⟨w.heap.size, 1, none⟩ (.int .i64 p)).drew) := fun w3 er h3 he ht a' q2 q3 q4 => by
    have hRv : R = ([], er, (p : Int)) := by rw [HR.out, ht]; simp [joinR, he]
    refine hQ a' _ (.slice none 0 0) q2 q3 q4 ?_ ?_ (grown_drew1 (setCell_high (setCell_high h3.2 (Nat.le_refl _) _ _) (Nat.le_refl _) _ _))
    · rw [hRv]; exact spot_put h3.1 _ _
    · rw [hRv]; exact World.ownsRow_nil _ _ _ _
  clear hS3 hB3 xf sf zf
  by_cases hlt : p < s.size
  · have hll : p < (strI s).length := by rw [HLen.out]; exact hlt
    have hka : kAt (strI s) p = kindL (nth (strI s) p) := by unfold kAt; rw [if_pos hll]
    rw [hka] at s3
    have hST := fun w3 (h : Scn b s p w3) => step_any b p s w3 h (by omega) (by omega)
    have HMU : Hid (∀ (w3 : World) (a' : Act) (l' : Nat) (X Y : Value), l' ≠ 0 → BoxT w w3 X Y (.int .i64 p) → TokM b s w l' a' w3 < n) := fun w3 a' l' X Y hl hB => by
      unfold TokM
      rw [if_neg hl, box_at hB]
      have := HM.out
      split <;> omega
    rcases kind_cases (nth (strI s) p) with ⟨k, hc⟩ | ⟨k, hc, hnl⟩ | ⟨k, hc⟩ | ⟨k, hc⟩ | ⟨k, hc⟩ | ⟨k, hc⟩ | ⟨k, hc⟩ | ⟨k, hc⟩ | ⟨k, c1, c2, c3, c4, c5, c6, c7, c8⟩
    · have HT : Hid (R = tokRes (strI s) acc 1 p p (runE (strI s) p)) := by show _ = _; rw [HR.out, toks_letter hll hc]; rfl
      have HE : Hid (p + 1 ≤ runE (strI s) p) := runE_gt hll (by simp [runB, hc])
      rw [k] at s3
      obtain ⟨q1, q2⟩ := HBK.out 1
      have Q1 := hide (q1)
      have Q2 := hide (q2)
      clear hc k hka hST HEND HERR HBK q1 q2
      generalize nth (strI s) p = c at s2
      go_wp2_with fail
      go_step3
      exact ⟨⟨p, p, p, p, 1, acc, v, _, ⟨_, rfl, rfl, rfl, rfl, rfl, rfl, rfl⟩, Q1.out, Q2.out, HT.out, fun i h1 h2 => by omega, Nat.le_refl _, Nat.le_refl _, HE.out, by decide, by decide, hacc⟩, HMU.out _ _ 1 _ _ (by decide) Q2.out⟩
    · have hd := digit_not hc
      have hr : runB (nth (strI s) p) = true := by simp [runB, hc]
      have HT : Hid (R = tokRes (strI s) acc 3 p p (runE (strI s) p)) := by show _ = _; rw [HR.out, toks_number hll hnl hd.1 hd.2.1 hd.2.2 (by simp [hc]), runE_step hll hr]; rfl
      have HE : Hid (p + 1 ≤ runE (strI s) p) := runE_gt hll hr
      rw [k] at s3
      obtain ⟨q1, q2⟩ := HBK.out 3
      have Q1 := hide (q1)
      have Q2 := hide (q2)
      clear hc k hka hST HEND HERR HBK q1 q2 hnl hd hr
      generalize nth (strI s) p = c at s2
      go_wp2_with fail
      go_step3
      exact ⟨⟨p, p, p, p, 3, acc, v, _, ⟨_, rfl, rfl, rfl, rfl, rfl, rfl, rfl⟩, Q1.out, Q2.out, HT.out, fun i h1 h2 => by omega, Nat.le_refl _, Nat.le_refl _, HE.out, by decide, by decide, hacc⟩, HMU.out _ _ 1 _ _ (by decide) Q2.out⟩
    · have HT : Hid (R = joinR acc (toksP (strI s) (p + 1))) := by show _ = _; rw [HR.out, toksP_blank hll hc]
      rw [k] at s3
      have hST2 := hST _ HS.out.scn
      clear hc k hka hST HEND HERR HBK
      generalize nth (strI s) p = c at s2
      go_wp2_with fail
      refine hST2.mono ?_
      rintro e w3 ⟨rfl, hSc, hg⟩
      have Q1 := hide (TokS.next hb HS.out hg hSc (by omega))
      have Q2 := hide (BoxT.next hb HB.out hg)
      clear hST2 hSc hg s0 s1 s2 s3 x0 x1 x2 z0 z1
      go_wp2_with fail
      go_step3
      refine ⟨⟨p + 1, acc, v, _, _, _, ⟨_, rfl, rfl, rfl, rfl, rfl, rfl⟩, Q1.out, Q2.out, HT.out, by omega⟩, ?_⟩
      unfold TokM
      rw [if_pos rfl, pos_scn Q1.out.scn]
      have h1 := mul_step (L := s.size) (Nat.le_refl (p + 1)) (by omega)
      have h2 := HM.out
      omega
    · have HT : Hid (R = tokRes (strI s) acc 2 (p + 1) p (runE (strI s) (p + 1))) := by show _ = _; rw [HR.out, toks_percent hll hc]; rfl
      rw [k] at s3
      obtain ⟨q1, q2⟩ := HBK.out 2
      have hST2 := hST _ q1.scn
      have Q1 := hide (q1)
      have Q2 := hide (q2)
      clear hc k hka hST HEND HERR HBK q1 q2
      generalize nth (strI s) p = c at s2
      go_wp2_with fail
      refine hST2.mono ?_
      rintro e w3 ⟨rfl, hSc, hg⟩
      have Q3 := hide (TokS.next hb Q1.out hg hSc (by omega))
      have Q4 := hide (BoxT.next hb Q2.out hg)
      obtain ⟨_, t1, _, _, _⟩ := scn_cells hSc
      rw [show ((p + 1 : Nat) : Int) = (p : Int) + 1 by omega] at t1
      clear hST2 hSc hg s0 s1 s2 s3 x0 x1 x2 z0 z1 Q1 Q2
      go_wp2_with fail
      go_step3
      exact ⟨⟨p + 1, p, p + 1, p + 1, 2, acc, v, _, ⟨_, rfl, rfl, rfl, rfl, rfl, rfl, rfl⟩, Q3.out, Q4.out, HT.out, fun i h1 h2 => by omega, Nat.le_refl _, Nat.le_refl _, runE_ge _ _, by decide, by decide, hacc⟩, HMU.out _ _ 1 _ _ (by decide) Q4.out⟩
    · have HT : Hid (R = tokRes (strI s) acc 3 p p (runE (strI s) (p + 1))) := by show _ = _; rw [HR.out, toks_number hll (by rw [hc]; decide) (by rw [hc]; decide) (by rw [hc]; decide) (by rw [hc]; decide) (by rw [hc]; decide)]; rfl
      rw [k] at s3
      have hST2 := hST _ HS.out.scn
      clear hc k hka hST HEND HERR HBK
      generalize nth (strI s) p = c at s2
      go_wp2_with fail
      refine hST2.mono ?_
      rintro e w3 ⟨rfl, hSc, hg⟩
      have q1 := TokS.next hb HS.out hg hSc (by omega)
      have q2 := BoxT.next hb HB.out hg
      obtain ⟨y0, _, _, yf⟩ := q2.cells
      have y1 := yf 0
      have Q3 := hide (q1.box hb 0 (.int .u8 3))
      have Q4 := hide (q2.set0 (.int .u8 3))
      clear hST2 hSc hg s0 s1 s2 s3 x0 x1 x2 z0 z1 q1 q2 yf
      go_wp2_with fail
      go_step3
      exact ⟨⟨p + 1, p, p, p + 1, 3, acc, v, _, ⟨_, rfl, rfl, rfl, rfl, rfl, rfl, rfl⟩, Q3.out, Q4.out, HT.out, fun i h1 h2 => by omega, by omega, Nat.le_refl _, runE_ge _ _, by decide, by decide, hacc⟩, HMU.out _ _ 1 _ _ (by decide) Q4.out⟩
    · have HT := toks_quote hll hc
      rw [k] at s3
      obtain ⟨q1, q2⟩ := HBK.out 4
      have hQU := quoted_any b p s _ q1.scn hlt (by omega)
      have Q1 := hide (q1)
      have Q2 := hide (q2)
      have HEQ : Hid (∀ t q, quotP (strI s) (p + 1) = some (t, q) → p + 1 + 1 ≤ q ∧ q ≤ s.size) := fun t q h => by have := quotP_end h; rw [HLen.out] at this; exact this
      clear hc k hka hST HBK q1 q2
      generalize nth (strI s) p = c at s2
      cases hq : quotP (strI s) (p + 1) with
      | none =>
        rw [hq] at HT hQU
        have HTT : Hid (toksP (strI s) p = ([], 61, (p : Int))) := HT
        clear HT HEND HEQ
        go_wp2_with fail
        refine hQU.mono ?_
        rintro e w3 ⟨rfl, hg, _⟩
        have q2 := BoxT.next hb Q2.out hg
        obtain ⟨_, y1, _, yf⟩ := q2.cells
        have y2 := yf 1
        have hsp : w3.heap[w.heap.size]? = some (.cells #[.int .i64 0, .int .i64 0] 28 (0, 0)) := (hg.block _ (by have := Q1.out.size; omega) (by simp; omega)).trans Q1.out.spot
        have q3 := q2.set1 (.string ⟨#[]⟩)
        obtain ⟨_, _, y3, _⟩ := q3.cells
        have hsp2 : (w3.setCell ⟨w.heap.size + 1, 1, none⟩ (.string ⟨#[]⟩)).heap[w.heap.size]? = some (.cells #[.int .i64 0, .int .i64 0] 28 (0, 0)) := (Below.heap_setCell _ _ _ _ (by simp)).trans hsp
        have hgr2 : w.grownBy (w3.setCell ⟨w.heap.size + 1, 1, none⟩ (.string ⟨#[]⟩)) (some b) := setCell_high (grown_trans Q1.out.grown hg) (by omega) _ _
        have e0 : (w3.setCell ⟨w.heap.size + 1, 1, none⟩ (.string ⟨#[]⟩)).cell? ⟨w.heap.size, 0, none⟩ = some (.int .i64 0) := by rw [Lib.cell_of_heap hsp2]; rfl
        have e1 : (w3.setCell ⟨w.heap.size + 1, 1, none⟩ (.string ⟨#[]⟩)).cell? ⟨w.heap.size, 1, none⟩ = some (.int .i64 0) := by rw [Lib.cell_of_heap hsp2]; rfl
        have e2 : (w3.setCell ⟨w.heap.size + 1, 1, none⟩ (.string ⟨#[]⟩)).frozen? ⟨w.heap.size, 0, none⟩ = false := Lib.frozen_of_heap hsp2 0
        have e3 : (w3.setCell ⟨w.heap.size + 1, 1, none⟩ (.string ⟨#[]⟩)).frozen? ⟨w.heap.size, 1, none⟩ = false := Lib.frozen_of_heap hsp2 1
        have HSP := hide (And.intro hsp2 hgr2)
        clear hQU hg s0 s1 s2 s3 x0 x1 x2 z0 z1 q2 q3 yf Q1 Q2 hsp hsp2 hgr2
        simp only [quotS, Option.isSome]
        go_wp2_with fail
        generalize w3.setCell ⟨w.heap.size + 1, 1, none⟩ (.string ⟨#[]⟩) = w4 at *
        refine wp_norm ?_
        go_region
        rw [onNormal_normal]
        go_wp2_with fail
        rw [jumps_ret]
        exact HERR.out _ 61 HSP.out (by decide) HTT.out _ rfl rfl rfl
      | some r =>
        obtain ⟨t, q⟩ := r
        rw [hq] at HT hQU
        have HTT : Hid (R = joinR (acc ++ [(4, strOfNums t, (p : Int))]) (toksP (strI s) q)) := by show _ = _; rw [HR.out, HT, join_cons]
        have hqq := HEQ.out t q hq
        clear HT HEND HERR HEQ hq
        go_wp2_with fail
        refine hQU.mono ?_
        rintro e w3 ⟨rfl, hg, hsc⟩
        have q1 := TokS.next hb Q1.out hg (hsc t q rfl) (by omega)
        have q2 := BoxT.next hb Q2.out hg
        obtain ⟨_, y1, _, yf⟩ := q2.cells
        have y2 := yf 1
        have Q3 := hide (q1.box hb 1 (.string (strOfNums t)))
        have Q4 := hide (q2.set1 (.string (strOfNums t)))
        clear hQU hg hsc s0 s1 s2 s3 x0 x1 x2 z0 z1 q1 q2 yf Q1 Q2
        simp only [quotS, Option.isSome]
        go_wp2_with fail
        go_step3
        exact ⟨⟨q, p, 4, strOfNums t, acc, v, ⟨_, rfl, rfl, rfl, rfl, rfl, rfl⟩, Q3.out, Q4.out, HTT.out, by omega, hacc⟩, HMU.out _ _ 2 _ _ (by decide) Q4.out⟩
    · have HT : Hid (R = tokRes (strI s) acc 5 p p (p + 1)) := by show _ = _; rw [HR.out, toks_equal hll hc]; rfl
      rw [k] at s3
      obtain ⟨q1, q2⟩ := HBK.out 5
      have hST2 := hST _ q1.scn
      have Q1 := hide (q1)
      have Q2 := hide (q2)
      clear hc k hka hST HEND HERR HBK q1 q2
      generalize nth (strI s) p = c at s2
      go_wp2_with fail
      refine hST2.mono ?_
      rintro e w3 ⟨rfl, hSc, hg⟩
      have Q3 := hide (TokS.next hb Q1.out hg hSc (by omega))
      have Q4 := hide (BoxT.next hb Q2.out hg)
      clear hST2 hSc hg s0 s1 s2 s3 x0 x1 x2 z0 z1 Q1 Q2
      go_wp2_with fail
      go_step3
      exact ⟨⟨p + 1, p, p, 5, acc, v, _, ⟨_, rfl, rfl, rfl, rfl, rfl, rfl, rfl⟩, Q3.out, Q4.out, HT.out, by omega, Nat.le_refl _, by decide, by decide, hacc⟩, HMU.out _ _ 3 _ _ (by decide) Q4.out⟩
    · have HTT : Hid (toksP (strI s) p = ([], 0, 0)) := toksP_end (fun h => h.2 hc)
      rw [k] at s3
      clear hc k hka hST HERR HBK
      generalize nth (strI s) p = c at s2
      go_wp2_with fail
      rw [jumps_ret]
      exact HEND.out _ HS.out HTT.out _ rfl rfl rfl
    · have HTT : Hid (toksP (strI s) p = ([], 60, (p : Int))) := toks_stray hll c1 c2 c3 c4 c5 c6 c7 c8
      clear c1 c2 c3 c4 c5 c6 c7 c8 hka hST HEND HBK
      rcases k with k | k
      · rw [k] at s3
        clear k
        generalize nth (strI s) p = c at s2
        go_wp2_with fail
        refine wp_norm ?_
        go_region
        rw [onNormal_normal]
        go_wp2_with fail
        rw [jumps_ret]
        exact HERR.out _ 60 ⟨HS.out.spot, HS.out.grown⟩ (by decide) HTT.out _ rfl rfl rfl
      · rw [k] at s3
        clear k
        generalize nth (strI s) p = c at s2
        go_wp2_with fail
        refine wp_norm ?_
        go_region
        rw [onNormal_normal]
        go_wp2_with fail
        rw [jumps_ret]
        exact HERR.out _ 60 ⟨HS.out.spot, HS.out.grown⟩ (by decide) HTT.out _ rfl rfl rfl
  · have HTT : Hid (toksP (strI s) p = ([], 0, 0)) := toksP_end (fun h => by rw [HLen.out] at h; exact hlt h.1)
    have hka : kAt (strI s) p = 0 := by unfold kAt; rw [if_neg (by rw [HLen.out]; exact hlt)]
    rw [hka] at s3
    clear hka HERR HBK
    generalize nth (strI s) p = c at s2
    go_wp2_with fail
    rw [jumps_ret]
    exact HEND.out _ HS.out HTT.out _ rfl rfl rfl

end Go.Proofs.YtddkapkkjhomkabGreatDoor

/-
  What Tokens of the layer lex returns, for every line whose tokens keep to the memory's reach: the tokens in new memory, or what is wrong and where; nothing that was there turns.
-/
namespace Go.Proofs.YtddkapkkjhomkabGreatDoor
open Go.RowKit
set_option maxRecDepth 100000
set_option linter.unusedVariables false
set_option linter.unusedSimpArgs false
attribute [local go_sem] jumps_normal jumps_exit jumps_ret jumps_panic jumps_goto onNormal_normal

set_option maxHeartbeats 4000000 in
theorem scanTokens_any (b p : Nat) (s : ByteArray) (w : World) (h : Scn b s p w) (hp : p ≤ s.size) (hs : 32 * s.size + 64 ≤ 140737488351232) :
    Calls Tryz.prog 34 #[.pointer (some ⟨b, 0, none⟩)] w fun e w' => ∃ v, e = .returned (.tuple #[v, .agg #[.int .i64 (toksP (strI s) p).2.1, .int .i64 (toksP (strI s) p).2.2]]) ∧ w'.ownsRow w.heap.size 41 3 v (toksP (strI s) p).1.length ((toksP (strI s) p).1.flatMap tokC) ∧ w.grownBy w' (some b) := by
  have hblt : b < w.heap.size := (Array.getElem?_eq_some_iff.1 h).1
  obtain ⟨R, hR⟩ : ∃ R, R = toksP (strI s) p := ⟨_, rfl⟩
  rw [← hR]
  have HR : Hid (R = joinR [] (toksP (strI s) p)) := by show _ = _; rw [join_nil]; exact hR
  have HRET : Hid (TokQ b s w R (bodyPost Tryz.prog Tryz.f34 fun e w' => ∃ v, e = .returned (.tuple #[v, .agg #[.int .i64 R.2.1, .int .i64 R.2.2]]) ∧ w'.ownsRow w.heap.size 41 3 v R.1.length (R.1.flatMap tokC) ∧ w.grownBy w' (some b))) := by
    intro a' w' v q2 q3 q4 q5 q6 q7
    have c0 : w'.cell? ⟨w.heap.size, 0, none⟩ = some (.int .i64 R.2.1) := by rw [Lib.cell_of_heap q5]; rfl
    have c1 : w'.cell? ⟨w.heap.size, 1, none⟩ = some (.int .i64 R.2.2) := by rw [Lib.cell_of_heap q5]; rfl
    refine bodyPost_ret (v := .tuple #[v, .agg #[.int .i64 R.2.1, .int .i64 R.2.2]]) ?_ q4 ⟨v, rfl, ?_, q7⟩
    · simp only [results, Tryz.results34]
      have q2' : a'.tmps[2]?.getD undef = v := by rw [← Array.getD_eq_getD_getElem?]; exact q2
      have q3' : a'.tmps[3]?.getD undef = .pointer (some ⟨w.heap.size, 0, none⟩) := by rw [← Array.getD_eq_getD_getElem?]; exact q3
      simp [go_sem, q2', q3', c0, c1]
    · refine ⟨q6.1, ?_⟩
      rcases q6.2 with hn | ⟨g, cap, cur, e1, e2, rest⟩
      · exact .inl hn
      · exact .inr ⟨g, cap, cur, e1, by omega, rest⟩
  have HS : Hid (TokS b s w p [] (.slice none 0 0) ((w.alloc (.cells #[.int .i64 0, .int .i64 0] 28)).alloc (.cells #[.int .u8 0, .string ⟨#[]⟩, .int .i64 0] 41))) := by
    refine ⟨?_, ?_, World.ownsRow_nil _ _ _ _, grown_trans (World.grownBy_alloc _ _ _) (World.grownBy_alloc _ _ _), by simp, hp⟩
    · show ((w.alloc _).alloc _).heap[b]? = _
      rw [Below.heap_alloc _ _ _ (by simp; omega), Below.heap_alloc _ _ _ hblt]; exact h
    · rw [Below.heap_alloc _ _ _ (by simp)]; exact heap_alloc_new w _
  have HB : Hid (BoxT w ((w.alloc (.cells #[.int .i64 0, .int .i64 0] 28)).alloc (.cells #[.int .u8 0, .string ⟨#[]⟩, .int .i64 0] 41)) (.int .u8 0) (.string ⟨#[]⟩) (.int .i64 0)) := by
    have e : (w.alloc (.cells #[.int .i64 0, .int .i64 0] 28)).heap.size = w.heap.size + 1 := by simp
    show (World.alloc _ _).heap[w.heap.size + 1]? = _
    rw [← e]; exact heap_alloc_new _ _
  clear h hR
  go_enter Tryz.func34, Tryz.ntmps34
  go_wp2_with fail
  refine wp_scope_ranked (TokJ b s w R) (TokM b s w) (fun l => if l = 2 then 0 else if l = 3 then 1 else if l = 1 then 2 else 3) ?hf ?pass ?first
  case hf =>
    intro l a w1 hJ
    match l, hJ with
    | 0, _ => rfl
    | 1, _ => rfl
    | 2, _ => rfl
    | 3, _ => rfl
  case first =>
    intro hP
    go_wp2_with fail
    refine wp_label ?_
    rename_i Kx hKx
    exact hKx _ _ (hP 0 _ _ ⟨p, [], .slice none 0 0, _, _, _, ⟨_, rfl, rfl, rfl, rfl, rfl, rfl⟩, HS.out, HB.out, HR.out, Nat.zero_le _⟩)
  case pass =>
    intro l hprev N a w1 hJ hN
    match l, hJ with
    | 0, hJ => exact tok_between b s w R _ hblt hs HRET.out N a w1 hJ hN
    | 1, hJ => exact tok_run b s w R _ hblt hs (hprev 3 (by decide)) N a w1 hJ hN
    | 2, hJ => exact tok_taken b s w R _ hblt hs N a w1 hJ hN
    | 3, hJ => exact tok_whole b s w R _ hblt hs HRET.out (hprev 2 (by decide)) N a w1 hJ hN

theorem tokens_any (s : ByteArray) (w : World) (hs : 32 * s.size + 64 ≤ 140737488351232) :
    Calls Tryz.prog 13 #[.string s] w fun e w' => ∃ v, e = .returned (.tuple #[v, .agg #[.int .i64 (toksP (strI s) 0).2.1, .int .i64 (toksP (strI s) 0).2.2]]) ∧ w'.ownsRow w.heap.size 41 3 v (toksP (strI s) 0).1.length ((toksP (strI s) 0).1.flatMap tokC) ∧ Below w.heap.size w w' := by
  have e : (w.alloc (.cells #[.int .i64 0, .int .i64 0] 28)).heap.size = w.heap.size + 1 := by simp
  have hcell : ((w.alloc (.cells #[.int .i64 0, .int .i64 0] 28)).alloc (.cells #[.string s, .int .i64 0, .int .u8 0, .int .u8 0] 80)).heap[w.heap.size + 1]? = some (scnC s 0 (.int .u8 0) (.int .u8 0)) := by
    rw [← e]; exact heap_alloc_new _ _
  have hspot : ((w.alloc (.cells #[.int .i64 0, .int .i64 0] 28)).alloc (.cells #[.string s, .int .i64 0, .int .u8 0, .int .u8 0] 80)).heap[w.heap.size]? = some (.cells #[.int .i64 0, .int .i64 0] 28 (0, 0)) := by
    rw [Below.heap_alloc _ _ _ (by simp)]; exact heap_alloc_new w _
  have hbel : Below w.heap.size w ((w.alloc (.cells #[.int .i64 0, .int .i64 0] 28)).alloc (.cells #[.string s, .int .i64 0, .int .u8 0, .int .u8 0] 80)) := ((Below.refl _ w).alloc (Nat.le_refl _) _).alloc (by simp) _
  have hsz : w.heap.size + 2 ≤ ((w.alloc (.cells #[.int .i64 0, .int .i64 0] 28)).alloc (.cells #[.string s, .int .i64 0, .int .u8 0, .int .u8 0] 80)).heap.size := by simp
  have hLK := look_any (w.heap.size + 1) 0 s _ _ _ hcell (by omega) (by omega)
  clear e hcell
  go_enter Tryz.func13, Tryz.ntmps13
  go_wp2_with fail
  generalize (w.alloc (.cells #[.int .i64 0, .int .i64 0] 28)).alloc (.cells #[.string s, .int .i64 0, .int .u8 0, .int .u8 0] 80) = W0 at *
  refine hLK.mono ?_
  rintro e w1 ⟨rfl, hS1, hg1⟩
  have hTK := scanTokens_any (w.heap.size + 1) 0 s w1 hS1 (Nat.zero_le _) hs
  clear hLK
  go_wp2_with fail
  refine hTK.mono ?_
  rintro e w2 ⟨v, rfl, hrow, hg2⟩
  have hs1 := hg1.size
  have hs2 := hg2.size
  have hsp2 : w2.heap[w.heap.size]? = some (.cells #[.int .i64 0, .int .i64 0] 28 (0, 0)) := (hg2.block _ (by omega) (by simp)).trans ((hg1.block _ (by omega) (by simp)).trans hspot)
  have hb2 : Below w.heap.size w w2 := (hbel.grown hg1 (by omega) (fun k e => by simp at e; omega)).grown hg2 (by omega) (fun k e => by simp at e; omega)
  have hrow2 : w2.ownsRow (w.heap.size + 1) 41 3 v (toksP (strI s) 0).1.length ((toksP (strI s) 0).1.flatMap tokC) := by
    refine ⟨hrow.1, ?_⟩
    rcases hrow.2 with hn | ⟨g, cap, cur, e1, e2, rest⟩
    · exact .inl hn
    · exact .inr ⟨g, cap, cur, e1, by omega, rest⟩
  generalize her : (toksP (strI s) 0).2.1 = er at *
  generalize hat : (toksP (strI s) 0).2.2 = at_ at *
  have HER := hide her
  have HAT := hide hat
  clear her hat
  have z0 : w2.cell? ⟨w.heap.size, 0, none⟩ = some (.int .i64 0) := by rw [Lib.cell_of_heap hsp2]; rfl
  have z1 : w2.cell? ⟨w.heap.size, 1, none⟩ = some (.int .i64 0) := by rw [Lib.cell_of_heap hsp2]; rfl
  have f0 : w2.frozen? ⟨w.heap.size, 0, none⟩ = false := Lib.frozen_of_heap hsp2 0
  have f1 : w2.frozen? ⟨w.heap.size, 1, none⟩ = false := Lib.frozen_of_heap hsp2 1
  have hsp3 := spot_put hsp2 (.int .i64 er) (.int .i64 at_)
  have hrow3 := ownsRow_setCell_below (ownsRow_setCell_below hrow2 (a := ⟨w.heap.size, 0, none⟩) (by simp) (.int .i64 er)) (a := ⟨w.heap.size, 1, none⟩) (by simp) (.int .i64 at_)
  have hb3 := (hb2.setCell (p := ⟨w.heap.size, 0, none⟩) (Nat.le_refl _) (.int .i64 er)).setCell (p := ⟨w.heap.size, 1, none⟩) (Nat.le_refl _) (.int .i64 at_)
  have HSP := hide hsp3
  have HROW := hide hrow3
  have HB3 := hide hb3
  clear hTK hrow hrow2 hsp2 hsp3 hrow3 hb3 hb2 hspot hbel hg1 hg2 hS1
  go_wp2_with fail
  generalize (w2.setCell ⟨w.heap.size, 0, none⟩ (.int .i64 er)).setCell ⟨w.heap.size, 1, none⟩ (.int .i64 at_) = w3 at *
  have c0 : w3.cell? ⟨w.heap.size, 0, none⟩ = some (.int .i64 er) := by rw [Lib.cell_of_heap HSP.out]; rfl
  have c1 : w3.cell? ⟨w.heap.size, 1, none⟩ = some (.int .i64 at_) := by rw [Lib.cell_of_heap HSP.out]; rfl
  refine bodyPost_ret (v := .tuple #[v, .agg #[.int .i64 er, .int .i64 at_]]) ?_ rfl ⟨v, by rw [HER.out, HAT.out], ?_, HB3.out⟩
  · simp only [results, Tryz.results13]
    simp [go_sem, c0, c1]
  · refine ⟨HROW.out.1, ?_⟩
    rcases HROW.out.2 with hn | ⟨g, cap, cur, e1, e2, rest⟩
    · exact .inl hn
    · exact .inr ⟨g, cap, cur, e1, by omega, rest⟩

end Go.Proofs.YtddkapkkjhomkabGreatDoor
