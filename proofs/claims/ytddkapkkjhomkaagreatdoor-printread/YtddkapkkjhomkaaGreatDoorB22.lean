/-
  Texts laid together in one: AsmRowOf, AsmBuilder, AsmAddInst, AsmLineF, AsmAdd, MathO, MathP, StringsCut.
-/
import Derived.WalkSpells
import Derived.WalkMore
import Derived.BigRegion
import Derived.Test.YtddkapkkjhomkaaGreatDoorProg
import Derived.Test.YtddkapkkjhomkaaGreatDoorB15
import Derived.Test.YtddkapkkjhomkaaGreatDoorB21
import Derived.Deep.RegionLaw
import Derived.Deep.AppendLies
import Derived.Test.YtddkapkkjhomkaaGreatDoorB18
import Derived.Test.YtddkapkkjhomkaaGreatDoorB19
import Derived.Test.YtddkapkkjhomkaaGreatDoorB07
import Derived.Test.YtddkapkkjhomkaaGreatDoorB11
import Derived.Shelf.RegionOpen
import Derived.OwnWalk
/-
  What rowOf of the layer asm returns: a line's tokens as a row.
-/
namespace Go.Proofs.YtddkapkkjhomkaaGreatDoor
open Go.RowKit
set_option linter.unusedVariables false
set_option linter.unusedSimpArgs false
set_option maxRecDepth 10000

theorem own_shape7 {w : World} {B e size n : Nat} {v : Value} {xs : List Value} (h : w.ownsRow B e size v n xs) : ∃ a c, v = .slice a n c := by
  rcases h.2 with ⟨rfl, h0⟩ | ⟨g, cap, cur, rfl, _⟩
  · exact ⟨none, 0, by rw [h0]⟩
  · exact ⟨_, _, rfl⟩
theorem own_mono7 {w : World} {B B' e size n : Nat} {v : Value} {xs : List Value} (h : w.ownsRow B e size v n xs) (hB : B' ≤ B) : w.ownsRow B' e size v n xs := by
  refine ⟨h.1, ?_⟩
  rcases h.2 with hn | ⟨g, cap, cur, e1, e2, rest⟩
  · exact .inl hn
  · exact .inr ⟨g, cap, cur, e1, Nat.le_trans hB e2, rest⟩
/-- Tokens in memory of their own. -/
theorem toks_of_own {w : World} {B n c : Nat} {a : Option Addr} {l : List TokT} (h : w.ownsRow B 106 3 (.slice a n c) n (l.flatMap tokC)) (hl : l.length = n) : ToksV w a l ∧ ∀ b off, a = some ⟨b, off, none⟩ → B ≤ b ∧ b < w.heap.size := by
  have hh := h
  rcases h.2 with ⟨e, h0⟩ | ⟨g, cap, cur, e, h1, hg, _⟩
  · simp only [Value.slice.injEq] at e
    obtain ⟨rfl, rfl, rfl⟩ := e
    have : l = [] := List.length_eq_zero_iff.1 hl
    subst this
    exact ⟨toksV_nil, fun b off e => by simp at e⟩
  · simp only [Value.slice.injEq, true_and] at e
    obtain ⟨rfl, rfl⟩ := e
    refine ⟨ToksV.ofRow hh hl, fun b off e => ?_⟩
    simp only [Option.some.injEq, Addr.mk.injEq] at e
    obtain ⟨rfl, _, _⟩ := e
    exact ⟨h1, (Array.getElem?_eq_some_iff.1 hg).1⟩

set_option maxHeartbeats 2000000 in
theorem rowOf_any (s : ByteArray) (w : World) (hs : 32 * s.size + 64 ≤ 140737488351232) :
    Calls Tryz.prog 80 #[.string s] w fun e w' => ∃ a c, e = .returned (.tuple #[.agg #[.slice a (toksP (strI s) 0).1.length c, .int .i64 0, .int .i64 (s.size : Int)], .agg #[.int .i64 (toksP (strI s) 0).2.1, .int .i64 (toksP (strI s) 0).2.2]]) ∧ w'.ownsRow w.heap.size 106 3 (.slice a (toksP (strI s) 0).1.length c) (toksP (strI s) 0).1.length ((toksP (strI s) 0).1.flatMap tokC) ∧ Below w.heap.size w w' := by
  have hT := fun wx => tokens_any s wx hs
  obtain ⟨R, hR⟩ : ∃ R, R = toksP (strI s) 0 := ⟨_, rfl⟩
  rw [← hR] at hT ⊢
  clear hR
  obtain ⟨l, er, at_⟩ := R
  simp only at hT ⊢
  have kT : ((w.alloc (.cells #[.slice none 0 0, .int .i64 0, .int .i64 0] 134)).alloc (.cells #[.int .i64 0, .int .i64 0] 28)).heap[w.heap.size]? = some (.cells #[.slice none 0 0, .int .i64 0, .int .i64 0] 134 (0, 0)) := (Below.heap_alloc _ _ _ (by simp)).trans (heap_alloc_new w _)
  have kS : ((w.alloc (.cells #[.slice none 0 0, .int .i64 0, .int .i64 0] 134)).alloc (.cells #[.int .i64 0, .int .i64 0] 28)).heap[w.heap.size + 1]? = some (.cells #[.int .i64 0, .int .i64 0] 28 (0, 0)) := by simpa using heap_alloc_new (w.alloc (.cells #[.slice none 0 0, .int .i64 0, .int .i64 0] 134)) (.cells #[.int .i64 0, .int .i64 0] 28)
  have hb : Below w.heap.size w ((w.alloc (.cells #[.slice none 0 0, .int .i64 0, .int .i64 0] 134)).alloc (.cells #[.int .i64 0, .int .i64 0] 28)) := ((Below.refl _ w).alloc (Nat.le_refl _) _).alloc (by simp) _
  go_enter Tryz.func80, Tryz.ntmps80
  go_wp2_with fail
  generalize (w.alloc (.cells #[.slice none 0 0, .int .i64 0, .int .i64 0] 134)).alloc (.cells #[.int .i64 0, .int .i64 0] 28) = W at *
  refine (hT _).mono ?_
  rintro e w1 ⟨v1, rfl, hrow, hb1⟩
  obtain ⟨a1, c1, rfl⟩ := own_shape7 hrow
  have sS := (Array.getElem?_eq_some_iff.1 kS).1
  have hba : Below w1.heap.size w1 (w1.alloc (.cells #[.int .i64 er, .int .i64 at_] 28)) := (Below.refl _ w1).alloc (Nat.le_refl _) _
  have hb1a := hb1.trans (hba.mono hb1.size)
  have HT := hide ((hb1a.block _ (by omega)).trans kT)
  have HS := hide ((hb1a.block _ sS).trans kS)
  have HB := hide (hb.trans (hb1a.mono hb.size))
  have HO := hide (own_below hrow hba)
  have HK := hide (heap_alloc_new w1 (.cells #[.int .i64 er, .int .i64 at_] 28))
  have s1 : w.heap.size + 1 < w1.heap.size := Nat.lt_of_lt_of_le sS hb1.size
  clear hT hrow hb1 hba hb1a kT kS hb
  go_wp2_with fail
  generalize w1.alloc (.cells #[.int .i64 er, .int .i64 at_] 28) = W2 at *
  obtain ⟨ct, ft⟩ := blk_cells HT.out
  obtain ⟨cp, fp⟩ := blk_cells HS.out
  obtain ⟨ck, _⟩ := blk_cells HK.out
  have t0 := ct 0
  have t1 := ct 1
  have t2 := ct 2
  have p0 := cp 0
  have p1 := cp 1
  have k0 := ck 0
  have k1 := ck 1
  have n1 : w1.heap.size ≠ w.heap.size := by omega
  have n2 : w1.heap.size ≠ w.heap.size + 1 := by omega
  obtain ⟨x1, x2, x3⟩ := five_drew HT.out HS.out (.slice a1 l.length c1) (.int .i64 0) (.int .i64 (s.size : Int)) (.int .i64 er) (.int .i64 at_)
  have hOX : (((((((W2.setCell ⟨w.heap.size, 0, none⟩ (.slice a1 l.length c1)).setCell ⟨w.heap.size, 1, none⟩ (.int .i64 0)).setCell ⟨w.heap.size, 2, none⟩ (.int .i64 (s.size : Int))).setCell ⟨w.heap.size + 1, 0, none⟩ (.int .i64 er)).setCell ⟨w.heap.size + 1, 1, none⟩ (.int .i64 at_))).drew).ownsRow w.heap.size 106 3 (.slice a1 l.length c1) l.length (l.flatMap tokC) := by
    have hlt := sS
    have h5 := ownsRow_setCell_below (ownsRow_setCell_below (ownsRow_setCell_below (ownsRow_setCell_below (ownsRow_setCell_below HO.out (a := ⟨w.heap.size, 0, none⟩) (by simp; omega) (.slice a1 l.length c1)) (a := ⟨w.heap.size, 1, none⟩) (by simp; omega) (.int .i64 0)) (a := ⟨w.heap.size, 2, none⟩) (by simp; omega) (.int .i64 (s.size : Int))) (a := ⟨w.heap.size + 1, 0, none⟩) (by simp; omega) (.int .i64 er)) (a := ⟨w.heap.size + 1, 1, none⟩) (by simp; omega) (.int .i64 at_)
    generalize (((((W2.setCell ⟨w.heap.size, 0, none⟩ (.slice a1 l.length c1)).setCell ⟨w.heap.size, 1, none⟩ (.int .i64 0)).setCell ⟨w.heap.size, 2, none⟩ (.int .i64 (s.size : Int))).setCell ⟨w.heap.size + 1, 0, none⟩ (.int .i64 er)).setCell ⟨w.heap.size + 1, 1, none⟩ (.int .i64 at_)) = Y at *
    exact own_mono7 (own_below h5 (Below.refl _ _).drew) (by omega)
  have HOX := hide hOX
  have HY := hide (HB.out.trans x3)
  have HY1 := hide x1
  have HY2 := hide x2
  clear x1 x2 x3 ct cp ck HT HS HK HO HB hOX
  go_region
  generalize ((((((W2.setCell ⟨w.heap.size, 0, none⟩ (.slice a1 l.length c1)).setCell ⟨w.heap.size, 1, none⟩ (.int .i64 0)).setCell ⟨w.heap.size, 2, none⟩ (.int .i64 (s.size : Int))).setCell ⟨w.heap.size + 1, 0, none⟩ (.int .i64 er)).setCell ⟨w.heap.size + 1, 1, none⟩ (.int .i64 at_))).drew = X at *
  clear t0 t1 t2 p0 p1 k0 k1 ft fp
  go_wp2
  obtain ⟨e1, _⟩ := blk_cells HY1.out
  obtain ⟨e2, _⟩ := blk_cells HY2.out
  have a0 := e1 0
  have a1' := e1 1
  have a2 := e1 2
  have b0 := e2 0
  have b1 := e2 1
  refine bodyPost_ret (v := .tuple #[.agg #[.slice a1 l.length c1, .int .i64 0, .int .i64 (s.size : Int)], .agg #[.int .i64 er, .int .i64 at_]]) ?_ rfl ⟨a1, c1, rfl, HOX.out, HY.out⟩
  simp [results, Tryz.results80, go_sem, a0, a1', a2, b0, b1]

end Go.Proofs.YtddkapkkjhomkaaGreatDoor

/-
  What the methods headed and addHead of a builder return, of the layer asm.
-/
namespace Go.Proofs.YtddkapkkjhomkaaGreatDoor
open Go.RowKit
set_option linter.unusedVariables false
set_option linter.unusedSimpArgs false
set_option maxRecDepth 10000

/-- A builder in memory. -/
def MBld (w : World) (B : Nat) (gen bnd : Int) (v : Value) (wd : Int) : Prop := w.heap[B]? = some (.cells #[.int .u32 gen, .int .u32 bnd, v, .int .i64 wd] 72 (0, 0))
theorem MBld.lt {w : World} {B : Nat} {gen bnd : Int} {v : Value} {wd : Int} (h : MBld w B gen bnd v wd) : B < w.heap.size := (Array.getElem?_eq_some_iff.1 h).1
theorem MBld.below {w w' : World} {B : Nat} {gen bnd : Int} {v : Value} {wd : Int} (h : MBld w B gen bnd v wd) (hb : Below w.heap.size w w') : MBld w' B gen bnd v wd := (hb.block _ h.lt).trans h
theorem MBld.setWords {w : World} {B : Nat} {gen bnd : Int} {v : Value} {wd : Int} (h : MBld w B gen bnd v wd) (x : Int) : MBld (w.setCell ⟨B, 3, none⟩ (.int .i64 x)) B gen bnd v x := by
  unfold MBld at *; simp [World.setCell, Array.getElem?_modify, h]
theorem MBld.setInsts {w : World} {B : Nat} {gen bnd : Int} {v : Value} {wd : Int} (h : MBld w B gen bnd v wd) (x : Value) : MBld (w.setCell ⟨B, 2, none⟩ x) B gen bnd x wd := by
  unfold MBld at *; simp [World.setCell, Array.getElem?_modify, h]

/-- All blocks that were there, but one and a row's, are as they were. -/
structure Two (w : World) (B : Nat) (ob : Option Nat) (w' : World) : Prop where
  os : w'.os = w.os
  tape : w'.tape = w.tape
  output : w'.output = w.output
  size : w.heap.size ≤ w'.heap.size
  block : ∀ k, k < w.heap.size → k ≠ B → some k ≠ ob → w'.heap[k]? = w.heap[k]?
theorem Two.of_grown {w w' : World} {B : Nat} {ob : Option Nat} (h : w.grownBy w' (some B)) : Two w B ob w' := ⟨h.os, h.tape, h.output, h.size, fun k hk hB _ => h.block k hk (by simpa using hB)⟩
theorem Two.of_below {w w' : World} {B : Nat} {ob : Option Nat} (h : Below w.heap.size w w') : Two w B ob w' := ⟨h.os, h.tape, h.output, h.size, fun k hk _ _ => h.block k hk⟩

set_option maxHeartbeats 1000000 in
theorem headed_any (B : Nat) (gen bnd : Int) (v : Value) (wd : Int) (w : World) (h : MBld w B gen bnd v wd) :
    Calls Tryz.prog 41 #[.pointer (some ⟨B, 0, none⟩)] w fun e w' => e = .returned (.bool (decide (0 < wd))) ∧ w = w' := by
  have c3 : w.cell? ⟨B, 3, none⟩ = some (.int .i64 wd) := (blk_cells h).1 3
  clear h
  go_enter Tryz.func41, Tryz.ntmps41
  go_wp2
  go_ret
  exact ⟨rfl, rfl⟩

set_option maxHeartbeats 4000000 in
theorem addHead_any (B : Nat) (gen bnd : Int) (v : Value) (wd : Int) (a : Option Addr) (n c : Nat) (len : Int) (l : List TokT) (w : World) (h : MBld w B gen bnd v wd) (hv : ToksV w a l) (hl : l.length = n) (hn : 32 * n ≤ 140737488351232) (hin : ToksIn l) (hfar : ∀ b off, a = some ⟨b, off, none⟩ → b < w.heap.size) :
    Calls Tryz.prog 82 #[.pointer (some ⟨B, 0, none⟩), .agg #[.slice a n c, .int .i64 0, .int .i64 len]] w fun e w' => e = .returned (.int .i64 (headP l len).2.2.1) ∧ w.grownBy w' (some B) ∧ ((headP l len).2.2.1 = 0 → MBld w' B (headP l len).1 (headP l len).2.1 (.slice none 0 0) 5) := by
  have hba : Below w.heap.size w (w.alloc (.cells #[.slice a n c, .int .i64 0, .int .i64 len] 134)) := (Below.refl _ w).alloc (Nat.le_refl _) _
  have hR : RowAt (w.alloc (.cells #[.slice a n c, .int .i64 0, .int .i64 len] 134)) w.heap.size a n c 0 len #[] 134 := heap_alloc_new w _
  have hH := rowHead_any w.heap.size a n c len #[] 134 l _ hR (hv.below hba) hl hn hin (fun b off e => by have := hfar b off e; exact ⟨by omega, by simp; omega⟩)
  have hB := h.lt
  have HB := hide (h.below hba)
  have HBA := hide hba
  generalize headP l len = R at *
  obtain ⟨H1, H2, H3, H4⟩ := R
  simp only at hH ⊢
  have HSZ : Hid (w.heap.size < (w.alloc (.cells #[.slice a n c, .int .i64 0, .int .i64 len] 134)).heap.size) := by show _ < _; simp
  clear hba hR h hv hl hn hin hfar
  go_enter Tryz.func82, Tryz.ntmps82
  go_wp2_with fail
  generalize w.alloc (.cells #[.slice a n c, .int .i64 0, .int .i64 len] 134) = W at *
  refine hH.mono ?_
  rintro x w1 ⟨rfl, hg1⟩
  have hs := HSZ.out
  have hs1 := hg1.size
  have hB1 : MBld w1 B gen bnd v wd := (hg1.block B (by omega) (by simp; omega)).trans HB.out
  have hG1 : w.grownBy w1 (some B) := ⟨hg1.os.trans HBA.out.os, hg1.tape.trans HBA.out.tape, hg1.output.trans HBA.out.output, Nat.le_trans HBA.out.size hg1.size, fun k hk _ => (hg1.block k (by omega) (by simp; omega)).trans (HBA.out.block k hk)⟩
  have hba : Below w1.heap.size w1 ((w1.alloc (.cells #[.int .u32 H1, .int .u32 H2] 80)).alloc (.cells #[.int .i64 H3, .int .i64 H4] 28)) := ((Below.refl _ w1).alloc (Nat.le_refl _) _).alloc (by simp) _
  have HG2 := hide (grown_bel hG1 hba)
  obtain ⟨cb, fb⟩ := blk_cells hB1
  have b0 := cb 0
  have b1 := cb 1
  have b2 := cb 2
  have b3 := cb 3
  have HX : Hid (MBld ((((w1.setCell ⟨B, 0, none⟩ (.int .u32 H1)).setCell ⟨B, 1, none⟩ (.int .u32 H2)).setCell ⟨B, 2, none⟩ (.slice none 0 0)).setCell ⟨B, 3, none⟩ (.int .i64 5)) B H1 H2 (.slice none 0 0) 5 ∧ w.grownBy ((((w1.setCell ⟨B, 0, none⟩ (.int .u32 H1)).setCell ⟨B, 1, none⟩ (.int .u32 H2)).setCell ⟨B, 2, none⟩ (.slice none 0 0)).setCell ⟨B, 3, none⟩ (.int .i64 5)) (some B)) := by
    refine ⟨?_, grown_set (grown_set (grown_set (grown_set hG1 0 _) 1 _) 2 _) 3 _⟩
    have hB1' : w1.heap[B]? = some (.cells #[.int .u32 gen, .int .u32 bnd, v, .int .i64 wd] 72 (0, 0)) := hB1
    unfold MBld
    simp [World.setCell, Array.getElem?_modify, hB1']
  have hlb : B < w1.heap.size := by omega
  clear hH hs hs1 hB1 hG1 hba hg1 HB HBA cb
  by_cases hE : H3 = 0
  · subst hE
    go_wp2_with fail
    generalize (((w1.setCell ⟨B, 0, none⟩ (.int .u32 H1)).setCell ⟨B, 1, none⟩ (.int .u32 H2)).setCell ⟨B, 2, none⟩ (.slice none 0 0)).setCell ⟨B, 3, none⟩ (.int .i64 5) = X at *
    have hbx : Below X.heap.size X ((X.alloc (.cells #[.int .u32 H1, .int .u32 H2] 80)).alloc (.cells #[.int .i64 0, .int .i64 H4] 28)) := ((Below.refl _ X).alloc (Nat.le_refl _) _).alloc (by simp) _
    go_ret
    exact ⟨rfl, grown_bel HX.out.2 hbx, HX.out.1.below hbx⟩
  · have hE' : (H3 != 0) = true := by simpa using hE
    have HE := hide hE
    clear hE
    go_wp2_with fail
    go_ret
    exact ⟨rfl, HG2.out, fun h => absurd h HE.out⟩

end Go.Proofs.YtddkapkkjhomkaaGreatDoor

/-
  What the method addInst of a builder returns, of the layer asm.
-/
namespace Go.Proofs.YtddkapkkjhomkaaGreatDoor
open Go.RowKit
set_option linter.unusedVariables false
set_option linter.unusedSimpArgs false
set_option maxRecDepth 10000

theorem Inst7.info : (Tryz.prog.info? 38).map (fun i => (i.zero, i.size, i.bytes)) = some (some (.agg #[.int .u16 0, .int .u32 0, .int .u32 0, .slice none 0 0]), 4, 40) := by kernel_rfl

/-- The instructions so far, each with arguments of its own, from block lo on; the builder lies ahead of them. -/
structure Insts (w : World) (B lo : Nat) (v : Value) (xs : List InstT) : Prop where
  row : ∃ cs, w.ownsRow lo 38 4 v xs.length cs ∧ RowI w lo v.ownBlock xs cs
  lt : B < lo
  le : lo ≤ w.heap.size

/-- What holds behind an instruction that is added. -/
def AddQ (w w' : World) (B lo : Nat) (gen bnd : Int) (v : Value) (wd : Int) (xs : List InstT) (R : LineR) (E : Int) : Prop :=
  (E ≠ 0 ∧ R.2.1 = false ∧ E = R.2.2.1) ∨ (E = 4 ∧ R.2.1 = true ∧ 1048576 < wd + (1 + ((rawWs R.1 bnd).length : Int))) ∨
  (E = 0 ∧ R.2.1 = true ∧ InstOk R.1 ∧ rawE R.1 bnd = 0 ∧ wd + (1 + ((rawWs R.1 bnd).length : Int)) ≤ 1048576 ∧ ∃ v', MBld w' B gen bnd v' (wd + (1 + ((rawWs R.1 bnd).length : Int))) ∧ Insts w' B lo v' (xs ++ [R.1]))

set_option maxHeartbeats 8000000 in
theorem addInst_any (B lo : Nat) (gen bnd : Int) (v : Value) (wd : Int) (xs : List InstT) (a : Option Addr) (n c : Nat) (len : Int) (l : List TokT) (w : World) (h : MBld w B gen bnd v wd) (hi : Insts w B lo v xs) (hw0 : 0 ≤ wd) (hw1 : wd ≤ 1048576) (hx : xs.length ≤ 16777216) (hv : ToksV w a l) (hl : l.length = n) (hn : 32 * n ≤ 140737488351232) (hin : ToksIn l) (hkd : ∀ t ∈ l, t.1 ≠ 0) (h1 : 0 < n) (hfar : ∀ b off, a = some ⟨b, off, none⟩ → b < w.heap.size) :
    Calls Tryz.prog 83 #[.pointer (some ⟨B, 0, none⟩), .agg #[.slice a n c, .int .i64 0, .int .i64 len]] w fun e w' => ∃ E : Int, e = .returned (.int .i64 E) ∧ Two w B v.ownBlock w' ∧ AddQ w w' B lo gen bnd v wd xs (lineP l len bnd) E := by
  obtain ⟨R, hRR⟩ : ∃ R, R = lineP l len bnd := ⟨_, rfl⟩
  rw [← hRR]
  have HRR0 := hide hRR
  clear hRR
  have hba : Below w.heap.size w (w.alloc (.cells #[.slice a n c, .int .i64 0, .int .i64 len] 134)) := (Below.refl _ w).alloc (Nat.le_refl _) _
  have hB := h.lt
  have HB := hide (h.below hba)
  have HV := hide (hv.below hba)
  have HBA := hide hba
  have HI := hide hi
  have HIN := hide hin
  have HKD := hide hkd
  have HFAR := hide hfar
  have r0 : (w.alloc (.cells #[.slice a n c, .int .i64 0, .int .i64 len] 134)).cell? ⟨w.heap.size, 0, none⟩ = some (.slice a n c) := (blk_cells (heap_alloc_new w _)).1 0
  have r1 : (w.alloc (.cells #[.slice a n c, .int .i64 0, .int .i64 len] 134)).cell? ⟨w.heap.size, 1, none⟩ = some (.int .i64 0) := (blk_cells (heap_alloc_new w _)).1 1
  have r2 : (w.alloc (.cells #[.slice a n c, .int .i64 0, .int .i64 len] 134)).cell? ⟨w.heap.size, 2, none⟩ = some (.int .i64 len) := (blk_cells (heap_alloc_new w _)).1 2
  have HR := hide (And.intro r0 (And.intro r1 r2))
  have b1 : (w.alloc (.cells #[.slice a n c, .int .i64 0, .int .i64 len] 134)).cell? ⟨B, 1, none⟩ = some (.int .u32 bnd) := (blk_cells HB.out).1 1
  have HB1 := hide b1
  have HSZ : Hid (w.heap.size < (w.alloc (.cells #[.slice a n c, .int .i64 0, .int .i64 len] 134)).heap.size) := by show _ < _; simp
  clear hba h hv hin hkd hfar hi r0 r1 r2 b1
  go_enter Tryz.func83, Tryz.ntmps83
  go_wp2_with fail
  generalize w.alloc (.cells #[.slice a n c, .int .i64 0, .int .i64 len] 134) = W at *
  obtain ⟨r0, r1, r2⟩ := HR.out
  have b1 := HB1.out
  have lB : B < W.heap.size := HB.out.lt
  have lw := HSZ.out
  go_region
  have hba2 : Below W.heap.size W (W.alloc (.cells #[.slice a n c, .int .i64 0, .int .i64 len, .int .u32 bnd, .int .u16 0, .string ⟨#[]⟩, .bool false, .bool false, .string ⟨#[]⟩, .string ⟨#[]⟩, .int .i64 0, .int .u8 0, .int .u16 0, .int .u32 0, .int .u32 0, .slice none 0 0, .int .i64 0] 197)).drew := ((Below.refl _ W).alloc (Nat.le_refl _) _).drew
  have hrd : Rea (W.alloc (.cells #[.slice a n c, .int .i64 0, .int .i64 len, .int .u32 bnd, .int .u16 0, .string ⟨#[]⟩, .bool false, .bool false, .string ⟨#[]⟩, .string ⟨#[]⟩, .int .i64 0, .int .u8 0, .int .u16 0, .int .u32 0, .int .u32 0, .slice none 0 0, .int .i64 0] 197)).drew W.heap.size a n c 0 len bnd 0 noFrm 0 0 0 (.slice none 0 0) 0 := Rea.mk (heap_alloc_new W _)
  have hC := read_any W.heap.size a n c len bnd l _ hrd (HV.out.below hba2) hl hn HIN.out HKD.out h1 (fun g off e => by have := HFAR.out g off e; omega)
  have HB2 := hide (HB.out.below hba2)
  have HBA2 := hide (HBA.out.trans (hba2.mono HBA.out.size))
  have HSZ2 : Hid (W.heap.size < (W.alloc (.cells #[.slice a n c, .int .i64 0, .int .i64 len, .int .u32 bnd, .int .u16 0, .string ⟨#[]⟩, .bool false, .bool false, .string ⟨#[]⟩, .string ⟨#[]⟩, .int .i64 0, .int .u8 0, .int .u16 0, .int .u32 0, .int .u32 0, .slice none 0 0, .int .i64 0] 197)).drew.heap.size) := by show _ < (W.alloc _).heap.size; simp
  clear r0 r1 r2 b1 hba2 hrd HB HBA HB1 HR HV
  go_wp2_with fail
  generalize (W.alloc (.cells #[.slice a n c, .int .i64 0, .int .i64 len, .int .u32 bnd, .int .u16 0, .string ⟨#[]⟩, .bool false, .bool false, .string ⟨#[]⟩, .string ⟨#[]⟩, .int .i64 0, .int .u8 0, .int .u16 0, .int .u32 0, .int .u32 0, .slice none 0 0, .int .i64 0] 197)).drew = W2 at *
  refine hC.mono ?_
  rintro x w3 ⟨E, P, rfl, hg3, hq3⟩
  have s2 := HSZ2.out
  have s3 := hg3.size
  have hb3 : Below w.heap.size w w3 := ⟨hg3.os.trans HBA2.out.os, hg3.tape.trans HBA2.out.tape, hg3.output.trans HBA2.out.output, Nat.le_trans HBA2.out.size hg3.size, fun j hj => (hg3.block j (by omega) (by simp; omega)).trans (HBA2.out.block j hj)⟩
  have hB3 : MBld w3 B gen bnd v wd := (hg3.block B (by omega) (by simp; omega)).trans HB2.out
  have hba3 : Below w3.heap.size w3 (w3.alloc (.cells #[.int .i64 E, .int .i64 P] 28)) := (Below.refl _ _).alloc (Nat.le_refl _) _
  have HB3 := hide hb3
  have HBD3 := hide hB3
  rw [← HRR0.out] at hq3
  rcases hq3 with ⟨hE, hR⟩ | ⟨hE, hP, o, t, r, ys, ax, m, cx, k, q1, q2, q3, q4, q5, q6⟩
  · have hE' : (E != 0) = true := by simpa using hE
    have HE := hide hE
    have HRR := hide hR
    clear hE hR hg3 hb3 hB3 hba3 hC HI HIN HKD HFAR
    go_wp2_with fail
    refine bodyPost_ret (v := .int .i64 E) ?_ rfl ⟨E, rfl, Two.of_below (HB3.out.trans (((Below.refl _ w3).alloc (Nat.le_refl _) _).mono HB3.out.size)), .inl ⟨HE.out, by rw [HRR.out]; rfl, by rw [HRR.out]; rfl⟩⟩
    simp [results, Tryz.results83, go_sem]
  · subst hE
    subst hP
    have HQ1 := hide q1
    generalize hrl : 1 + ((rawWs ((o : Int), t, r, ys) bnd).length : Int) = rl at *
    have hrl1 : 1 ≤ rl ∧ rl ≤ 65536 := by have := rawWs_len ((o : Int), t, r, ys) bnd; omega
    have HRL := hide hrl
    have q2a := q2.below hba3
    have hB3a := hB3.below hba3
    have q3a := own_below q3 hba3
    have hb3a := hb3.trans (hba3.mono hb3.size)
    obtain ⟨cr, _⟩ := blk_cells q2a.block
    obtain ⟨cb, fb⟩ := blk_cells hB3a
    have z12 : (w3.alloc (.cells #[.int .i64 0, .int .i64 0] 28)).cell? ⟨W.heap.size, 12, none⟩ = some (.int .u16 (o : Int)) := cr 12
    have z13 : (w3.alloc (.cells #[.int .i64 0, .int .i64 0] 28)).cell? ⟨W.heap.size, 13, none⟩ = some (.int .u32 t) := cr 13
    have z14 : (w3.alloc (.cells #[.int .i64 0, .int .i64 0] 28)).cell? ⟨W.heap.size, 14, none⟩ = some (.int .u32 r) := cr 14
    have z15 : (w3.alloc (.cells #[.int .i64 0, .int .i64 0] 28)).cell? ⟨W.heap.size, 15, none⟩ = some (.slice ax m cx) := cr 15
    have z16 : (w3.alloc (.cells #[.int .i64 0, .int .i64 0] 28)).cell? ⟨W.heap.size, 16, none⟩ = some (.int .i64 rl) := cr 16
    have y2 : (w3.alloc (.cells #[.int .i64 0, .int .i64 0] 28)).cell? ⟨B, 2, none⟩ = some v := cb 2
    have y3 : (w3.alloc (.cells #[.int .i64 0, .int .i64 0] 28)).cell? ⟨B, 3, none⟩ = some (.int .i64 wd) := cb 3
    have HZ := hide (And.intro z12 (And.intro z13 (And.intro z14 (And.intro z15 (And.intro z16 (And.intro y2 (And.intro y3 fb)))))))
    have HO3 := hide q3a
    have HREA := hide q2a.block
    have HB4 := hide hB3a
    have HBB := hide hb3a
    have HQ := hide (And.intro q4 (And.intro q5 q6))
    have HSP := hide (And.intro ((blk_cells (heap_alloc_new w3 (.cells #[.int .i64 0, .int .i64 0] 28))).1 0) ((blk_cells (heap_alloc_new w3 (.cells #[.int .i64 0, .int .i64 0] 28))).1 1))
    have HSW : Hid (w3.heap.size < (w3.alloc (.cells #[.int .i64 0, .int .i64 0] 28)).heap.size ∧ W.heap.size < w3.heap.size) := ⟨by simp, by omega⟩
    have HSW2 : Hid (W2.heap.size ≤ w3.heap.size) := s3
    have hsum : IntKind.i64.wrap (wd + rl) = wd + rl := by rw [IntKind.wrap_i64]; omega
    clear q1 q2 q3 q4 q5 q6 q2a hB3a q3a hb3a cr cb fb hg3 hb3 hB3 hba3 hC HBD3 HIN HKD HFAR HB2 HBA2 HB3 hrl s3
    go_wp2_with fail
    generalize w3.alloc (.cells #[.int .i64 0, .int .i64 0] 28) = W4 at *
    obtain ⟨z12, z13, z14, z15, z16, y2, y3, fb⟩ := HZ.out
    have nB : W.heap.size ≠ B := by omega
    have nB2 : B ≠ W.heap.size := by omega
    go_region
    all_goals
      have hB5 := HB4.out.setWords (wd + rl)
      have HB5 : Hid (MBld (W4.setCell ⟨B, 3, none⟩ (.int .i64 (wd + rl))).drew B gen bnd v (wd + rl)) := hB5
      have HZ5 : Hid ((W4.setCell ⟨B, 3, none⟩ (.int .i64 (wd + rl))).drew.heap[W.heap.size]? = W4.heap[W.heap.size]?) := Below.heap_setCell _ _ _ _ (by simpa using nB)
      have HW0 : Hid (Below (w.setCell ⟨B, 3, none⟩ (.int .i64 (wd + rl))).heap.size (w.setCell ⟨B, 3, none⟩ (.int .i64 (wd + rl))) (W4.setCell ⟨B, 3, none⟩ (.int .i64 (wd + rl))).drew) := by
        have hb := HBB.out
        refine ⟨hb.os, hb.tape, hb.output, by show _ ≤ (W4.setCell _ _).heap.size; rw [World.size_setCell, World.size_setCell]; exact hb.size, fun k hk => ?_⟩
        rw [World.size_setCell] at hk
        show (W4.setCell _ _).heap[k]? = _
        simp only [World.setCell, Array.getElem?_modify, hb.block k hk]
      have HO5 : Hid ((W4.setCell ⟨B, 3, none⟩ (.int .i64 (wd + rl))).drew.ownsRow (W2.heap.size + 3) 67 3 (.slice ax m cx) m (ys.flatMap argC)) := own_below (ownsRow_setCell_below HO3.out (a := ⟨B, 3, none⟩) (by simp; omega) _) (Below.refl _ _).drew
      have HSZ5 : Hid (W2.heap.size ≤ (W4.setCell ⟨B, 3, none⟩ (.int .i64 (wd + rl))).drew.heap.size ∧ W.heap.size < (W4.setCell ⟨B, 3, none⟩ (.int .i64 (wd + rl))).drew.heap.size) := by
        have : (W4.setCell ⟨B, 3, none⟩ (.int .i64 (wd + rl))).drew.heap.size = W4.heap.size := World.size_setCell _ _ _
        rw [this]
        have := HSW.out
        have := HSW2.out
        exact ⟨by omega, by omega⟩
      clear hB5 z12 z13 z14 z15 z16 y2 y3 fb HZ HB4
      have HZ6 : Hid (W4.heap[W.heap.size]? = some (.cells (rdCells a n c k len bnd (o : Int) (opF o) (o : Int) t r (.slice ax m cx) rl) 197 (0, 0))) := HREA.out
      generalize (W4.setCell ⟨B, 3, none⟩ (.int .i64 (wd + rl))).drew = W5 at *
      have kR := HZ5.out.trans HZ6.out
      obtain ⟨cr, _⟩ := blk_cells kR
      obtain ⟨cb, fb⟩ := blk_cells HB5.out
      have b3 : W5.cell? ⟨B, 3, none⟩ = some (.int .i64 (wd + rl)) := cb 3
      have b2 : W5.cell? ⟨B, 2, none⟩ = some v := cb 2
      have z12 : W5.cell? ⟨W.heap.size, 12, none⟩ = some (.int .u16 (o : Int)) := cr 12
      have z13 : W5.cell? ⟨W.heap.size, 13, none⟩ = some (.int .u32 t) := cr 13
      have z14 : W5.cell? ⟨W.heap.size, 14, none⟩ = some (.int .u32 r) := cr 14
      have z15 : W5.cell? ⟨W.heap.size, 15, none⟩ = some (.slice ax m cx) := cr 15
      have hwe : (w.setCell ⟨B, 3, none⟩ (.int .i64 (wd + rl))).heap.size = w.heap.size := World.size_setCell _ _ _
      have HTW : Hid (∀ k, k < w.heap.size → k ≠ B → W5.heap[k]? = w.heap[k]?) := fun k hk hkB => (HW0.out.block k (by rw [hwe]; exact hk)).trans (Below.heap_setCell _ _ _ _ (by simpa using hkB))
      clear kR cr cb HZ5 HZ6 HREA
      by_cases hbig : 1048576 < wd + rl
      · have hbig' : decide ((1048576 : Int) < wd + rl) = true := by simpa using hbig
        have HBIG := hide hbig
        clear hbig b2 z12 z13 z14 z15 hwe
        go_wp2_with fail
        refine bodyPost_ret (v := .int .i64 4) ?_ rfl ⟨4, rfl, ⟨HW0.out.os, HW0.out.tape, HW0.out.output, by have := HW0.out.size; rw [World.size_setCell] at this; exact this, fun k hk hB _ => HTW.out k hk hB⟩, .inr (.inl ⟨rfl, by rw [HQ1.out], ?_⟩)⟩
        · simp [results, Tryz.results83, go_sem]
        · rw [HQ1.out]; simp only; rw [HRL.out]; exact HBIG.out
      · have hbig' : decide ((1048576 : Int) < wd + rl) = false := by simpa using hbig
        have HBIG := hide hbig
        obtain ⟨cs, hown, hrow⟩ := HI.out.row
        have hloB := HI.out.lt
        have hlow := HI.out.le
        have hown0 := ownsRow_setCell_below hown (a := ⟨B, 3, none⟩) (by simpa using hloB) (.int .i64 (wd + rl))
        have hrow0 := hrow.grown (grown_set (World.grownBy.refl w (some B)) 3 (.int .i64 (wd + rl))) (fun g e => by simp only [Option.some.injEq] at e; subst e; exact .inl hloB)
        have hown5 := own_below hown0 HW0.out
        have hob : ∀ g, v.ownBlock = some g → lo ≤ g ∧ g < w.heap.size := fun g e => hown.lt g e
        obtain ⟨i0, hi, hz0, hz1, hz2⟩ := info_parts Inst7.info
        have hba : Below W5.heap.size W5 (W5.alloc (.cells #[.int .u16 (o : Int), .int .u32 t, .int .u32 r, .slice ax m cx] 38)).drew := ((Below.refl _ W5).alloc (Nat.le_refl _) _).drew
        have hszw : w.heap.size ≤ W5.heap.size := by have := HW0.out.size; rw [hwe] at this; exact this
        have HBA5 := hide hba
        have HROW0 := hide hrow0
        have HOWN5 := hide hown5
        have HOB := hide hob
        have HSX := hide HSZ5.out
        have HSYZ : Hid ((W5.alloc (.cells #[.int .u16 (o : Int), .int .u32 t, .int .u32 r, .slice ax m cx] 38)).drew.heap.size = W5.heap.size + 1) := by show (W5.alloc _).heap.size = _; simp
        have lB5 : B < W5.heap.size := by omega
        have lW5 : W.heap.size < W5.heap.size := HSZ5.out.2
        clear hbig hown hrow hown0 hrow0 hown5 hba HI HSZ5 hob hwe
        go_wp2_with fail
        go_region_law ((refine step_append_lies _ (by rfl) _ _ _ (by rfl) lo 38 i0 (.agg #[.int .u16 0, .int .u32 0, .int .u32 0, .slice none 0 0]) 4 40 Tryz.underlying23 hi hz0 hz1 hz2 rfl (by omega) v xs.length cs (by rfl) ((HOWN5.out.alloc _).drew) ⟨W5.heap.size, 0, none⟩ 1 1 [.int .u16 (o : Int), .int .u32 t, .int .u32 r, .slice ax m cx] (by rfl) (by rfl) (World.news_of_block (cs := #[.int .u16 (o : Int), .int .u32 t, .int .u32 r, .slice ax m cx]) (t := 38) (fr := (0, 0)) (heap_alloc_new W5 _)) (by simp [Value.oneCell']) (by omega) (by unfold maxLen; omega) (by omega) (by simp; omega) (W5.heap.size + 1) (by simp) ?_; intro g6 cap6 w6 hown6 hgrow6 hat6 hlt6; have HB6 : Hid (MBld w6 B gen bnd v (wd + rl)) := (hgrow6.block B (by simp; omega) (fun e => by have := HOB.out B e.symm; omega)).trans ((HBA5.out.block B lB5).trans HB5.out); have d2 : w6.cell? ⟨B, 2, none⟩ = some v := (blk_cells HB6.out).1 2; have e2 : w6.frozen? ⟨B, 2, none⟩ = false := (blk_cells HB6.out).2 2; have HO6 := hide hown6; have HG6 := hide hgrow6; have HA6 := hide hat6; clear hown6 hgrow6 hat6))
        all_goals
          have hpush := RowI.push (w0 := w.setCell ⟨B, 3, none⟩ (.int .i64 (wd + rl))) (x := ((o : Int), t, r, ys)) HROW0.out (HW0.out.trans (HBA5.out.mono HW0.out.size)) (own_mono7 (own_below HO5.out HBA5.out) (B' := (w.setCell ⟨B, 3, none⟩ (.int .i64 (wd + rl))).heap.size) (by rw [World.size_setCell]; have := HSX.out; omega)) HQ.out.1 (fun b e => by rw [World.size_setCell]; exact (HOB.out b e).2) (by rw [World.size_setCell]; exact hlow) HG6.out (by rw [HSYZ.out]; exact HA6.out)
          have HB7 := hide (HB6.out.setInsts (.slice (some ⟨g6, 0, none⟩) (xs.length + 1) cap6))
          have HO7 := hide (ownsRow_setCell_below HO6.out (a := ⟨B, 2, none⟩) (by simpa using hloB) (.slice (some ⟨g6, 0, none⟩) (xs.length + 1) cap6))
          have HR7 := hide (hpush.grown (grown_set (World.grownBy.refl w6 (some B)) 2 (.slice (some ⟨g6, 0, none⟩) (xs.length + 1) cap6)) (fun g e => by simp only [Option.some.injEq] at e; subst e; exact .inl hloB))
          have HT7 : Hid (Two w B v.ownBlock (w6.setCell ⟨B, 2, none⟩ (.slice (some ⟨g6, 0, none⟩) (xs.length + 1) cap6))) := by
            have h0 := HW0.out
            have h5 := HBA5.out
            have h6 := HG6.out
            refine ⟨h6.os.trans (h5.os.trans h0.os), h6.tape.trans (h5.tape.trans h0.tape), h6.output.trans (h5.output.trans h0.output), ?_, fun k hk hB hne => ?_⟩
            · rw [World.size_setCell]; exact Nat.le_trans hszw (Nat.le_trans h5.size h6.size)
            · rw [Below.heap_setCell _ _ _ _ (by simpa using hB)]
              exact (h6.block k (by rw [HSYZ.out]; omega) hne).trans ((h5.block k (by omega)).trans (HTW.out k hk hB))
          have HLE7 : Hid (lo ≤ (w6.setCell ⟨B, 2, none⟩ (.slice (some ⟨g6, 0, none⟩) (xs.length + 1) cap6)).heap.size) := by
            show _ ≤ _
            rw [World.size_setCell]
            have := HG6.out.size
            rw [HSYZ.out] at this
            omega
          clear hpush HB6 HO6 HG6 HA6 d2 e2 b3 b2 z12 z13 z14 z15 HO5 HW0 HBA5 HROW0 HOWN5
          generalize w6.setCell ⟨B, 2, none⟩ (.slice (some ⟨g6, 0, none⟩) (xs.length + 1) cap6) = Z at *
          go_wp2_with fail
          refine bodyPost_ret (v := .int .i64 0) ?_ rfl ⟨0, rfl, HT7.out, .inr (.inr ?_)⟩
          · simp [results, Tryz.results83, go_sem]
          · rw [HQ1.out]
            refine ⟨rfl, rfl, HQ.out.2.1, HQ.out.2.2, by rw [HRL.out]; have := HBIG.out; omega, .slice (some ⟨g6, 0, none⟩) (xs.length + 1) cap6, by rw [HRL.out]; exact HB7.out, ⟨⟨_, by rw [List.length_append]; exact HO7.out, HR7.out⟩, hloB, HLE7.out⟩⟩

end Go.Proofs.YtddkapkkjhomkaaGreatDoor

/-
  What Line of the layer asm returns.
-/
namespace Go.Proofs.YtddkapkkjhomkaaGreatDoor
open Go.RowKit
set_option linter.unusedVariables false
set_option linter.unusedSimpArgs false
set_option maxRecDepth 10000

theorem wok_kind {l : List TokT} (h : wOk l = true) : ∀ t ∈ l, t.1 ≠ 0 := by
  intro t ht e
  have := List.all_eq_true.1 h t ht
  rw [e] at this
  simp [tokOk] at this
end Go.Proofs.YtddkapkkjhomkaaGreatDoor

/-
  What the method add of a builder returns, of the layer asm.
-/
namespace Go.Proofs.YtddkapkkjhomkaaGreatDoor
open Go.RowKit
set_option linter.unusedVariables false
set_option linter.unusedSimpArgs false
set_option maxRecDepth 10000

/-- A module while its lines are read: its generator, its bound, its words (0: no head yet), its instructions. -/
abbrev ModT := Int × Int × Int × List InstT
/-- A line more: what is wrong, and the module. -/
def addS (st : ModT) (s : ByteArray) : Int × ModT :=
  if (toksP (strI s) 0).2.1 ≠ 0 ∨ (toksP (strI s) 0).1 = [] then ((toksP (strI s) 0).2.1, st)
  else if st.2.2.1 = 0 then
    (if (headP (toksP (strI s) 0).1 s.size).2.2.1 ≠ 0 then ((headP (toksP (strI s) 0).1 s.size).2.2.1, st) else (0, ((headP (toksP (strI s) 0).1 s.size).1, (headP (toksP (strI s) 0).1 s.size).2.1, 5, [])))
  else if (lineP (toksP (strI s) 0).1 s.size st.2.1).2.1 = false then ((lineP (toksP (strI s) 0).1 s.size st.2.1).2.2.1, st)
  else if 1048576 < st.2.2.1 + (1 + ((rawWs (lineP (toksP (strI s) 0).1 s.size st.2.1).1 st.2.1).length : Int)) then (4, st)
  else (0, (st.1, st.2.1, st.2.2.1 + (1 + ((rawWs (lineP (toksP (strI s) 0).1 s.size st.2.1).1 st.2.1).length : Int)), st.2.2.2 ++ [(lineP (toksP (strI s) 0).1 s.size st.2.1).1]))

/-- A module that is being read, in memory. -/
structure ModAt (w : World) (B lo : Nat) (v : Value) (st : ModT) : Prop where
  bld : MBld w B st.1 st.2.1 v st.2.2.1
  insts : Insts w B lo v st.2.2.2
  words : 0 ≤ st.2.2.1 ∧ st.2.2.1 ≤ 1048576 ∧ (st.2.2.2.length : Int) ≤ st.2.2.1
  ok : InstsOk st.2.2.2
theorem Insts.below {w w' : World} {B lo : Nat} {v : Value} {xs : List InstT} (h : Insts w B lo v xs) (hb : Below w.heap.size w w') : Insts w' B lo v xs := by
  obtain ⟨cs, h1, h2⟩ := h.row
  exact ⟨⟨cs, own_below h1 hb, h2.below hb⟩, h.lt, Nat.le_trans h.le hb.size⟩
theorem ModAt.below {w w' : World} {B lo : Nat} {v : Value} {st : ModT} (h : ModAt w B lo v st) (hb : Below w.heap.size w w') : ModAt w' B lo v st := ⟨h.bld.below hb, h.insts.below hb, h.words, h.ok⟩
theorem Two.mono {w w1 w2 : World} {B : Nat} {ob : Option Nat} (hb : Below w.heap.size w w1) (h : Two w1 B ob w2) : Two w B ob w2 :=
  ⟨h.os.trans hb.os, h.tape.trans hb.tape, h.output.trans hb.output, Nat.le_trans hb.size h.size, fun k hk h1 h2 => (h.block k (Nat.lt_of_lt_of_le hk hb.size) h1 h2).trans (hb.block k hk)⟩
theorem instsOk_push {xs : List InstT} {x : InstT} (h : InstsOk xs) (hx : InstOk x) : InstsOk (xs ++ [x]) := by
  intro j hj
  rw [List.length_append, List.length_singleton] at hj
  by_cases hl : j < xs.length
  · have : nthI (xs ++ [x]) j = nthI xs j := by simp [nthI, List.getD, List.getElem?_append_left hl]
    rw [this]; exact h j hl
  · obtain rfl : j = xs.length := by omega
    have : nthI (xs ++ [x]) xs.length = x := by simp [nthI, List.getD]
    rw [this]; exact hx

set_option maxHeartbeats 8000000 in
theorem addLine_any (B lo : Nat) (v : Value) (st : ModT) (s : ByteArray) (w : World) (h : ModAt w B lo v st) (hs : s.size ≤ 16777216) :
    Calls Tryz.prog 40 #[.pointer (some ⟨B, 0, none⟩), .string s] w fun e w' => e = .returned (.int .i64 (addS st s).1) ∧ Two w B v.ownBlock w' ∧ ((addS st s).1 = 0 → ∃ v', ModAt w' B lo v' (addS st s).2) := by
  have hT := fun wx => rowOf_any s wx (by omega)
  obtain ⟨g1, _, g3, g4, _⟩ := toks_good (strI_within s) 0
  have hIn := toksIn_of (l := (toksP (strI s) 0).1) (n := (strI s).length) (by rw [strI_len]; omega) g4
  have hkd := wok_kind g1
  rw [strI_len] at g3
  obtain ⟨gen, bnd, wd, xs⟩ := st
  obtain ⟨RR, hRR⟩ : ∃ RR, RR = addS (gen, bnd, wd, xs) s := ⟨_, rfl⟩
  rw [← hRR]
  unfold addS at hRR
  simp only at hRR
  obtain ⟨T, hTT⟩ : ∃ T, T = toksP (strI s) 0 := ⟨_, rfl⟩
  rw [← hTT] at hT hRR g3 hIn hkd
  clear hTT g4 g1
  obtain ⟨l, er, at_⟩ := T
  simp only at hT hRR g3 hIn hkd
  have HRR := hide hRR
  have HM := hide h
  have HIN := hide hIn
  have HKD := hide hkd
  have HG3 := hide g3
  clear hRR h hIn hkd g3
  go_enter Tryz.func40, Tryz.ntmps40
  go_wp2_with fail
  refine (hT _).mono ?_
  rintro e w1 ⟨a1, c1, rfl, hrow, hb1⟩
  obtain ⟨hv, hfar⟩ := toks_of_own hrow rfl
  have hba : Below w1.heap.size w1 ((w1.alloc (.cells #[.slice a1 l.length c1, .int .i64 0, .int .i64 (s.size : Int)] 134)).alloc (.cells #[.int .i64 er, .int .i64 at_] 28)) := ((Below.refl _ w1).alloc (Nat.le_refl _) _).alloc (by simp) _
  have hb1a := hb1.trans (hba.mono hb1.size)
  have hR1 : RowAt ((w1.alloc (.cells #[.slice a1 l.length c1, .int .i64 0, .int .i64 (s.size : Int)] 134)).alloc (.cells #[.int .i64 er, .int .i64 at_] 28)) w1.heap.size a1 l.length c1 0 (s.size : Int) #[] 134 := (Below.heap_alloc _ _ _ (by simp)).trans (heap_alloc_new w1 _)
  have kP : ((w1.alloc (.cells #[.slice a1 l.length c1, .int .i64 0, .int .i64 (s.size : Int)] 134)).alloc (.cells #[.int .i64 er, .int .i64 at_] 28)).heap[w1.heap.size + 1]? = some (.cells #[.int .i64 er, .int .i64 at_] 28 (0, 0)) := by simpa using heap_alloc_new (w1.alloc (.cells #[.slice a1 l.length c1, .int .i64 0, .int .i64 (s.size : Int)] 134)) (.cells #[.int .i64 er, .int .i64 at_] 28)
  have hE := ended_any w1.heap.size a1 l.length c1 0 (s.size : Int) #[] 134 _ hR1
  have HM1 := hide (HM.out.below hb1a)
  have HV1 := hide (hv.below hba)
  have HB1 := hide hb1a
  have HR1 := hide hR1
  have HP1 := hide kP
  have HFAR : Hid (∀ b off, a1 = some ⟨b, off, none⟩ → b < w1.heap.size) := fun b off e => (hfar b off e).2
  have HSZ : Hid (w1.heap.size + 1 < ((w1.alloc (.cells #[.slice a1 l.length c1, .int .i64 0, .int .i64 (s.size : Int)] 134)).alloc (.cells #[.int .i64 er, .int .i64 at_] 28)).heap.size) := by show _ < _; simp
  clear hT hrow hb1 hv hfar hba hb1a hR1 kP HM
  by_cases he : er = 0
  · subst he
    by_cases hl0 : l = []
    · subst hl0
      rw [show (((0 : Nat) : Int) == ((([] : List TokT).length : Nat) : Int)) = true by simp] at hE
      simp only [List.length_nil] at *
      go_wp2_with fail
      generalize (w1.alloc (.cells #[.slice a1 0 c1, .int .i64 0, .int .i64 (s.size : Int)] 134)).alloc (.cells #[.int .i64 0, .int .i64 at_] 28) = W at *
      refine hE.mono ?_
      rintro x w3 ⟨rfl, q, rfl⟩
      have hbq := bel_drewN (Below.refl W.heap.size W) q
      have k0 : (W.drewN q).cell? ⟨w1.heap.size + 1, 0, none⟩ = some (.int .i64 0) := (blk_cells ((hbq.block _ HSZ.out).trans HP1.out)).1 0
      have HM3 := hide (HM1.out.below hbq)
      have HB3 := hide (HB1.out.trans (hbq.mono HB1.out.size))
      clear hE hbq
      generalize W.drewN q = W3 at *
      go_wp2_with fail
      refine bodyPost_ret (v := .int .i64 0) ?_ rfl ?_
      · simp [results, Tryz.results40, go_sem]
      · rw [HRR.out, if_pos (.inr trivial)]
        exact ⟨rfl, Two.of_below HB3.out, fun _ => ⟨v, HM3.out⟩⟩
    · have hln : 0 < l.length := List.length_pos_iff.2 hl0
      rw [show (((0 : Nat) : Int) == (l.length : Int)) = false by simp; omega] at hE
      have hRR := HRR.out
      rw [if_neg (by simpa using hl0)] at hRR
      have HRR2 := hide hRR
      clear hRR HRR
      go_wp2_with fail
      generalize (w1.alloc (.cells #[.slice a1 l.length c1, .int .i64 0, .int .i64 (s.size : Int)] 134)).alloc (.cells #[.int .i64 0, .int .i64 at_] 28) = W at *
      refine hE.mono ?_
      rintro x w3 ⟨rfl, q, rfl⟩
      have hbq := bel_drewN (Below.refl W.heap.size W) q
      have HM3 := hide (HM1.out.below hbq)
      have HB3 := hide (HB1.out.trans (hbq.mono HB1.out.size))
      have HV3 := hide (HV1.out.below hbq)
      have HR3 := hide (HR1.out.below hbq)
      have HSZ3 : Hid (w1.heap.size + 1 < (W.drewN q).heap.size) := Nat.lt_of_lt_of_le HSZ.out hbq.size
      clear hE hbq HM1 HB1 HV1 HR1 HP1 HSZ
      generalize W.drewN q = W3 at *
      have hHd := headed_any B gen bnd v wd W3 HM3.out.bld
      obtain ⟨r0, r1, r2, _⟩ := HR3.out.cells
      have hw := HM3.out.words
      simp only at hw
      by_cases hwd : wd = 0
      · subst hwd
        rw [show decide ((0 : Int) < 0) = false by decide] at hHd
        have hAH := addHead_any B gen bnd v 0 a1 l.length c1 (s.size : Int) l W3 HM3.out.bld HV3.out rfl (by have := HG3.out; omega) HIN.out (fun b off e => by have := HFAR.out b off e; have := HSZ3.out; omega)
        have hRR := HRR2.out
        rw [if_pos rfl] at hRR
        generalize headP l (s.size : Int) = H at *
        obtain ⟨H1, H2, H3, H4⟩ := H
        simp only at hAH hRR
        have HRR3 := hide hRR
        clear hRR HRR2 hw
        go_wp2_with fail
        refine hHd.mono ?_
        rintro x w4 ⟨rfl, rfl⟩
        clear hHd
        go_wp2_with fail
        refine hAH.mono ?_
        rintro x w5 ⟨rfl, hg5, hq5⟩
        have HG5 := hide hg5
        have HQ5 := hide hq5
        clear hAH hg5 hq5
        go_wp2_with fail
        refine bodyPost_ret (v := .int .i64 H3) ?_ rfl ?_
        · simp [results, Tryz.results40, go_sem]
        · by_cases hz : H3 = 0
          · rw [HRR3.out, if_neg (by simpa using hz)]
            refine ⟨by rw [hz], Two.mono HB3.out (Two.of_grown HG5.out), fun _ => ⟨.slice none 0 0, ⟨HQ5.out hz, ⟨⟨[], World.ownsRow_nil _ _ _ _, rowI_nil⟩, HM3.out.insts.lt, Nat.le_trans HM3.out.insts.le HG5.out.size⟩, by simp, fun j hj => by simp at hj⟩⟩⟩
          · rw [HRR3.out, if_pos hz]
            exact ⟨rfl, Two.mono HB3.out (Two.of_grown HG5.out), fun h => absurd h hz⟩
      · rw [show decide (0 < wd) = true by simp; omega] at hHd
        have hAI := addInst_any B lo gen bnd v wd xs a1 l.length c1 (s.size : Int) l W3 HM3.out.bld HM3.out.insts hw.1 hw.2.1 (by omega) HV3.out rfl (by have := HG3.out; omega) HIN.out HKD.out hln (fun b off e => by have := HFAR.out b off e; have := HSZ3.out; omega)
        have hRR := HRR2.out
        rw [if_neg hwd] at hRR
        generalize lineP l (s.size : Int) bnd = R at *
        have HRR3 := hide hRR
        have HW := hide hw
        clear hRR HRR2 hw
        go_wp2_with fail
        refine hHd.mono ?_
        rintro x w4 ⟨rfl, rfl⟩
        clear hHd
        go_wp2_with fail
        refine hAI.mono ?_
        rintro x w5 ⟨E, rfl, hT5, hq5⟩
        have HT5 := hide hT5
        have HQ5 := hide hq5
        clear hAI hT5 hq5
        go_wp2_with fail
        refine bodyPost_ret (v := .int .i64 E) ?_ rfl ?_
        · simp [results, Tryz.results40, go_sem]
        · rcases HQ5.out with ⟨q1, q2, q3⟩ | ⟨rfl, q2, q3⟩ | ⟨rfl, q2, q3, q4, q5, v', q6, q7⟩
          · rw [HRR3.out, if_pos q2]
            exact ⟨by rw [q3], Two.mono HB3.out HT5.out, fun h => absurd (q3.trans h) q1⟩
          · rw [HRR3.out, if_neg (by rw [q2]; simp), if_pos q3]
            exact ⟨rfl, Two.mono HB3.out HT5.out, fun h => by simp at h⟩
          · rw [HRR3.out, if_neg (by rw [q2]; simp), if_neg (by omega)]
            refine ⟨rfl, Two.mono HB3.out HT5.out, fun _ => ⟨v', ⟨q6, q7, ⟨by have := HW.out; simp only; omega, q5, ?_⟩, instsOk_push HM3.out.ok q3⟩⟩⟩
            have := HW.out
            simp only [List.length_append, List.length_singleton]
            omega
  · have he' : (er != 0) = true := by simpa using he
    have HE := hide he
    have k0 : ((w1.alloc (.cells #[.slice a1 l.length c1, .int .i64 0, .int .i64 (s.size : Int)] 134)).alloc (.cells #[.int .i64 er, .int .i64 at_] 28)).cell? ⟨w1.heap.size + 1, 0, none⟩ = some (.int .i64 er) := (blk_cells HP1.out).1 0
    clear he hE
    go_wp2_with fail
    refine bodyPost_ret (v := .int .i64 er) ?_ rfl ?_
    · simp [results, Tryz.results40, go_sem]
    · rw [HRR.out, if_pos (.inl HE.out)]
      exact ⟨rfl, Two.of_below HB1.out, fun h => absurd h HE.out⟩

end Go.Proofs.YtddkapkkjhomkaaGreatDoor

/-
  Plain facts on what a line says: where it says no instruction, none is answered.
-/
namespace Go.Proofs.YtddkapkkjhomkaaGreatDoor
open Go.RowKit
set_option linter.unusedVariables false
set_option linter.unusedSimpArgs false
set_option maxRecDepth 10000

end Go.Proofs.YtddkapkkjhomkaaGreatDoor

/-
  Plain facts on what a line says: an instruction that it says can be written; what it says else is an error, unless it says nothing.
-/
namespace Go.Proofs.YtddkapkkjhomkaaGreatDoor
open Go.RowKit
set_option linter.unusedVariables false
set_option linter.unusedSimpArgs false
set_option maxRecDepth 10000

/-- What a line says is an instruction that can be written. -/
def Says (R : LineR) (b : Int) : Prop := R.2.1 = true → InstOk R.1 ∧ rawE R.1 b = 0 ∧ R.2.2.1 = 0 ∧ R.2.2.2 = 0
theorem says_no (e p b : Int) : Says (noLine e p) b := fun h => by simp [noLine] at h
theorem lineA_says {o : Nat} {t r : Int} {l : List TokT} {at_ : Nat} {len b : Int} (hh : HeadOk o t r b) (hin : ToksIn l) (hn : 24 * l.length ≤ 140737488351232) (hat : at_ ≤ l.length) : Says (lineA o (opF o) t r l at_ len b) b := by
  obtain ⟨⟨hk1, hk2, hk3, hk4, hk5⟩, hk6, hk7, hk8⟩ := hh
  cases hb : badArg (opF o) b l at_ with
  | some k => unfold lineA; rw [hb]; exact says_no _ _ _
  | none =>
    have h0 := badArg_none hb
    rw [lineA_ok h0]
    split
    · exact says_no _ _ _
    · rename_i hw
      have hw' : wholeN (opF o) ((l.length - at_ : Nat) : Int) = true := by simpa using hw
      have hraw := line_raw (o := (o : Int)) (f := opF o) (t := t) (r := r) (b := b) (l := l) (at_ := at_) (n := l.length - at_) rfl hk1 (fun j hj => h0 j (by omega)) hin (by omega) hw' hk6 hk3
      obtain ⟨ga, _, _⟩ := args_right (o := (o : Int)) (f := opF o) (b := b) (l := l) (at_ := at_) (n := l.length - at_) rfl (fun j hj => h0 j (by omega)) hin (by omega)
      have hlen := argsN_len (opF o) b l at_ (l.length - at_)
      split
      · exact says_no _ _ _
      · rename_i hbig
        rw [if_neg hbig] at hraw
        exact fun _ => ⟨⟨by simp, by simp; omega, hk7, hk8, hk4, hk5, ga, by simp only [hlen]; omega⟩, hraw, rfl, rfl⟩
theorem lineT_says {o : Nat} {r : Int} {l : List TokT} {at_ : Nat} {len b : Int} (hh : ResOk o r b) (hin : ToksIn l) (hn : 24 * l.length ≤ 140737488351232) (hat : at_ ≤ l.length) : Says (lineT o (opF o) r l at_ len b) b := by
  unfold lineT
  by_cases h1 : (opF o).2.1 = false
  · rw [if_pos h1]; exact lineA_says ⟨hh, by rw [h1]; simp [idE], by omega, by omega⟩ hin hn hat
  · rw [if_neg h1]
    by_cases h2 : l.length ≤ at_
    · rw [if_pos h2]; exact says_no _ _ _
    · rw [if_neg h2]
      by_cases h3 : argE 105 (nthT l at_) b = 0
      · rw [if_neg (by simpa using h3)]
        obtain ⟨q1, q2, q3, _⟩ := arg_id h3
        exact lineA_says ⟨hh, by rw [show (opF o).2.1 = true by simpa using h1]; exact q1, q2, q3⟩ hin hn (by omega)
      · rw [if_pos h3]; exact says_no _ _ _
theorem lineO_says {said : Bool} {l : List TokT} {at_ : Nat} {len b : Int} (hin : ToksIn l) (hn : 24 * l.length ≤ 140737488351232) : Says (lineO said l at_ len b) b := by
  unfold lineO
  by_cases h1 : l.length ≤ at_
  · rw [if_pos h1]; exact says_no _ _ _
  · rw [if_neg h1]
    by_cases h2 : (nthT l at_).1 = 1
    · rw [if_neg (by simpa using h2)]
      cases ho : opsL.find? (namP (nthT l at_).2.1) with
      | none => exact says_no _ _ _
      | some o =>
        simp only
        by_cases h3 : (opF o).2.2.1 = said
        · rw [if_neg (by simpa using h3)]
          by_cases h4 : said = true ∧ idP (nthT l 0).2.1 b ≠ 0
          · rw [if_pos h4]; exact says_no _ _ _
          · rw [if_neg h4]
            refine lineT_says ?_ hin hn (by omega)
            cases hsd : said
            · simp only [Bool.false_eq_true, if_false]
              exact ⟨(op_known ho).1, (op_known ho).2, by rw [h3, hsd]; simp [idE], by omega, by omega⟩
            · have hz : idP (nthT l 0).2.1 b = 0 := Classical.byContradiction fun hne => h4 ⟨hsd, hne⟩
              obtain ⟨q1, q2, _, _⟩ := idP_zero hz
              have q5 := num_bounds q1
              simp only [if_true]
              exact ⟨(op_known ho).1, (op_known ho).2, by rw [h3, hsd]; exact idE_none q2, q5.1, q5.2⟩
        · rw [if_pos h3]; exact says_no _ _ _
    · rw [if_pos h2]; exact says_no _ _ _
theorem lineP_says {l : List TokT} {len b : Int} (hin : ToksIn l) (hn : 24 * l.length ≤ 140737488351232) : Says (lineP l len b) b := by
  unfold lineP
  split
  · exact lineO_says hin hn
  · split
    · exact says_no _ _ _
    · split
      · exact says_no _ _ _
      · exact lineO_says hin hn

/-- What is no instruction is an error. -/
def Errs (R : LineR) : Prop := R.2.1 = false → R.2.2.1 ≠ 0
theorem errs_no {e p : Int} (h : e ≠ 0) : Errs (noLine e p) := fun _ => h
theorem lineA_errs {o : Int} {f : Frm} {t r : Int} {l : List TokT} {at_ : Nat} {len b : Int} : Errs (lineA o f t r l at_ len b) := by
  unfold lineA
  cases hb : badArg f b l at_ with
  | some k =>
    have := List.find?_some hb
    exact errs_no (by simpa using this)
  | none =>
    simp only
    split
    · exact errs_no (by decide)
    · split
      · exact errs_no (by decide)
      · exact fun h => by simp at h
theorem lineT_errs {o : Int} {f : Frm} {r : Int} {l : List TokT} {at_ : Nat} {len b : Int} : Errs (lineT o f r l at_ len b) := by
  unfold lineT
  split
  · exact lineA_errs
  · split
    · exact errs_no (by decide)
    · split
      · rename_i h; exact errs_no h
      · exact lineA_errs
theorem lineO_errs {said : Bool} {l : List TokT} {at_ : Nat} {len b : Int} : Errs (lineO said l at_ len b) := by
  unfold lineO
  split
  · exact errs_no (by decide)
  · split
    · exact errs_no (by decide)
    · split
      · exact errs_no (by decide)
      · split
        · exact errs_no (by decide)
        · split
          · rename_i h; exact errs_no h.2
          · exact lineT_errs
theorem lineP_errs {l : List TokT} {len b : Int} : Errs (lineP l len b) := by
  unfold lineP
  split
  · exact lineO_errs
  · split
    · exact errs_no (by decide)
    · split
      · exact errs_no (by decide)
      · exact lineO_errs

/-- A line behind the head, by what it says. -/
theorem addS_headed {st : ModT} {s : ByteArray} (h : st.2.2.1 ≠ 0) (hs : s.size ≤ 16777216) : addS st s = if (lineS s st.2.1).2.2.1 ≠ 0 then ((lineS s st.2.1).2.2.1, st) else if (lineS s st.2.1).2.1 = false then (0, st)
    else if 1048576 < st.2.2.1 + (1 + ((rawWs (lineS s st.2.1).1 st.2.1).length : Int)) then (4, st) else (0, (st.1, st.2.1, st.2.2.1 + (1 + ((rawWs (lineS s st.2.1).1 st.2.1).length : Int)), st.2.2.2 ++ [(lineS s st.2.1).1])) := by
  unfold addS lineS
  by_cases h1 : (toksP (strI s) 0).2.1 ≠ 0 ∨ (toksP (strI s) 0).1 = []
  · rw [if_pos h1, if_pos h1]
    simp only [noLine]
    by_cases h2 : (toksP (strI s) 0).2.1 = 0
    · rw [if_neg (by simpa using h2)]; simp [h2]
    · rw [if_pos h2]
  · rw [if_neg h1, if_neg h1, if_neg h]
    obtain ⟨_, _, g3, g4, _⟩ := toks_good (strI_within s) 0
    have hin := toksIn_of (l := (toksP (strI s) 0).1) (n := (strI s).length) (by rw [strI_len]; omega) g4
    rw [strI_len] at g3
    have hy := lineP_says (l := (toksP (strI s) 0).1) (len := (s.size : Int)) (b := st.2.1) hin (by omega)
    have he := lineP_errs (l := (toksP (strI s) 0).1) (len := (s.size : Int)) (b := st.2.1)
    generalize lineP (toksP (strI s) 0).1 (s.size : Int) st.2.1 = R at *
    cases hb : R.2.1 with
    | false =>
      have := he hb
      rw [if_pos rfl, if_pos this]
    | true =>
      obtain ⟨_, _, q3, _⟩ := hy hb
      simp [q3]

end Go.Proofs.YtddkapkkjhomkaaGreatDoor

/-
  What strings.Cut returns at a line's end.
-/
namespace Go.Proofs.YtddkapkkjhomkaaGreatDoor
open Go.RowKit
set_option maxRecDepth 10000
set_option linter.unusedVariables false
set_option linter.unusedSimpArgs false

theorem liteIndexByte_any (s : ByteArray) (w : World) :
    Calls Tryz.prog 201 #[.string s, .int .u8 10] w fun e w' => e = .returned (.int .i64 (nlAt s)) ∧ w = w' := by
  have hx := fun (w : World) => run_callFunc_extern (P := Tryz.prog) (f := 220) Tryz.func220 (by kernel_rfl) (by kernel_rfl) (by kernel_rfl) (e := Extern.BytealgIndexByte.indexByte) (by kernel_rfl) #[.string s, .int .u8 10] w
  simp only [Lib.run_indexByteString, Result.andThen] at hx
  have e : Lib.indexByte s.data.toList (10 : Int).toNat.toUInt8 = nlAt s := rfl
  rw [e] at hx
  generalize nlAt s = r at hx
  go_enter Tryz.func201, Tryz.ntmps201
  go_wp2
  go_ret
  exact ⟨rfl, rfl⟩

set_option maxRecDepth 100000 in
set_option maxHeartbeats 2000000 in
theorem liteIndex_any (s : ByteArray) (w : World) :
    Calls Tryz.prog 168 #[.string s, .string ⟨#[10]⟩] w fun e w' => e = .returned (.int .i64 (nlAt s)) ∧ w = w' := by
  have hI := fun wx => liteIndexByte_any s wx
  have hz : (⟨#[10]⟩ : ByteArray).size = 1 := rfl
  by_cases hc : ([10] == s.toList) = true
  · have e0 : nlAt s = 0 := by
      have h := eq_of_beq hc
      rw [ByteArray.toList_eq] at h
      unfold nlAt; rw [← h]; rfl
    rw [e0]
    clear hI
    go_enter Tryz.func168, Tryz.ntmps168
    go_wp2_with fail
    go_ret
    exact ⟨rfl, rfl⟩
  · generalize nlAt s = r at *
    have hc : ([10] == s.toList) = false := by simpa using hc
    go_enter Tryz.func168, Tryz.ntmps168
    go_wp2_with fail
    refine (hI _).mono ?_
    rintro e w1 ⟨rfl, rfl⟩
    go_wp2
    go_ret
    exact ⟨rfl, rfl⟩

set_option maxHeartbeats 2000000 in
theorem liteCut_any (s : ByteArray) (w : World) (hs : s.size ≤ 140737488351232) :
    Calls Tryz.prog 129 #[.string s, .string ⟨#[10]⟩] w fun e w' => (∃ b, e = .returned (.tuple #[.string (cutAX s), .string (cutZ s), .bool b])) ∧ Below w.heap.size w w' := by
  have hI := fun wx => liteIndex_any s wx
  have hz : (⟨#[10]⟩ : ByteArray).size = 1 := rfl
  rcases nl_cases s with ⟨e, _⟩ | ⟨m, e, hm, _, _⟩
  · rw [(cut_none e).1, (cut_none e).2]
    rw [e] at hI
    go_enter Tryz.func129, Tryz.ntmps129
    go_wp2_with fail
    refine (hI _).mono ?_
    rintro e w1 ⟨rfl, rfl⟩
    go_wp2
    go_ret3
    exact ⟨⟨_, rfl⟩, Below.refl _ _⟩
  · rw [(cut_some e).1, (cut_some e).2]
    rw [e] at hI
    have h0 : ¬ ((m : Int) < 0) := by omega
    have h1 : (m : Int) + 1 ≤ (s.size : Int) := by omega
    have h2 : (m : Int) ≤ (s.size : Int) := by omega
    go_enter Tryz.func129, Tryz.ntmps129
    go_wp2_with fail
    refine (hI _).mono ?_
    rintro e w1 ⟨rfl, rfl⟩
    go_wp2_with fail
    go_quiet (fail)
    go_wp2
    go_ret3
    exact ⟨⟨_, rfl⟩, bel_drewN (Below.refl _ _) _⟩

theorem cut_any (s : ByteArray) (w : World) (hs : s.size ≤ 140737488351232) :
    Calls Tryz.prog 78 #[.string s, .string ⟨#[10]⟩] w fun e w' => (∃ b, e = .returned (.tuple #[.string (cutAX s), .string (cutZ s), .bool b])) ∧ Below w.heap.size w w' := by
  have hI := fun wx => liteCut_any s wx hs
  go_enter Tryz.func78, Tryz.ntmps78
  go_wp2_with fail
  refine (hI _).mono ?_
  rintro e w1 ⟨⟨b, rfl⟩, hb⟩
  have HB : Hid (Below w.heap.size w w1) := hb
  clear hb
  go_wp2
  go_ret3
  exact ⟨⟨_, rfl⟩, HB.out⟩

end Go.Proofs.YtddkapkkjhomkaaGreatDoor
