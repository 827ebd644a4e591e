/-
  Texts laid together in one: AsmParseL, Law08Keep, KitNone, LawWholeText, WholeTextProof.
-/
import Derived.WalkSpells
import Derived.WalkMore
import Derived.BigRegion
import Derived.Test.YtddkapkkjhomkabGreatDoorProg
import Derived.Test.YtddkapkkjhomkabGreatDoorB23
import Derived.Test.YtddkapkkjhomkabGreatDoorB25
import Derived.Test.YtddkapkkjhomkabGreatDoorB01
import Derived.Test.YtddkapkkjhomkabGreatDoorB02
import Derived.Test.YtddkapkkjhomkabGreatDoorB24
import Derived.Test.YtddkapkkjhomkabGreatDoorB14
import Derived.Test.YtddkapkkjhomkabGreatDoorRows
import Derived.ProofKit
import Derived.LaidMore
import Derived.Stop.Joined
import Derived.Stop.LaidErr
import Derived.Lib.LaidTab
import Derived.OpenShut
import Derived.ShutString
import Derived.ChangeOld
import Derived.Below
import Derived.SizedLaws
/-
  What Parse of the layer asm returns, for every text.
-/
namespace Go.Proofs.YtddkapkkjhomkabGreatDoor
open Go.RowKit
set_option linter.unusedVariables false
set_option linter.unusedSimpArgs false
set_option maxRecDepth 10000

set_option maxHeartbeats 2000000 in
theorem asmParse_large (s : ByteArray) (w : World) (hs : 16777216 < s.size) :
    Calls Tryz.prog 25 #[.string s] w fun e w' => ParQ w w' (parseS s) e := by
  have hsi : decide ((16777216 : Int) < (s.size : Int)) = true := by simpa using (by omega : (16777216 : Int) < (s.size : Int))
  have HR : Hid (parseS s = ((0, 0, []), 4, 0)) := by show _ = _; unfold parseS; rw [if_pos hs]
  clear hs
  go_enter Tryz.func25, Tryz.ntmps25
  go_wp2_with fail
  refine bodyPost_ret (v := .tuple #[.agg #[.int .u32 0, .int .u32 0, .slice none 0 0], .agg #[.int .i64 4, .int .i64 0]]) ?_ rfl ?_
  · simp [results, Tryz.results25, go_sem]
  · unfold ParQ
    rw [HR.out]
    exact ⟨none, 0, 0, rfl, instsV_nil, rfl, fun j hj => by simp at hj, ((Below.refl _ w).alloc (Nat.le_refl _) _).alloc (by simp) _⟩

theorem asmParse_any (s : ByteArray) (w : World) : Calls Tryz.prog 25 #[.string s] w fun e w' => ParQ w w' (parseS s) e := by
  by_cases hs : s.size ≤ 16777216
  · exact asmParse_main s w hs
  · exact asmParse_large s w (by omega)

end Go.Proofs.YtddkapkkjhomkabGreatDoor

/-
  What stands while a law of layer 8 goes on.
-/
namespace Go.Proofs.YtddkapkkjhomkabGreatDoor
open Go.RowKit
set_option linter.unusedVariables false
set_option linter.unusedSimpArgs false
set_option maxRecDepth 10000

/-- The box of m, and what it holds. -/
structure PrB (w W : World) (g : Int) (N : Nat) (a : Option Addr) (n c : Nat) (l : List InstT) : Prop where
  mbox : W.heap[w.heap.size]? = some (.cells #[.int .u32 g, .int .u32 (N : Int), .slice a n c] 25 (0, 0))
  lv : InstsV W a l
  bel : Below w.heap.size w W
  pw : Pow10 W
theorem PrB.below {w W W' : World} {g : Int} {N : Nat} {a : Option Addr} {n c : Nat} {l : List InstT} (h : PrB w W g N a n c l) (hb : Below W.heap.size W W') : PrB w W' g N a n c l :=
  ⟨(hb.block _ (Array.getElem?_eq_some_iff.1 h.mbox).1).trans h.mbox, h.lv.below hb, h.bel.trans (hb.mono h.bel.size), h.pw.below hb⟩
theorem PrB.cells {w W : World} {g : Int} {N : Nat} {a : Option Addr} {n c : Nat} {l : List InstT} (h : PrB w W g N a n c l) : W.cell? ⟨w.heap.size, 0, none⟩ = some (.int .u32 g) ∧ W.cell? ⟨w.heap.size, 1, none⟩ = some (.int .u32 (N : Int)) ∧ W.cell? ⟨w.heap.size, 2, none⟩ = some (.slice a n c) :=
  ⟨(one_block h.mbox).1 0, (one_block h.mbox).1 1, (one_block h.mbox).1 2⟩
theorem PrB.start {w : World} {g : Int} {N : Nat} {a : Option Addr} {n : Nat} (c : Nat) {l : List InstT} (hv : InstsV w a l) (ht : Pow10 w) : PrB w (w.alloc (.cells #[.int .u32 g, .int .u32 (N : Int), .slice a n c] 25)) g N a n c l :=
  have hba : Below w.heap.size w (w.alloc (.cells #[.int .u32 g, .int .u32 (N : Int), .slice a n c] 25)) := (Below.refl _ w).alloc (Nat.le_refl _) _
  ⟨heap_alloc_new w _, hv.below hba, hba, ht.below hba⟩
theorem below_one8 (w : World) (o : Obj) : Below w.heap.size w (w.alloc o) := (Below.refl _ w).alloc (Nat.le_refl _) _
theorem blocks2P (w : World) (o0 o1 : Obj) : ((w.alloc o0).alloc o1).heap[w.heap.size]? = some o0 ∧ ((w.alloc o0).alloc o1).heap[w.heap.size + 1]? = some o1 ∧ Below w.heap.size w ((w.alloc o0).alloc o1) := by
  refine ⟨?_, ?_, ((Below.refl _ w).alloc (Nat.le_refl _) _).alloc (by simp) _⟩
  · rw [Below.heap_alloc _ _ _ (by simp)]; exact heap_alloc_new _ _
  · have := heap_alloc_new (w.alloc o0) o1; simpa using this
theorem Below.kept {W W' : World} (hb : Below W.heap.size W W') {p : Nat} {o : Obj} (h : W.heap[p]? = some o) : W'.heap[p]? = some o := (hb.block _ (Array.getElem?_eq_some_iff.1 h).1).trans h

/-- The box of a module at any place, and what it holds. -/
structure MdB (W : World) (p : Nat) (g : Int) (N : Nat) (a : Option Addr) (n c : Nat) (l : List InstT) : Prop where
  mbox : W.heap[p]? = some (.cells #[.int .u32 g, .int .u32 (N : Int), .slice a n c] 25 (0, 0))
  lv : InstsV W a l
theorem MdB.below {W W' : World} {p : Nat} {g : Int} {N : Nat} {a : Option Addr} {n c : Nat} {l : List InstT} (h : MdB W p g N a n c l) (hb : Below W.heap.size W W') : MdB W' p g N a n c l := ⟨Below.kept hb h.mbox, h.lv.below hb⟩
theorem MdB.cells {W : World} {p : Nat} {g : Int} {N : Nat} {a : Option Addr} {n c : Nat} {l : List InstT} (h : MdB W p g N a n c l) : W.cell? ⟨p, 0, none⟩ = some (.int .u32 g) ∧ W.cell? ⟨p, 1, none⟩ = some (.int .u32 (N : Int)) ∧ W.cell? ⟨p, 2, none⟩ = some (.slice a n c) :=
  ⟨(one_block h.mbox).1 0, (one_block h.mbox).1 1, (one_block h.mbox).1 2⟩
theorem argsV_setP {w : World} {a : Option Addr} {l : List ArgT} (h : ArgsV w a l) {g : Nat} (hg : ∀ i x, w.cell? ⟨g, i, none⟩ ≠ some (.int .u8 x)) (i : Nat) (u : Value) : ArgsV (w.setCell ⟨g, i, none⟩ u) a l := fun j hj => by
  obtain ⟨b, o, rfl, hb, c0, c1, c2⟩ := h j hj
  have hne : b ≠ g := fun e => by subst e; exact hg _ _ c0
  exact ⟨b, o, rfl, by simpa [World.setCell] using hb, (cell_far hne _ _ _).trans c0, (cell_far hne _ _ _).trans c1, (cell_far hne _ _ _).trans c2⟩
theorem instsV_setP {w : World} {a : Option Addr} {l : List InstT} (h : InstsV w a l) {g : Nat} (hg : ∀ i x, w.cell? ⟨g, i, none⟩ ≠ some (.int .u8 x)) (hg2 : ∀ i x, w.cell? ⟨g, i, none⟩ ≠ some (.int .u16 x)) (i : Nat) (u : Value) : InstsV (w.setCell ⟨g, i, none⟩ u) a l := fun j hj => by
  obtain ⟨b, o, aj, cj, nj, rfl, hb, c0, c1, c2, c3, h4, h5, h6⟩ := h j hj
  have hne : b ≠ g := fun e => by subst e; exact hg2 _ _ c0
  exact ⟨b, o, aj, cj, nj, rfl, by simpa [World.setCell] using hb, (cell_far hne _ _ _).trans c0, (cell_far hne _ _ _).trans c1, (cell_far hne _ _ _).trans c2, (cell_far hne _ _ _).trans c3, h4, argsV_setP h5 hg i u, h6⟩
theorem not_smallP {w : World} {g T : Nat} {x y : Int} (h : w.heap[g]? = some (.cells #[.int .i64 x, .int .i64 y] T (0, 0))) : (∀ i z, w.cell? ⟨g, i, none⟩ ≠ some (.int .u8 z)) ∧ (∀ i z, w.cell? ⟨g, i, none⟩ ≠ some (.int .u16 z)) := by
  constructor
  · intro i z e
    rw [(one_block h).1 i] at e
    match i with
    | 0 => simp at e
    | 1 => simp at e
    | i + 2 => simp at e
  · intro i z e
    rw [(one_block h).1 i] at e
    match i with
    | 0 => simp at e
    | 1 => simp at e
    | i + 2 => simp at e
theorem set_blockP {w : World} {g T : Nat} {cs : Array Value} (h : w.heap[g]? = some (.cells cs T (0, 0))) (i : Nat) (u : Value) : (w.setCell ⟨g, i, none⟩ u).heap[g]? = some (.cells (cs.setIfInBounds i u) T (0, 0)) := by
  simp [World.setCell, Array.getElem?_modify, h]
/-- Two cells of a spot written over: what is a module's stays. -/
theorem instsV_two {w : World} {a : Option Addr} {l : List InstT} (h : InstsV w a l) {q T : Nat} {x y : Int} (hq : w.heap[q]? = some (.cells #[.int .i64 x, .int .i64 y] T (0, 0))) (u v : Int) : InstsV ((w.setCell ⟨q, 0, none⟩ (.int .i64 u)).setCell ⟨q, 1, none⟩ (.int .i64 v)) a l := by
  have q3 := not_smallP hq
  have v4 := instsV_setP h q3.1 q3.2 0 (.int .i64 u)
  have k4 := set_blockP hq 0 (.int .i64 u)
  have q4 := not_smallP (x := u) (y := y) k4
  exact instsV_setP v4 q4.1 q4.2 1 (.int .i64 v)
/-- Where a law began, and the table of powers. -/
structure BgB (w W : World) : Prop where
  bel : Below w.heap.size w W
  pw : Pow10 W
theorem BgB.below {w W W' : World} (h : BgB w W) (hb : Below W.heap.size W W') : BgB w W' := ⟨h.bel.trans (hb.mono h.bel.size), h.pw.below hb⟩
/-- A module of good shape: its text, and what is read of it. -/
theorem facts8 {g : Int} {N n : Nat} {l : List InstT} (hl : l.length = n) (hok : InstsOk l) (hr : 40 * n ≤ 140737488351232) (hg : 0 ≤ g ∧ g < 4294967296) (hN : (N : Int) < 4294967296) (h : (shapeE (N : Int) l).1 = 0) :
    ∃ S : ByteArray, S = strOfNums (textP g (N : Int) l) ∧ S.size ≤ 16777216 ∧
      (∀ wx p c, InstsV wx (some ⟨p, 0, none⟩) l → Pow10 wx → Calls Tryz.prog 8 #[.agg #[.int .u32 g, .int .u32 N, .slice (some ⟨p, 0, none⟩) n c]] wx fun e w' => e = .returned (.tuple #[.string S, .agg #[.int .i64 0, .int .i64 0]]) ∧ Below wx.heap.size wx w') ∧
      (∀ wx, Calls Tryz.prog 25 #[.string S] wx fun e w' => ∃ a c, e = .returned (.tuple #[.agg #[.int .u32 g, .int .u32 N, .slice a n c], .agg #[.int .i64 0, .int .i64 0]]) ∧ InstsV w' a l ∧ Below wx.heap.size wx w') ∧
      (∀ wx p c, InstsV wx (some ⟨p, 0, none⟩) l → Calls Tryz.prog 24 #[.agg #[.int .u32 g, .int .u32 N, .slice (some ⟨p, 0, none⟩) n c]] wx fun e w' => e = .returned (.agg #[.int .i64 0, .int .i64 0]) ∧ Below wx.heap.size wx w') := by
  have hz := textP_size hg.2 hok h
  have hpp := print_parse hg.1 hg.2 hok h hz
  have h2 : (((shapeE (N : Int) l).2 : Nat) : Int) = 0 := by rw [shape_none h]; rfl
  refine ⟨_, rfl, hz, fun wx p c hx hp => ?_, fun wx => ?_, fun wx p c hx => ?_⟩
  · have := printTextM_any g N (some ⟨p, 0, none⟩) n c l wx hx hok hl hr hg.1 hg.2 hN hp
    rw [h, h2, show txtP g (N : Int) l = strOfNums (textP g (N : Int) l) from if_pos h] at this
    exact this
  · refine (asmParse_any (strOfNums (textP g (N : Int) l)) wx).mono ?_
    rw [hpp]
    rintro e w' ⟨a, m, c, rfl, hv, hm, _, hb⟩
    simp only at hm hv
    obtain rfl : m = n := by rw [← hm]; exact hl
    exact ⟨a, c, rfl, hv, hb⟩
  · have := codeShape_any g (N : Int) (some ⟨p, 0, none⟩) n c l wx hg.1 hg.2 (by omega) hN hx hok hl hr
    rw [h, h2] at this
    exact this

end Go.Proofs.YtddkapkkjhomkabGreatDoor

/-
  None of the kit tells whether a module is none.
-/
namespace Go.Proofs.YtddkapkkjhomkabGreatDoor
open Go.RowKit
set_option linter.unusedVariables false
set_option linter.unusedSimpArgs false

theorem kitNone_none (a : Option Addr) (c : Nat) (w : World) : Calls Tryz.prog 21 #[modV 0 0 a 0 c] w fun e w' => e = .returned (.bool true) ∧ Below w.heap.size w w' := by
  unfold modV
  go_enter Tryz.func21, Tryz.ntmps21
  go_wp2
  go_ret
  exact ⟨rfl, (Below.refl _ _).alloc (Nat.le_refl _) _⟩

end Go.Proofs.YtddkapkkjhomkabGreatDoor

/-
  The law WholeText answers true, for every text, where the table of powers of ten is laid.
-/
namespace Go.Proofs.YtddkapkkjhomkabGreatDoor
open Go.RowKit
set_option linter.unusedVariables false
set_option linter.unusedSimpArgs false
set_option maxRecDepth 10000

theorem parse_noneW {s : ByteArray} (h : (parseS s).2.1 ≠ 0) : (parseS s).1 = (0, 0, []) := by
  unfold parseS at h ⊢
  repeat' split
  all_goals try rfl
  rename_i h1 h2 h3
  rw [if_neg h1, if_neg h2, if_neg h3] at h
  exact absurd rfl h
/-- The text that awakes: one type. -/
def boolS : ByteArray := ⟨#[109, 111, 100, 117, 108, 101, 32, 57, 32, 53, 10, 37, 49, 32, 61, 32, 79, 112, 84, 121, 112, 101, 66, 111, 111, 108, 10]⟩
theorem bool_parse : parseS boolS = ((9, 5, [(20, 0, 1, [])]), 0, 0) := by kernel_rfl
theorem boolParse (w : World) : Calls Tryz.prog 25 #[.string boolS] w fun e w' => ∃ a c, e = .returned (.tuple #[.agg #[.int .u32 9, .int .u32 5, .slice a 1 c], .agg #[.int .i64 0, .int .i64 0]]) ∧ Below w.heap.size w w' := by
  have h := asmParse_any boolS w
  rw [bool_parse] at h
  refine h.mono ?_
  rintro e w' ⟨a, n, c, rfl, _, hn, _, hb⟩
  obtain rfl : n = 1 := hn.symm
  exact ⟨a, c, rfl, hb⟩

set_option maxHeartbeats 8000000 in
theorem wholeText_bad (w : World) (s : ByteArray) (h : (parseS s).2.1 ≠ 0) :
    Calls Tryz.prog 7 #[.string s] w fun e w' => e = .returned (.bool true) ∧ Below w.heap.size w w' := by
  have hA := fun wx => asmParse_any s wx
  have hn := parse_noneW h
  have hN := fun ax c wx => kitNone_none ax c wx
  have hO := fun wx => boolParse wx
  unfold boolS at hO
  unfold ParQ at hA
  rw [hn] at hA
  have heb : ((parseS s).2.1 == 0) = false := by simpa using h
  generalize (parseS s).2.1 = E at *
  generalize (parseS s).2.2 = P at *
  unfold modV at hN
  simp only at hA
  clear h hn
  go_enter Tryz.func7, Tryz.ntmps7
  go_wp2_with fail
  refine (hO _).mono ?_
  rintro e w1 ⟨a1, c1, rfl, hb1⟩
  obtain ⟨k0, k1, hb2⟩ := blocks2P w1 (.cells #[.int .u32 9, .int .u32 5, .slice a1 1 c1] 25) (.cells #[.int .i64 0, .int .i64 0] 28)
  have HB2 := hide (hb1.trans (hb2.mono hb1.size))
  have HS2 := hide k1
  have HW1 := hide hb1.size
  clear hb1 hb2 k0 k1 hO
  go_wp2_with fail
  generalize (w1.alloc (.cells #[.int .u32 9, .int .u32 5, .slice a1 1 c1] 25)).alloc (.cells #[.int .i64 0, .int .i64 0] 28) = W2 at *
  generalize w1.heap.size = q1 at *
  refine (hA _).mono ?_
  rintro e w3 ⟨a3, m3, c3, rfl, hv3, hm3, hok3, hb3⟩
  obtain rfl : 0 = m3 := hm3
  have HS3 := hide (Below.kept hb3 HS2.out)
  have HB3 := hide (HB2.out.trans (hb3.mono HB2.out.size))
  clear hA hv3 hb3 hok3 HB2 HS2
  have hS3 := HS3.out
  have hlt : q1 + 1 < w3.heap.size := (Array.getElem?_eq_some_iff.1 hS3).1
  obtain ⟨x0, x1, x2⟩ := cell_of_two hS3
  have f0 := (one_block hS3).2 0
  have f1 := (one_block hS3).2 1
  have hne : ¬ q1 + 1 = w3.heap.size := by omega
  clear hS3
  go_wp2_with fail
  have hb4 := ((HB3.out.setCell (p := ⟨q1 + 1, 0, none⟩) (by have := HW1.out; simp; omega) (.int .i64 E)).setCell (p := ⟨q1 + 1, 1, none⟩) (by have := HW1.out; simp; omega) (.int .i64 P))
  have HB4 := hide (hb4.alloc hb4.size (.cells #[.int .u32 0, .int .u32 0, .slice a3 0 c3] 25))
  clear hb4 x0 x1 f0 f1 hne hlt HB3 HS3
  refine (hN _ _ _).mono ?_
  rintro e w5 ⟨rfl, hb5⟩
  go_wp2_with fail
  go_ret
  exact ⟨rfl, HB4.out.trans (hb5.mono HB4.out.size)⟩

set_option maxHeartbeats 8000000 in
theorem wholeText_ok (w : World) (s : ByteArray) (ht : Pow10 w) (h : (parseS s).2.1 = 0) :
    Calls Tryz.prog 7 #[.string s] w fun e w' => e = .returned (.bool true) ∧ Below w.heap.size w w' := by
  have hA := fun wx => asmParse_any s wx
  obtain ⟨k1, k2, _⟩ := parse_shape h
  have k4 := parse_gen s
  have k5 := parse_len s
  have hO := fun wx => boolParse wx
  unfold boolS at hO
  generalize parseS s = R at *
  obtain ⟨⟨g, b, l⟩, E, P⟩ := R
  unfold ParQ at hA
  simp only at hA h k1 k2 k4 k5
  subst h
  subst k1
  obtain ⟨N, rfl⟩ : ∃ N : Nat, b = (N : Int) := ⟨b.toNat, by omega⟩
  have HPW := hide ht
  have HK2 := hide k2
  have HK4 := hide k4
  have HK5 := hide k5
  clear ht k2 k4 k5
  go_enter Tryz.func7, Tryz.ntmps7
  go_wp2_with fail
  refine (hO _).mono ?_
  rintro e w1 ⟨a1, c1, rfl, hb1⟩
  obtain ⟨k0, k1, hb2⟩ := blocks2P w1 (.cells #[.int .u32 9, .int .u32 5, .slice a1 1 c1] 25) (.cells #[.int .i64 0, .int .i64 0] 28)
  have HB2 := hide (hb1.trans (hb2.mono hb1.size))
  have HS2 := hide k1
  have HW1 := hide hb1.size
  clear hb1 hb2 k0 k1 hO
  go_wp2_with fail
  generalize (w1.alloc (.cells #[.int .u32 9, .int .u32 5, .slice a1 1 c1] 25)).alloc (.cells #[.int .i64 0, .int .i64 0] 28) = W2 at *
  generalize w1.heap.size = q1 at *
  refine (hA _).mono ?_
  rintro e w3 ⟨a3, n3, c3, rfl, hv3, hn3, hok, hb3⟩
  obtain ⟨S, hS, hsz, hT, hP, hSh⟩ := facts8 (n := n3) (g := g) (N := N) hn3 hok (by have := HK5.out; omega) ⟨HK4.out.1, HK4.out.2.1⟩ HK4.out.2.2.2 (by rw [HK2.out])
  have HCP := hide fun wx ax cx (hx : InstsV wx ax l) => copyModule_any g (N : Int) ax n3 cx l wx hx hok hn3 (by have := HK5.out; omega)
  have HKM := hide fun wx ax ay cx cy (h1 : InstsV wx ax l) (h2 : InstsV wx ay l) => kitModule_any g (N : Int) g (N : Int) l l ax ay n3 n3 cx cy wx h1 h2 hn3 hn3 hok hok (by have := HK5.out; omega) (by have := HK5.out; omega) true (by simp)
  have HT := hide hT
  have HP := hide hP
  have HSH := hide hSh
  have hszd : decide ((16777216 : Int) < (S.size : Int)) = false := by simp; omega
  have hS3 := Below.kept hb3 HS2.out
  have HV4 := hide (instsV_two hv3 hS3 0 0)
  have hB3 := HB2.out.trans (hb3.mono HB2.out.size)
  have hb4 := ((hB3.setCell (p := ⟨q1 + 1, 0, none⟩) (by have := HW1.out; simp; omega) (.int .i64 0)).setCell (p := ⟨q1 + 1, 1, none⟩) (by have := HW1.out; simp; omega) (.int .i64 0))
  have HB4 := hide (BgB.mk hb4 (HPW.out.below hb4))
  have hlt : q1 + 1 < w3.heap.size := (Array.getElem?_eq_some_iff.1 hS3).1
  obtain ⟨x0, x1, x2⟩ := cell_of_two hS3
  have f0 := (one_block hS3).2 0
  have f1 := (one_block hS3).2 1
  have hne : ¬ q1 + 1 = w3.heap.size := by omega
  have hws : ((w3.setCell ⟨q1 + 1, 0, none⟩ (.int .i64 0)).setCell ⟨q1 + 1, 1, none⟩ (.int .i64 0)).heap.size = w3.heap.size := by simp [World.setCell]
  have HWS := hide hws
  unfold modV at *
  clear hA hv3 hn3 hok hb3 hT hP hsz hS hSh hB3 hb4 HK2 HK4 HK5 HPW HB2 HS2 hS3 hws
  go_wp2_with fail
  clear x0 x1 f0 f1 hne hlt
  generalize (w3.setCell ⟨q1 + 1, 0, none⟩ (.int .i64 0)).setCell ⟨q1 + 1, 1, none⟩ (.int .i64 0) = W3 at *
  generalize w3.heap.size = q3 at *
  have hq : W3.heap.size = q3 := HWS.out
  subst hq
  have hb5 := below_one8 W3 (.cells #[.int .u32 g, .int .u32 (N : Int), .slice a3 n3 c3] 25)
  have HM5 := hide (MdB.mk (alloc_new W3 #[.int .u32 g, .int .u32 (N : Int), .slice a3 n3 c3] 25) (HV4.out.below hb5))
  have HB5 := hide (HB4.out.below hb5)
  clear HWS HV4 HB4 hb5
  generalize W3.alloc (.cells #[.int .u32 g, .int .u32 (N : Int), .slice a3 n3 c3] 25) = W5 at *
  generalize W3.heap.size = q3 at *
  refine (HCP.out W5 a3 c3 HM5.out.lv).mono ?_
  rintro e w6 ⟨p6, rfl, _, hv6, hb6⟩
  have hc6 := HSH.out w6 p6 n3 hv6
  have HB6 := hide (HB5.out.below hb6)
  have HM6 := hide (HM5.out.below hb6)
  clear hb6 hv6 HB5 HM5 HSH
  go_wp2_with fail
  refine hc6.mono ?_
  rintro e w7 ⟨rfl, hb7⟩
  have HB7 := hide (HB6.out.below hb7)
  have HM7 := hide (HM6.out.below hb7)
  obtain ⟨m0, m1, m2⟩ := HM7.out.cells
  clear hb7 hc6 HB6 HM6
  go_wp2_with fail
  refine (HCP.out w7 a3 c3 HM7.out.lv).mono ?_
  rintro e w8 ⟨p8, rfl, _, hv8, hb8⟩
  have hc8 := HT.out w8 p8 n3 hv8 (HB7.out.below hb8).pw
  have HB8 := hide (HB7.out.below hb8)
  have HM8 := hide (HM7.out.below hb8)
  clear hb8 hv8 HB7 HM7 m0 m1 m2
  go_wp2_with fail
  refine hc8.mono ?_
  rintro e w9 ⟨rfl, hb9⟩
  have hbA := below_one8 w9 (.cells #[.int .i64 0, .int .i64 0] 28)
  have HBA := hide ((HB8.out.below hb9).below hbA)
  have HMA := hide ((HM8.out.below hb9).below hbA)
  obtain ⟨u0, u1, _⟩ := cell_of_two (alloc_new w9 #[.int .i64 0, .int .i64 0] 28)
  clear hc8 hb9 hbA HB8 HM8
  go_wp2_with fail
  generalize w9.alloc (.cells #[.int .i64 0, .int .i64 0] 28) = WA at *
  generalize w9.heap.size = q9 at *
  clear u0 u1
  refine (HP.out WA).mono ?_
  rintro e wB ⟨aB, cB, rfl, hvB, hbB⟩
  obtain ⟨kn, kv, hbC⟩ := blocks2P wB (.cells #[.int .u32 g, .int .u32 (N : Int), .slice aB n3 cB] 25) (.cells #[.int .i64 0, .int .i64 0] 28)
  have HBC := hide ((HBA.out.below hbB).below hbC)
  have HMC := hide ((HMA.out.below hbB).below hbC)
  have HNC := hide (MdB.mk kn (hvB.below hbC))
  have HVC := hide kv
  obtain ⟨m0, m1, m2⟩ := HNC.out.cells
  clear hvB hbB hbC kn kv HBA HMA HP
  go_wp2_with fail
  generalize (wB.alloc (.cells #[.int .u32 g, .int .u32 (N : Int), .slice aB n3 cB] 25)).alloc (.cells #[.int .i64 0, .int .i64 0] 28) = WC at *
  generalize wB.heap.size = qB at *
  refine (HCP.out WC aB cB HNC.out.lv).mono ?_
  rintro e wD ⟨pD, rfl, _, hvD, hbD⟩
  have hcD := HT.out wD pD n3 hvD (HBC.out.below hbD).pw
  have HBD := hide (HBC.out.below hbD)
  have HMD := hide (HMC.out.below hbD)
  have HND := hide (HNC.out.below hbD)
  have HVD := hide (Below.kept hbD HVC.out)
  clear hbD hvD HBC HMC HNC HVC m0 m1 m2 HT HCP
  go_wp2_with fail
  refine hcD.mono ?_
  rintro e wE ⟨rfl, hbE⟩
  have hbF := below_one8 wE (.cells #[.int .i64 0, .int .i64 0] 28)
  have HBF := hide ((HBD.out.below hbE).below hbF)
  have HMF := hide ((HMD.out.below hbE).below hbF)
  have HNF := hide ((HND.out.below hbE).below hbF)
  have HVF := hide (Below.kept hbF (Below.kept hbE HVD.out))
  have HWF := hide (alloc_new wE #[.int .i64 0, .int .i64 0] 28)
  have hKM := HKM.out _ aB a3 cB c3 HNF.out.lv HMF.out.lv
  obtain ⟨m0, m1, m2⟩ := HMF.out.cells
  obtain ⟨n0, n1', n2⟩ := HNF.out.cells
  obtain ⟨v0, v1, _⟩ := cell_of_two HVF.out
  clear hcD hbE hbF HBD HMD HND HVD HKM
  go_wp2_with fail
  generalize wE.alloc (.cells #[.int .i64 0, .int .i64 0] 28) = WF at *
  generalize wE.heap.size = qE at *
  refine hKM.mono ?_
  rintro e wG ⟨rfl, hbG⟩
  have HBG := hide (HBF.out.below hbG)
  obtain ⟨x0, x1, _⟩ := cell_of_two (Below.kept hbG HWF.out)
  clear hKM hbG HBF HMF HNF HVF HWF m0 m1 m2 n0 n1' n2 v0 v1
  go_wp2_with fail
  go_ret
  exact ⟨rfl, HBG.out.bel⟩

theorem wholeText_true (w : World) (s : ByteArray) (hs : s.size ≤ 140737488351232) (ht : Pow10 w) :
    Calls Tryz.prog 7 #[.string s] w fun e w' => e = .returned (.bool true) ∧ Below w.heap.size w w' := by
  by_cases h : (parseS s).2.1 = 0
  · exact wholeText_ok w s ht h
  · exact wholeText_bad w s h

end Go.Proofs.YtddkapkkjhomkabGreatDoor

/-
  The law WholeText holds where the three listed tables hold what the program lays in them: called with any arguments it returns true, and each argument reads behind the call as it read before.
-/
namespace Go.Proofs.YtddkapkkjhomkabGreatDoor.wholeText
open Go.ChangeShapes Go.WideShapes Go.ChangeAt Go.RowKit
open Go.ChangeMaps (open_string shut_string)
set_option linter.unusedVariables false

theorem own : ownKnob Tryz.prog.godebug = none := by kernel_rfl
theorem gPow : Tryz.prog.globalNamed "internal/strconv.uint64pow10" = some 1 := by kernel_rfl
theorem tPow : (Tryz.prog.globals[1]?).map (·.type) = some 261 := by kernel_rfl
theorem cPow : Tryz.prog.cellsOf 261 = 20 := by kernel_rfl
theorem cElem : Tryz.prog.cellsOf 136 = 1 := by kernel_rfl
abbrev laid3 : List (String × DataW Unit) := [("math/bits.deBruijn32tab", Rows.laid_math_bits_deBruijn32tab), ("math/bits.deBruijn64tab", Rows.laid_math_bits_deBruijn64tab), ("internal/strconv.uint64pow10", Rows.laid_internal_strconv_uint64pow10)]
/-- The heap that the start-up leaves meets the condition. -/
theorem door_met (os : Os) (args : Array Value) : laidMetH Tryz.prog laid3 ((World.doorLaid Tryz.prog 400 os).forCall (fun _ _ => 0) ⟨#[], args, []⟩).memory :=
  laidMetH_of_parts3 (fuel := 8) (laidMet_of_run' 8 (by kernel_rfl) (by kernel_rfl)) (by kernel_rfl) (by kernel_rfl)
/-- What the condition gives: the table of powers of ten. -/
theorem of_laid {W : World} (h : laidMetH Tryz.prog laid3 W) : Pow10 W := by
  rw [MakeChecks.laidMetH_plain _ _ _ (by kernel_rfl)] at h
  have h3 := (laidMet.tail (laidMet.tail h))
  exact Lib.tabIs_of_head (k := .u64) (zs := Lib.pow10Tab) gPow tPow Tryz.underlying261 Tryz.underlying136 cElem cPow h3

set_option maxRecDepth 100000 in
theorem lifted (os : Os) (started : os.Started) (H : Type) (enc : TypeId × Value → H) :
    ReturnsInHanded {} Tryz.checked os 7 .any (fun w args => (Rows.wholeTextSpec.pre enc Tryz.prog Tryz.f7 [] false w args ∧ laidMetH Tryz.prog laid3 w) ∧ sizedMet enc Tryz.prog Tryz.f7 (OpenSpec.ofChange Rows.wholeTextSpec) false w args) (Rows.wholeTextSpec.post enc Tryz.prog Tryz.f7 false true false false) := by
  refine returnsInHanded_of_change_and (C := Tryz.checked) (X := fun w _ => laidMetH Tryz.prog laid3 w) (fun _ _ _ hh h => h.of_heap hh) own started (by kernel_rfl) Tryz.func7
    (ChangeSpec.witness_shaped (enc := enc) (C := Tryz.checked) (os := os) (X := fun w _ => laidMetH Tryz.prog laid3 w) false (World.doorLaid Tryz.prog 400 os) #[.string ⟨#[]⟩] 8 rfl (World.shaped_of_RefB (by kernel_rfl) (by kernel_rfl)) (by kernel_rfl) (by kernel_rfl) (by kernel_rfl) (door_met os _)) ?_
  intro W base args ds gs before hval0 hW _ hsz0 hL _
  have hsz : (DataW.weightsEach Tryz.prog (Tryz.f7.params.toList ++ Rows.wholeTextSpec.plain.varTypes Tryz.prog) (ds ++ gs)).all (· ≤ reachBytes) = true := hsz0
  clear hsz0
  have hval : ∀ (j : Nat) t v, Tryz.f7.params[j]? = some t → args[j]? = some v → Value.okWide Tryz.prog W .any base t v := hval0
  have hW' := hW
  obtain ⟨p, q, hA0, hV, rfl, hfz, hnd⟩ := hW
  have hA : DataW.TrodAll enc Tryz.prog W 0 (fun _ => true) true Tryz.f7.params.toList args.toList ds p := hA0
  rw [Tryz.params7] at hA hval hsz
  obtain ⟨v0, vs0, d0, ds0, p0, q0, hargs, rfl, rfl, h0, r0⟩ := trodAll_cons hA
  obtain ⟨rfl, rfl, rfl⟩ := trodAll_nil r0
  obtain rfl : args = #[v0] := by cases args; simp_all
  obtain ⟨rfl, rfl⟩ := trodVars_none hV
  obtain ⟨s0, rfl, rfl, rfl, w0⟩ := open_string Tryz.underlying9 (hval 0 9 v0 rfl rfl) h0
  have sz0 : s0.size ≤ 140737488351232 := by
    have := sized_string hsz (j := 0) (t := 9) rfl rfl
    simpa [reachBytes] using this
  clear hA0 hval0
  refine (wholeText_true W s0 sz0 (of_laid hL)).mono fun e W' ⟨he, bel⟩ => ?_
  subst he
  exact ⟨_, rfl, _, _, _, [], _, [], hW', trodAll_mk1 (shut_bool Tryz.underlying4 _), (trodAll_cons_mk (shut_string Tryz.underlying9 w0) trodAll_mk0), rfl, bel.frame _, fun h => by cases h⟩

theorem over : Rows.wholeTextRow.holds Tryz.pinned (OpenSpec.ofChange Rows.wholeTextSpec) :=
  OpenClaim.holds_of_wide 7 Tryz.f7 rfl rfl rfl rfl rfl rfl rfl ⟨rfl, rfl, rfl, rfl, rfl⟩ rfl rfl rfl rfl rfl (by kernel_rfl) Tryz.func7 (by kernel_rfl)
    (of_decide_eq_true (by kernel_rfl)) (by unfold Func.isWrapper; first | (rw [if_pos (by decide +kernel)]; kernel_rfl) | (rw [if_neg (by decide +kernel)]; exact ⟨rfl, rfl⟩))
    (fun os started H enc _ => lifted os started H enc)

end Go.Proofs.YtddkapkkjhomkabGreatDoor.wholeText

namespace Go.Proofs.YtddkapkkjhomkabGreatDoor
theorem wholeText_holds : Rows.WholeTextSaid := wholeText.over
#print axioms wholeText_holds
end Go.Proofs.YtddkapkkjhomkabGreatDoor
