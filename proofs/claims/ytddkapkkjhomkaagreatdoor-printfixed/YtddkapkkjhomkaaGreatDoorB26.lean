/-
  Texts laid together in one: AsmParseL, Law08Keep, KitNone, LawPrintFixed, PrintFixedProof.
-/
import Derived.WalkSpells
import Derived.WalkMore
import Derived.BigRegion
import Derived.Test.YtddkapkkjhomkaaGreatDoorProg
import Derived.Test.YtddkapkkjhomkaaGreatDoorB23
import Derived.Test.YtddkapkkjhomkaaGreatDoorB25
import Derived.Test.YtddkapkkjhomkaaGreatDoorB01
import Derived.Test.YtddkapkkjhomkaaGreatDoorB02
import Derived.Test.YtddkapkkjhomkaaGreatDoorB24
import Derived.Test.YtddkapkkjhomkaaGreatDoorB14
import Derived.Test.YtddkapkkjhomkaaGreatDoorRows
import Derived.ProofKit
import Derived.LaidMore
import Derived.Stop.Joined
import Derived.Stop.LaidErr
import Derived.Lib.LaidTab
import Derived.OpenShut
import Derived.ShutString
import Derived.ChangeOld
import Derived.Below
import Derived.SizedLaws
/-
  What Parse of the layer asm returns, for every text.
-/
namespace Go.Proofs.YtddkapkkjhomkaaGreatDoor
open Go.RowKit
set_option linter.unusedVariables false
set_option linter.unusedSimpArgs false
set_option maxRecDepth 10000

set_option maxHeartbeats 2000000 in
theorem asmParse_large (s : ByteArray) (w : World) (hs : 16777216 < s.size) :
    Calls Tryz.prog 23 #[.string s] w fun e w' => ParQ w w' (parseS s) e := by
  have hsi : decide ((16777216 : Int) < (s.size : Int)) = true := by simpa using (by omega : (16777216 : Int) < (s.size : Int))
  have HR : Hid (parseS s = ((0, 0, []), 4, 0)) := by show _ = _; unfold parseS; rw [if_pos hs]
  clear hs
  go_enter Tryz.func23, Tryz.ntmps23
  go_wp2_with fail
  refine bodyPost_ret (v := .tuple #[.agg #[.int .u32 0, .int .u32 0, .slice none 0 0], .agg #[.int .i64 4, .int .i64 0]]) ?_ rfl ?_
  · simp [results, Tryz.results23, go_sem]
  · unfold ParQ
    rw [HR.out]
    exact ⟨none, 0, 0, rfl, instsV_nil, rfl, fun j hj => by simp at hj, ((Below.refl _ w).alloc (Nat.le_refl _) _).alloc (by simp) _⟩

theorem asmParse_any (s : ByteArray) (w : World) : Calls Tryz.prog 23 #[.string s] w fun e w' => ParQ w w' (parseS s) e := by
  by_cases hs : s.size ≤ 16777216
  · exact asmParse_main s w hs
  · exact asmParse_large s w (by omega)

end Go.Proofs.YtddkapkkjhomkaaGreatDoor

/-
  What stands while a law of layer 8 goes on.
-/
namespace Go.Proofs.YtddkapkkjhomkaaGreatDoor
open Go.RowKit
set_option linter.unusedVariables false
set_option linter.unusedSimpArgs false
set_option maxRecDepth 10000

/-- The box of m, and what it holds. -/
structure PrB (w W : World) (g : Int) (N : Nat) (a : Option Addr) (n c : Nat) (l : List InstT) : Prop where
  mbox : W.heap[w.heap.size]? = some (.cells #[.int .u32 g, .int .u32 (N : Int), .slice a n c] 25 (0, 0))
  lv : InstsV W a l
  bel : Below w.heap.size w W
  pw : Pow10 W
theorem PrB.below {w W W' : World} {g : Int} {N : Nat} {a : Option Addr} {n c : Nat} {l : List InstT} (h : PrB w W g N a n c l) (hb : Below W.heap.size W W') : PrB w W' g N a n c l :=
  ⟨(hb.block _ (Array.getElem?_eq_some_iff.1 h.mbox).1).trans h.mbox, h.lv.below hb, h.bel.trans (hb.mono h.bel.size), h.pw.below hb⟩
theorem PrB.cells {w W : World} {g : Int} {N : Nat} {a : Option Addr} {n c : Nat} {l : List InstT} (h : PrB w W g N a n c l) : W.cell? ⟨w.heap.size, 0, none⟩ = some (.int .u32 g) ∧ W.cell? ⟨w.heap.size, 1, none⟩ = some (.int .u32 (N : Int)) ∧ W.cell? ⟨w.heap.size, 2, none⟩ = some (.slice a n c) :=
  ⟨(one_block h.mbox).1 0, (one_block h.mbox).1 1, (one_block h.mbox).1 2⟩
theorem PrB.start {w : World} {g : Int} {N : Nat} {a : Option Addr} {n : Nat} (c : Nat) {l : List InstT} (hv : InstsV w a l) (ht : Pow10 w) : PrB w (w.alloc (.cells #[.int .u32 g, .int .u32 (N : Int), .slice a n c] 25)) g N a n c l :=
  have hba : Below w.heap.size w (w.alloc (.cells #[.int .u32 g, .int .u32 (N : Int), .slice a n c] 25)) := (Below.refl _ w).alloc (Nat.le_refl _) _
  ⟨heap_alloc_new w _, hv.below hba, hba, ht.below hba⟩
theorem field_zeroP (x y : Value) (w : World) : (Instr.field 28 (.agg #[x, y]) 0).run Tryz.prog w = .ok x w := by
  kernel_rfl
theorem below_one8 (w : World) (o : Obj) : Below w.heap.size w (w.alloc o) := (Below.refl _ w).alloc (Nat.le_refl _) _
theorem blocks2P (w : World) (o0 o1 : Obj) : ((w.alloc o0).alloc o1).heap[w.heap.size]? = some o0 ∧ ((w.alloc o0).alloc o1).heap[w.heap.size + 1]? = some o1 ∧ Below w.heap.size w ((w.alloc o0).alloc o1) := by
  refine ⟨?_, ?_, ((Below.refl _ w).alloc (Nat.le_refl _) _).alloc (by simp) _⟩
  · rw [Below.heap_alloc _ _ _ (by simp)]; exact heap_alloc_new _ _
  · have := heap_alloc_new (w.alloc o0) o1; simpa using this
theorem Below.kept {W W' : World} (hb : Below W.heap.size W W') {p : Nat} {o : Obj} (h : W.heap[p]? = some o) : W'.heap[p]? = some o := (hb.block _ (Array.getElem?_eq_some_iff.1 h).1).trans h

theorem growP {W wx w' : World} (h : Below W.heap.size W wx) (hb : Below wx.heap.size wx w') : Below W.heap.size W w' := h.trans (hb.mono h.size)
theorem below_drewP (W : World) : Below W.heap.size W W.drew := (Below.refl _ W).drew
/-- The box of a module at any place, and what it holds. -/
structure MdB (W : World) (p : Nat) (g : Int) (N : Nat) (a : Option Addr) (n c : Nat) (l : List InstT) : Prop where
  mbox : W.heap[p]? = some (.cells #[.int .u32 g, .int .u32 (N : Int), .slice a n c] 25 (0, 0))
  lv : InstsV W a l
theorem MdB.below {W W' : World} {p : Nat} {g : Int} {N : Nat} {a : Option Addr} {n c : Nat} {l : List InstT} (h : MdB W p g N a n c l) (hb : Below W.heap.size W W') : MdB W' p g N a n c l := ⟨Below.kept hb h.mbox, h.lv.below hb⟩
theorem MdB.cells {W : World} {p : Nat} {g : Int} {N : Nat} {a : Option Addr} {n c : Nat} {l : List InstT} (h : MdB W p g N a n c l) : W.cell? ⟨p, 0, none⟩ = some (.int .u32 g) ∧ W.cell? ⟨p, 1, none⟩ = some (.int .u32 (N : Int)) ∧ W.cell? ⟨p, 2, none⟩ = some (.slice a n c) :=
  ⟨(one_block h.mbox).1 0, (one_block h.mbox).1 1, (one_block h.mbox).1 2⟩
/-- Where a law began, and the table of powers. -/
structure BgB (w W : World) : Prop where
  bel : Below w.heap.size w W
  pw : Pow10 W
theorem BgB.below {w W W' : World} (h : BgB w W) (hb : Below W.heap.size W W') : BgB w W' := ⟨h.bel.trans (hb.mono h.bel.size), h.pw.below hb⟩
/-- A module of good shape: its text, and what is read of it. -/
theorem facts8 {g : Int} {N n : Nat} {l : List InstT} (hl : l.length = n) (hok : InstsOk l) (hr : 40 * n ≤ 140737488351232) (hg : 0 ≤ g ∧ g < 4294967296) (hN : (N : Int) < 4294967296) (h : (shapeE (N : Int) l).1 = 0) :
    ∃ S : ByteArray, S = strOfNums (textP g (N : Int) l) ∧ S.size ≤ 16777216 ∧
      (∀ wx p c, InstsV wx (some ⟨p, 0, none⟩) l → Pow10 wx → Calls Tryz.prog 11 #[.agg #[.int .u32 g, .int .u32 N, .slice (some ⟨p, 0, none⟩) n c]] wx fun e w' => e = .returned (.tuple #[.string S, .agg #[.int .i64 0, .int .i64 0]]) ∧ Below wx.heap.size wx w') ∧
      (∀ wx, Calls Tryz.prog 23 #[.string S] wx fun e w' => ∃ a c, e = .returned (.tuple #[.agg #[.int .u32 g, .int .u32 N, .slice a n c], .agg #[.int .i64 0, .int .i64 0]]) ∧ InstsV w' a l ∧ Below wx.heap.size wx w') ∧
      (∀ wx p c, InstsV wx (some ⟨p, 0, none⟩) l → Calls Tryz.prog 22 #[.agg #[.int .u32 g, .int .u32 N, .slice (some ⟨p, 0, none⟩) n c]] wx fun e w' => e = .returned (.agg #[.int .i64 0, .int .i64 0]) ∧ Below wx.heap.size wx w') := by
  have hz := textP_size hg.2 hok h
  have hpp := print_parse hg.1 hg.2 hok h hz
  have h2 : (((shapeE (N : Int) l).2 : Nat) : Int) = 0 := by rw [shape_none h]; rfl
  refine ⟨_, rfl, hz, fun wx p c hx hp => ?_, fun wx => ?_, fun wx p c hx => ?_⟩
  · have := printTextM_any g N (some ⟨p, 0, none⟩) n c l wx hx hok hl hr hg.1 hg.2 hN hp
    rw [h, h2, show txtP g (N : Int) l = strOfNums (textP g (N : Int) l) from if_pos h] at this
    exact this
  · refine (asmParse_any (strOfNums (textP g (N : Int) l)) wx).mono ?_
    rw [hpp]
    rintro e w' ⟨a, m, c, rfl, hv, hm, _, hb⟩
    simp only at hm hv
    obtain rfl : m = n := by rw [← hm]; exact hl
    exact ⟨a, c, rfl, hv, hb⟩
  · have := codeShape_any g (N : Int) (some ⟨p, 0, none⟩) n c l wx hg.1 hg.2 (by omega) hN hx hok hl hr
    rw [h, h2] at this
    exact this

end Go.Proofs.YtddkapkkjhomkaaGreatDoor

/-
  None of the kit tells whether a module is none.
-/
namespace Go.Proofs.YtddkapkkjhomkaaGreatDoor
open Go.RowKit
set_option linter.unusedVariables false
set_option linter.unusedSimpArgs false

theorem kitNone_none (a : Option Addr) (c : Nat) (w : World) : Calls Tryz.prog 24 #[modV 0 0 a 0 c] w fun e w' => e = .returned (.bool true) ∧ Below w.heap.size w w' := by
  unfold modV
  go_enter Tryz.func24, Tryz.ntmps24
  go_wp2
  go_ret
  exact ⟨rfl, (Below.refl _ _).alloc (Nat.le_refl _) _⟩

end Go.Proofs.YtddkapkkjhomkaaGreatDoor

/-
  The law PrintFixed answers true, for every text, where the table of powers of ten is laid.
-/
namespace Go.Proofs.YtddkapkkjhomkaaGreatDoor
open Go.RowKit
set_option linter.unusedVariables false
set_option linter.unusedSimpArgs false
set_option maxRecDepth 10000

theorem parse_none8 {s : ByteArray} (h : (parseS s).2.1 ≠ 0) : (parseS s).1 = (0, 0, []) := by
  unfold parseS at h ⊢
  repeat' split
  all_goals try rfl
  rename_i h1 h2 h3
  rw [if_neg h1, if_neg h2, if_neg h3] at h
  exact absurd rfl h

set_option maxHeartbeats 8000000 in
theorem printFixed_bad (w : World) (s : ByteArray) (ht : Pow10 w) (h : (parseS s).2.1 ≠ 0) :
    Calls Tryz.prog 7 #[.string s] w fun e w' => e = .returned (.bool true) ∧ Below w.heap.size w w' := by
  have hA := fun wx => asmParse_any s wx
  have hn := parse_none8 h
  have hN := fun ax c wx => kitNone_none ax c wx
  unfold ParQ at hA
  rw [hn] at hA
  have heb : ((parseS s).2.1 == 0) = false := by simpa using h
  generalize (parseS s).2.1 = E at *
  generalize (parseS s).2.2 = P at *
  unfold modV at hN
  simp only at hA
  have HPW := hide ht
  clear h hn ht
  go_enter Tryz.func7, Tryz.ntmps7
  go_wp2_with fail
  refine (hA _).mono ?_
  rintro e w1 ⟨a1, m1, c1, rfl, hv1, hm1, hok1, hb1⟩
  obtain rfl : 0 = m1 := hm1
  have HK1 := hide ((BgB.mk hb1 (HPW.out.below hb1)).below (blocks2P w1 (.cells #[.int .u32 0, .int .u32 0, .slice a1 0 c1] 25) (.cells #[.int .i64 E, .int .i64 P] 28)).2.2)
  clear hA hv1 hb1 hok1 HPW
  go_wp2_with fail
  refine (hN _ _ _).mono ?_
  rintro e w2 ⟨rfl, hb2⟩
  have HK2 := hide (HK1.out.below hb2)
  have hA2 := awake8_true w2 HK2.out.pw
  clear hb2 HK1
  go_wp2_with fail
  refine hA2.mono ?_
  rintro e w3 ⟨rfl, hb3⟩
  go_wp2_with fail
  go_ret
  exact ⟨rfl, (HK2.out.below hb3).bel⟩

set_option maxHeartbeats 8000000 in
theorem printFixed_ok (w : World) (s : ByteArray) (ht : Pow10 w) (h : (parseS s).2.1 = 0) :
    Calls Tryz.prog 7 #[.string s] w fun e w' => e = .returned (.bool true) ∧ Below w.heap.size w w' := by
  have hA := fun wx => asmParse_any s wx
  obtain ⟨k1, k2, _⟩ := parse_shape h
  have k4 := parse_gen s
  have k5 := parse_len s
  generalize parseS s = R at *
  obtain ⟨⟨g, b, l⟩, E, P⟩ := R
  unfold ParQ at hA
  simp only at hA h k1 k2 k4 k5
  subst h
  subst k1
  obtain ⟨N, rfl⟩ : ∃ N : Nat, b = (N : Int) := ⟨b.toNat, by omega⟩
  have HPW := hide ht
  have HK2 := hide k2
  have HK4 := hide k4
  have HK5 := hide k5
  clear ht k2 k4 k5
  go_enter Tryz.func7, Tryz.ntmps7
  go_wp2_with fail
  refine (hA _).mono ?_
  rintro e w1 ⟨a1, n1, c1, rfl, hv1, hn1, hok, hb1⟩
  obtain ⟨S, hS, hsz, hT, hP, hSh⟩ := facts8 (n := n1) (g := g) (N := N) hn1 hok (by have := HK5.out; omega) ⟨HK4.out.1, HK4.out.2.1⟩ HK4.out.2.2.2 (by rw [HK2.out])
  have HCP := hide fun wx ax cx (hx : InstsV wx ax l) => copyModule_any g (N : Int) ax n1 cx l wx hx hok hn1 (by have := HK5.out; omega)
  have HKM := hide fun wx ax ay cx cy (h1 : InstsV wx ax l) (h2 : InstsV wx ay l) => kitModule_any g (N : Int) g (N : Int) l l ax ay n1 n1 cx cy wx h1 h2 hn1 hn1 hok hok (by have := HK5.out; omega) (by have := HK5.out; omega) true (by simp)
  have HT := hide hT
  have HP := hide hP
  obtain ⟨km, ks, hb2⟩ := blocks2P w1 (.cells #[.int .u32 g, .int .u32 (N : Int), .slice a1 n1 c1] 25) (.cells #[.int .i64 0, .int .i64 0] 28)
  have HB2 := hide ((BgB.mk hb1 (HPW.out.below hb1)).below hb2)
  have HM2 := hide (MdB.mk km (hv1.below hb2))
  obtain ⟨m0, m1, m2⟩ := HM2.out.cells
  obtain ⟨d0, d1, _⟩ := cell_of_two ks
  unfold modV at *
  clear hA hv1 hn1 hok hb1 hT hP hsz km ks hb2 HK2 HK4 HK5 HPW hS hSh
  go_wp2_with fail
  generalize (w1.alloc (.cells #[.int .u32 g, .int .u32 (N : Int), .slice a1 n1 c1] 25)).alloc (.cells #[.int .i64 0, .int .i64 0] 28) = W2 at *
  generalize w1.heap.size = q1 at *
  refine (HCP.out W2 a1 c1 HM2.out.lv).mono ?_
  rintro e w3 ⟨p3, rfl, _, hv3, hb3⟩
  have hc3 := HT.out w3 p3 n1 hv3 (HB2.out.below hb3).pw
  have HB3 := hide (HB2.out.below hb3)
  have HM3 := hide (HM2.out.below hb3)
  clear hb3 hv3 HB2 HM2 m0 m1 m2 d0 d1
  go_wp2_with fail
  refine hc3.mono ?_
  rintro e w4 ⟨rfl, hb4⟩
  have hb5 := below_one8 w4 (.cells #[.int .i64 0, .int .i64 0] 28)
  have HB5 := hide ((HB3.out.below hb4).below hb5)
  have HM5 := hide ((HM3.out.below hb4).below hb5)
  have HT5 := hide (alloc_new w4 #[.int .i64 0, .int .i64 0] 28)
  clear hc3 hb4 hb5 HB3 HM3
  go_wp2_with fail
  generalize w4.alloc (.cells #[.int .i64 0, .int .i64 0] 28) = W5 at *
  generalize w4.heap.size = q4 at *
  refine (HP.out W5).mono ?_
  rintro e w6 ⟨a6, c6, rfl, hv6, hb6⟩
  obtain ⟨kn, ku, hb7⟩ := blocks2P w6 (.cells #[.int .u32 g, .int .u32 (N : Int), .slice a6 n1 c6] 25) (.cells #[.int .i64 0, .int .i64 0] 28)
  have HB7 := hide ((HB5.out.below hb6).below hb7)
  have HM7 := hide ((HM5.out.below hb6).below hb7)
  have HT7 := hide (Below.kept hb7 (Below.kept hb6 HT5.out))
  have HN7 := hide (MdB.mk kn (hv6.below hb7))
  have HU7 := hide ku
  obtain ⟨m0, m1, m2⟩ := HN7.out.cells
  clear hv6 hb6 hb7 kn ku HB5 HM5 HT5 HP
  go_wp2_with fail
  generalize (w6.alloc (.cells #[.int .u32 g, .int .u32 (N : Int), .slice a6 n1 c6] 25)).alloc (.cells #[.int .i64 0, .int .i64 0] 28) = W7 at *
  generalize w6.heap.size = q6 at *
  refine (HCP.out W7 a6 c6 HN7.out.lv).mono ?_
  rintro e w8 ⟨p8, rfl, _, hv8, hb8⟩
  have hc8 := HT.out w8 p8 n1 hv8 (HB7.out.below hb8).pw
  have HB8 := hide (HB7.out.below hb8)
  have HM8 := hide (HM7.out.below hb8)
  have HN8 := hide (HN7.out.below hb8)
  have HT8 := hide (Below.kept hb8 HT7.out)
  have HU8 := hide (Below.kept hb8 HU7.out)
  clear hb8 hv8 HB7 HM7 HN7 HT7 HU7 m0 m1 m2 HT HCP
  go_wp2_with fail
  refine hc8.mono ?_
  rintro e w9 ⟨rfl, hb9⟩
  have hbA := below_one8 w9 (.cells #[.int .i64 0, .int .i64 0] 28)
  have HBA := hide ((HB8.out.below hb9).below hbA)
  have HMA := hide ((HM8.out.below hb9).below hbA)
  have HNA := hide ((HN8.out.below hb9).below hbA)
  have HTA := hide (Below.kept hbA (Below.kept hb9 HT8.out))
  have HUA := hide (Below.kept hbA (Below.kept hb9 HU8.out))
  have HVA := hide (alloc_new w9 #[.int .i64 0, .int .i64 0] 28)
  have hKM := HKM.out _ a6 a1 c6 c1 HNA.out.lv HMA.out.lv
  obtain ⟨m0, m1, m2⟩ := HMA.out.cells
  obtain ⟨n0, n1', n2⟩ := HNA.out.cells
  obtain ⟨t0, t1, _⟩ := cell_of_two HTA.out
  obtain ⟨u0, u1, _⟩ := cell_of_two HUA.out
  clear hc8 hb9 hbA HB8 HM8 HN8 HT8 HU8 HKM
  go_wp2_with fail
  generalize w9.alloc (.cells #[.int .i64 0, .int .i64 0] 28) = WA at *
  generalize w9.heap.size = q9 at *
  refine hKM.mono ?_
  rintro e wB ⟨rfl, hbB⟩
  have HBB := hide (HBA.out.below hbB)
  obtain ⟨v0, v1, _⟩ := cell_of_two (Below.kept hbB HVA.out)
  have hAw := awake8_true wB HBB.out.pw
  clear hKM hbB HBA HMA HNA HTA HUA HVA m0 m1 m2 n0 n1' n2 t0 t1 u0 u1
  go_wp2_with fail
  refine hAw.mono ?_
  rintro e wC ⟨rfl, hbC⟩
  go_wp2_with fail
  go_ret
  exact ⟨rfl, (HBB.out.below hbC).bel⟩

theorem printFixed_true (w : World) (s : ByteArray) (hs : s.size ≤ 140737488351232) (ht : Pow10 w) :
    Calls Tryz.prog 7 #[.string s] w fun e w' => e = .returned (.bool true) ∧ Below w.heap.size w w' := by
  by_cases h : (parseS s).2.1 = 0
  · exact printFixed_ok w s ht h
  · exact printFixed_bad w s ht h

end Go.Proofs.YtddkapkkjhomkaaGreatDoor

/-
  The law PrintFixed holds where the three listed tables hold what the program lays in them: called with any arguments it returns true, and each argument reads behind the call as it read before.
-/
namespace Go.Proofs.YtddkapkkjhomkaaGreatDoor.printFixed
open Go.ChangeShapes Go.WideShapes Go.ChangeAt Go.RowKit
open Go.ChangeMaps (open_string shut_string)
set_option linter.unusedVariables false

theorem own : ownKnob Tryz.prog.godebug = none := by kernel_rfl
theorem gPow : Tryz.prog.globalNamed "internal/strconv.uint64pow10" = some 1 := by kernel_rfl
theorem tPow : (Tryz.prog.globals[1]?).map (·.type) = some 277 := by kernel_rfl
theorem cPow : Tryz.prog.cellsOf 277 = 20 := by kernel_rfl
theorem cElem : Tryz.prog.cellsOf 161 = 1 := by kernel_rfl
abbrev laid3 : List (String × DataW Unit) := [("math/bits.deBruijn32tab", Rows.laid_math_bits_deBruijn32tab), ("math/bits.deBruijn64tab", Rows.laid_math_bits_deBruijn64tab), ("internal/strconv.uint64pow10", Rows.laid_internal_strconv_uint64pow10)]
/-- The heap that the start-up leaves meets the condition. -/
theorem door_met (os : Os) (args : Array Value) : laidMetH Tryz.prog laid3 ((World.doorLaid Tryz.prog 400 os).forCall (fun _ _ => 0) ⟨#[], args, []⟩).memory :=
  laidMetH_of_parts3 (fuel := 8) (laidMet_of_run' 8 (by kernel_rfl) (by kernel_rfl)) (by kernel_rfl) (by kernel_rfl)
/-- What the condition gives: the table of powers of ten. -/
theorem of_laid {W : World} (h : laidMetH Tryz.prog laid3 W) : Pow10 W := by
  rw [MakeChecks.laidMetH_plain _ _ _ (by kernel_rfl)] at h
  have h3 := (laidMet.tail (laidMet.tail h))
  exact Lib.tabIs_of_head (k := .u64) (zs := Lib.pow10Tab) gPow tPow Tryz.underlying277 Tryz.underlying161 cElem cPow h3

set_option maxRecDepth 100000 in
theorem lifted (os : Os) (started : os.Started) (H : Type) (enc : TypeId × Value → H) :
    ReturnsInHanded {} Tryz.checked os 7 .any (fun w args => (Rows.printFixedSpec.pre enc Tryz.prog Tryz.f7 [] false w args ∧ laidMetH Tryz.prog laid3 w) ∧ sizedMet enc Tryz.prog Tryz.f7 (OpenSpec.ofChange Rows.printFixedSpec) false w args) (Rows.printFixedSpec.post enc Tryz.prog Tryz.f7 false true false false) := by
  refine returnsInHanded_of_change_and (C := Tryz.checked) (X := fun w _ => laidMetH Tryz.prog laid3 w) (fun _ _ _ hh h => h.of_heap hh) own started (by kernel_rfl) Tryz.func7
    (ChangeSpec.witness_shaped (enc := enc) (C := Tryz.checked) (os := os) (X := fun w _ => laidMetH Tryz.prog laid3 w) false (World.doorLaid Tryz.prog 400 os) #[.string ⟨#[]⟩] 8 rfl (World.shaped_of_RefB (by kernel_rfl) (by kernel_rfl)) (by kernel_rfl) (by kernel_rfl) (by kernel_rfl) (door_met os _)) ?_
  intro W base args ds gs before hval0 hW _ hsz0 hL _
  have hsz : (DataW.weightsEach Tryz.prog (Tryz.f7.params.toList ++ Rows.printFixedSpec.plain.varTypes Tryz.prog) (ds ++ gs)).all (· ≤ reachBytes) = true := hsz0
  clear hsz0
  have hval : ∀ (j : Nat) t v, Tryz.f7.params[j]? = some t → args[j]? = some v → Value.okWide Tryz.prog W .any base t v := hval0
  have hW' := hW
  obtain ⟨p, q, hA0, hV, rfl, hfz, hnd⟩ := hW
  have hA : DataW.TrodAll enc Tryz.prog W 0 (fun _ => true) true Tryz.f7.params.toList args.toList ds p := hA0
  rw [Tryz.params7] at hA hval hsz
  obtain ⟨v0, vs0, d0, ds0, p0, q0, hargs, rfl, rfl, h0, r0⟩ := trodAll_cons hA
  obtain ⟨rfl, rfl, rfl⟩ := trodAll_nil r0
  obtain rfl : args = #[v0] := by cases args; simp_all
  obtain ⟨rfl, rfl⟩ := trodVars_none hV
  obtain ⟨s0, rfl, rfl, rfl, w0⟩ := open_string Tryz.underlying9 (hval 0 9 v0 rfl rfl) h0
  have sz0 : s0.size ≤ 140737488351232 := by
    have := sized_string hsz (j := 0) (t := 9) rfl rfl
    simpa [reachBytes] using this
  clear hA0 hval0
  refine (printFixed_true W s0 sz0 (of_laid hL)).mono fun e W' ⟨he, bel⟩ => ?_
  subst he
  exact ⟨_, rfl, _, _, _, [], _, [], hW', trodAll_mk1 (shut_bool Tryz.underlying4 _), (trodAll_cons_mk (shut_string Tryz.underlying9 w0) trodAll_mk0), rfl, bel.frame _, fun h => by cases h⟩

theorem over : Rows.printFixedRow.holds Tryz.pinned (OpenSpec.ofChange Rows.printFixedSpec) :=
  OpenClaim.holds_of_wide 7 Tryz.f7 rfl rfl rfl rfl rfl rfl rfl ⟨rfl, rfl, rfl, rfl, rfl⟩ rfl rfl rfl rfl rfl (by kernel_rfl) Tryz.func7 (by kernel_rfl)
    (of_decide_eq_true (by kernel_rfl)) (by unfold Func.isWrapper; first | (rw [if_pos (by decide +kernel)]; kernel_rfl) | (rw [if_neg (by decide +kernel)]; exact ⟨rfl, rfl⟩))
    (fun os started H enc _ => lifted os started H enc)

end Go.Proofs.YtddkapkkjhomkaaGreatDoor.printFixed

namespace Go.Proofs.YtddkapkkjhomkaaGreatDoor
theorem printFixed_holds : Rows.PrintFixedSaid := printFixed.over
#print axioms printFixed_holds
end Go.Proofs.YtddkapkkjhomkaaGreatDoor
