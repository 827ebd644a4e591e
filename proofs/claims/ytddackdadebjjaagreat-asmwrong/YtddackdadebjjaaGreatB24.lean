/-
  Texts laid together in one: LawAsmWrong.
-/
import Derived.WalkSpells
import Derived.WalkMore
import Derived.BigRegion
import Derived.BigQuiet
import Derived.Deep.RegionHeld2
import Derived.Test.YtddackdadebjjaaGreatProg
import Derived.Test.YtddackdadebjjaaGreatB22
import Derived.Test.YtddackdadebjjaaGreatB23
import Derived.Test.YtddackdadebjjaaGreatB21
import Derived.Test.YtddackdadebjjaaGreatB09
import Derived.Test.YtddackdadebjjaaGreatB01
import Derived.Test.YtddackdadebjjaaGreatB03
/-
  AsmWrong is true for every module and every number.
-/
namespace Go.Proofs.YtddackdadebjjaaGreat
open Go.RowKit
set_option linter.unusedVariables false
set_option linter.unusedSimpArgs false
set_option maxRecDepth 10000

/-- What stands while the law goes on: the box of m, and what it holds. -/
structure AwB (w W : World) (gen : Int) (N : Nat) (a : Option Addr) (n c : Nat) (l : List InstT) : Prop where
  mbox : W.heap[w.heap.size]? = some (.cells #[.int .u32 gen, .int .u32 (N : Int), .slice a n c] 25 (0, 0))
  lv : InstsV W a l
  bel : Below w.heap.size w W
theorem AwB.below {w W W' : World} {gen : Int} {N : Nat} {a : Option Addr} {n c : Nat} {l : List InstT} (h : AwB w W gen N a n c l) (hb : Below W.heap.size W W') : AwB w W' gen N a n c l :=
  ⟨(hb.block _ (Array.getElem?_eq_some_iff.1 h.mbox).1).trans h.mbox, h.lv.below hb, h.bel.trans (hb.mono h.bel.size)⟩
theorem AwB.cells {w W : World} {gen : Int} {N : Nat} {a : Option Addr} {n c : Nat} {l : List InstT} (h : AwB w W gen N a n c l) : W.cell? ⟨w.heap.size, 0, none⟩ = some (.int .u32 gen) ∧ W.cell? ⟨w.heap.size, 1, none⟩ = some (.int .u32 (N : Int)) ∧ W.cell? ⟨w.heap.size, 2, none⟩ = some (.slice a n c) :=
  ⟨(one_block h.mbox).1 0, (one_block h.mbox).1 1, (one_block h.mbox).1 2⟩
theorem field_zeroW (x y : Value) (w : World) : (Instr.field 29 (.agg #[x, y]) 0).run Tryz.prog w = .ok x w := by
  kernel_rfl

set_option maxHeartbeats 8000000 in
theorem asmWrong_bad (w : World) (gen : Int) (N : Nat) (a : Option Addr) (n c : Nat) (l : List InstT) (hl : l.length = n) (hv : InstsV w a l) (hok : InstsOk l) (hn : 40 * n ≤ 140737488351232) (gg0 : 0 ≤ gen) (gg1 : gen < 4294967296) (hN : N < 4294967296) (q : Int) (q0 : -9223372036854775808 ≤ q) (q1 : q < 9223372036854775808)
    (E1 : Int) (E2 : Nat) (hE : shapeE (N : Int) l = (E1, E2)) (hE1 : E1 ≠ 0) :
    Calls Tryz.prog 4 #[.agg #[.int .u32 gen, .int .u32 (N : Int), .slice a n c], .int .i64 q] w fun e w' => e = .returned (.bool true) ∧ Below w.heap.size w w' := by
  have HCP := hide fun wx (h : InstsV wx a l) => copyModule_any gen (N : Int) a n c l wx h hok hl hn
  have HSH : Hid (∀ wx g, InstsV wx (some ⟨g, 0, none⟩) l → Calls Tryz.prog 5 #[.agg #[.int .u32 gen, .int .u32 (N : Int), .slice (some ⟨g, 0, none⟩) n n]] wx fun e w' => e = .returned (.agg #[.int .i64 E1, .int .i64 E2]) ∧ Below wx.heap.size wx w') := fun wx g h => by
    have := codeShape_any gen (N : Int) (some ⟨g, 0, none⟩) n n l wx gg0 gg1 (by omega) (by omega) h hok hl hn
    rw [hE] at this
    exact this
  have hba : Below w.heap.size w (w.alloc (.cells #[.int .u32 gen, .int .u32 (N : Int), .slice a n c] 25)) := (Below.refl _ w).alloc (Nat.le_refl _) _
  have HK0 : Hid (AwB w (w.alloc (.cells #[.int .u32 gen, .int .u32 (N : Int), .slice a n c] 25)) gen N a n c l) := ⟨heap_alloc_new w _, hv.below hba, hba⟩
  have hfz := field_zeroW (.int .i64 E1) (.int .i64 E2)
  unfold modV at *
  have HL := hide hl
  have HOK := hide hok
  clear hv hba hok hl hE
  go_enter Tryz.func4, Tryz.ntmps4
  go_wp2_with fail
  generalize w.alloc (.cells #[.int .u32 gen, .int .u32 (N : Int), .slice a n c] 25) = W0 at *
  refine (HCP.out W0 HK0.out.lv).mono ?_
  rintro e w1 ⟨g1, rfl, _, hv1, hb1⟩
  have hsh := HSH.out w1 g1 hv1
  have HK1 := hide (HK0.out.below hb1)
  clear hb1 hv1 HK0
  go_wp2_with fail
  refine hsh.mono ?_
  rintro e w2 ⟨rfl, hb2⟩
  have HK2 := hide (HK1.out.below hb2)
  clear hsh hb2 HK1
  obtain ⟨m0, m1, m2⟩ := HK2.out.cells
  have hE1' : (E1 != 0) = true := by simpa using hE1
  go_wp2_with fail
  go_ret
  exact ⟨rfl, HK2.out.bel⟩

set_option maxHeartbeats 8000000 in
theorem asmWrong_neg (w : World) (gen : Int) (N : Nat) (a : Option Addr) (n c : Nat) (l : List InstT) (hl : l.length = n) (hv : InstsV w a l) (hok : InstsOk l) (hn : 40 * n ≤ 140737488351232) (gg0 : 0 ≤ gen) (gg1 : gen < 4294967296) (hN : N < 4294967296) (q : Int) (q0 : -9223372036854775808 ≤ q) (q1 : q < 9223372036854775808)
    (hE : shapeE (N : Int) l = (0, 0)) (hq : q < 0) :
    Calls Tryz.prog 4 #[.agg #[.int .u32 gen, .int .u32 (N : Int), .slice a n c], .int .i64 q] w fun e w' => e = .returned (.bool true) ∧ Below w.heap.size w w' := by
  have HCP := hide fun wx (h : InstsV wx a l) => copyModule_any gen (N : Int) a n c l wx h hok hl hn
  have HSH : Hid (∀ wx g, InstsV wx (some ⟨g, 0, none⟩) l → Calls Tryz.prog 5 #[.agg #[.int .u32 gen, .int .u32 (N : Int), .slice (some ⟨g, 0, none⟩) n n]] wx fun e w' => e = .returned (.agg #[.int .i64 0, .int .i64 0]) ∧ Below wx.heap.size wx w') := fun wx g h => by
    have := codeShape_any gen (N : Int) (some ⟨g, 0, none⟩) n n l wx gg0 gg1 (by omega) (by omega) h hok hl hn
    rw [hE] at this
    exact this
  have hba : Below w.heap.size w (w.alloc (.cells #[.int .u32 gen, .int .u32 (N : Int), .slice a n c] 25)) := (Below.refl _ w).alloc (Nat.le_refl _) _
  have HK0 : Hid (AwB w (w.alloc (.cells #[.int .u32 gen, .int .u32 (N : Int), .slice a n c] 25)) gen N a n c l) := ⟨heap_alloc_new w _, hv.below hba, hba⟩
  have hfz := field_zeroW (.int .i64 0) (.int .i64 0)
  unfold modV at *
  have HL := hide hl
  have HOK := hide hok
  clear hv hba hok hl hE
  go_enter Tryz.func4, Tryz.ntmps4
  go_wp2_with fail
  generalize w.alloc (.cells #[.int .u32 gen, .int .u32 (N : Int), .slice a n c] 25) = W0 at *
  refine (HCP.out W0 HK0.out.lv).mono ?_
  rintro e w1 ⟨g1, rfl, _, hv1, hb1⟩
  have hsh := HSH.out w1 g1 hv1
  have HK1 := hide (HK0.out.below hb1)
  clear hb1 hv1 HK0
  go_wp2_with fail
  refine hsh.mono ?_
  rintro e w2 ⟨rfl, hb2⟩
  have HK2 := hide (HK1.out.below hb2)
  clear hsh hb2 HK1
  obtain ⟨m0, m1, m2⟩ := HK2.out.cells
  go_wp2_with fail
  go_ret
  exact ⟨rfl, HK2.out.bel⟩

set_option maxHeartbeats 8000000 in
theorem asmWrong_big (w : World) (gen : Int) (N : Nat) (a : Option Addr) (n c : Nat) (l : List InstT) (hl : l.length = n) (hv : InstsV w a l) (hok : InstsOk l) (hn : 40 * n ≤ 140737488351232) (gg0 : 0 ≤ gen) (gg1 : gen < 4294967296) (hN : N < 4294967296) (q : Int) (q0 : -9223372036854775808 ≤ q) (q1 : q < 9223372036854775808)
    (hE : shapeE (N : Int) l = (0, 0)) (hq0 : decide (q < 0) = false) (hq : (n : Int) < q) :
    Calls Tryz.prog 4 #[.agg #[.int .u32 gen, .int .u32 (N : Int), .slice a n c], .int .i64 q] w fun e w' => e = .returned (.bool true) ∧ Below w.heap.size w w' := by
  have HCP := hide fun wx (h : InstsV wx a l) => copyModule_any gen (N : Int) a n c l wx h hok hl hn
  have HSH : Hid (∀ wx g, InstsV wx (some ⟨g, 0, none⟩) l → Calls Tryz.prog 5 #[.agg #[.int .u32 gen, .int .u32 (N : Int), .slice (some ⟨g, 0, none⟩) n n]] wx fun e w' => e = .returned (.agg #[.int .i64 0, .int .i64 0]) ∧ Below wx.heap.size wx w') := fun wx g h => by
    have := codeShape_any gen (N : Int) (some ⟨g, 0, none⟩) n n l wx gg0 gg1 (by omega) (by omega) h hok hl hn
    rw [hE] at this
    exact this
  have hba : Below w.heap.size w (w.alloc (.cells #[.int .u32 gen, .int .u32 (N : Int), .slice a n c] 25)) := (Below.refl _ w).alloc (Nat.le_refl _) _
  have HK0 : Hid (AwB w (w.alloc (.cells #[.int .u32 gen, .int .u32 (N : Int), .slice a n c] 25)) gen N a n c l) := ⟨heap_alloc_new w _, hv.below hba, hba⟩
  have hfz := field_zeroW (.int .i64 0) (.int .i64 0)
  unfold modV at *
  have HL := hide hl
  have HOK := hide hok
  clear hv hba hok hl hE
  go_enter Tryz.func4, Tryz.ntmps4
  go_wp2_with fail
  generalize w.alloc (.cells #[.int .u32 gen, .int .u32 (N : Int), .slice a n c] 25) = W0 at *
  refine (HCP.out W0 HK0.out.lv).mono ?_
  rintro e w1 ⟨g1, rfl, _, hv1, hb1⟩
  have hsh := HSH.out w1 g1 hv1
  have HK1 := hide (HK0.out.below hb1)
  clear hb1 hv1 HK0
  go_wp2_with fail
  refine hsh.mono ?_
  rintro e w2 ⟨rfl, hb2⟩
  have HK2 := hide (HK1.out.below hb2)
  clear hsh hb2 HK1
  obtain ⟨m0, m1, m2⟩ := HK2.out.cells
  go_wp2_with fail
  go_ret
  exact ⟨rfl, HK2.out.bel⟩

set_option maxHeartbeats 8000000 in
theorem asmWrong_main (w : World) (gen : Int) (N : Nat) (a : Option Addr) (n c : Nat) (l : List InstT) (hl : l.length = n) (hv : InstsV w a l) (hok : InstsOk l) (hn : 40 * n ≤ 140737488351232) (gg0 : 0 ≤ gen) (gg1 : gen < 4294967296) (hN : N < 4294967296) (q : Int) (q0 : -9223372036854775808 ≤ q) (q1 : q < 9223372036854775808)
    (hE : shapeE (N : Int) l = (0, 0)) (p : Nat) (hqp : q = (p : Int)) (hp : p ≤ n) :
    Calls Tryz.prog 4 #[.agg #[.int .u32 gen, .int .u32 (N : Int), .slice a n c], .int .i64 q] w fun e w' => e = .returned (.bool true) ∧ Below w.heap.size w w' := by
  subst hqp
  have hSH : (shapeE (N : Int) l).1 = 0 := by rw [hE]
  have hraw := (shape_sum hSH).2
  have hix := oks_mem hok
  have hmem : ∀ k, k < n → nthI l k ∈ l := fun k h => by rw [nthI_lt _ _ (by omega : k < l.length)]; exact List.getElem_mem _
  have hWR : ∀ k, k < n → ∀ wx aj nj cj, (nthI l k).2.2.2.length = nj → ArgsV wx aj (nthI l k).2.2.2 → Calls Tryz.prog 10 #[.agg #[.int .u16 (nthI l k).1, .int .u32 (nthI l k).2.1, .int .u32 (nthI l k).2.2.1, .slice aj nj cj]] wx fun e w' => e = .returned (.string (strOfNums (wtI (nthI l k)))) ∧ Below wx.heap.size wx w' := fun k h wx aj nj cj hj hv => by
    have hi := hix _ (hmem k h)
    have hr := hraw _ (hmem k h)
    exact refWritten7_any (nthI l k) aj nj cj wx hv hj (by have := hi.2.2.2.2.2.2.2; omega) hi (rawWs_ok hr).1 (wtI_most hi hr)
  have hwz : ∀ k, k < n → (strOfNums (wtI (nthI l k))).size ≤ 1099511627776 := fun k h => by
    have := wtI_most (hix _ (hmem k h)) (hraw _ (hmem k h))
    have e : (strOfNums (wtI (nthI l k))).size = (wtI (nthI l k)).length := by simp [strOfNums, ByteArray.size]
    rw [e]; unfold wtI; rw [List.length_drop]; omega
  have hfew := (shape_few hSH).1
  have hTZ : ∀ k, k ≤ n → (txTo l (p : Int) k).size ≤ 2000000000000000000 := by
    have : ∀ k, k ≤ n → (txTo l (p : Int) k).size ≤ 15 + k * 1099511627800 := fun k => by
      induction k with
      | zero => intro _; rw [txTo_zero]; decide
      | succ k ih =>
        intro h
        have i1 := ih (by omega)
        have i2 := hwz k (by omega)
        rw [txTo_next]
        have e1 : badS0.size = 13 := rfl
        have e2 : (⟨#[10]⟩ : ByteArray).size = 1 := rfl
        by_cases e : (k : Int) = (p : Int)
        · rw [if_pos e]; simp only [ByteArray.size_append, e1, e2]; omega
        · rw [if_neg e]; simp only [ByteArray.size_append, e1, e2]; omega
    intro k h
    have h2 := this k h
    have : k ≤ 1048576 := by omega
    have : k * 1099511627800 ≤ 1048576 * 1099511627800 := Nat.mul_le_mul_right _ this
    omega
  have HWZ := hide hwz
  clear hraw hix hmem hwz hfew
  have HCP := hide fun wx (h : InstsV wx a l) => copyModule_any gen (N : Int) a n c l wx h hok hl hn
  have HSH : Hid (∀ wx g, InstsV wx (some ⟨g, 0, none⟩) l → Calls Tryz.prog 5 #[.agg #[.int .u32 gen, .int .u32 (N : Int), .slice (some ⟨g, 0, none⟩) n n]] wx fun e w' => e = .returned (.agg #[.int .i64 0, .int .i64 0]) ∧ Below wx.heap.size wx w') := fun wx g h => by
    have := codeShape_any gen (N : Int) (some ⟨g, 0, none⟩) n n l wx gg0 gg1 (by omega) (by omega) h hok hl hn
    rw [hE] at this
    exact this
  have hba : Below w.heap.size w (w.alloc (.cells #[.int .u32 gen, .int .u32 (N : Int), .slice a n c] 25)) := (Below.refl _ w).alloc (Nat.le_refl _) _
  have HK0 : Hid (AwB w (w.alloc (.cells #[.int .u32 gen, .int .u32 (N : Int), .slice a n c] 25)) gen N a n c l) := ⟨heap_alloc_new w _, hv.below hba, hba⟩
  have hfz := field_zeroW (.int .i64 0) (.int .i64 0)
  unfold modV at *
  have HL := hide hl
  have HOK := hide hok
  clear hv hba hok hl hE
  go_enter Tryz.func4, Tryz.ntmps4
  go_wp2_with fail
  generalize w.alloc (.cells #[.int .u32 gen, .int .u32 (N : Int), .slice a n c] 25) = W0 at *
  refine (HCP.out W0 HK0.out.lv).mono ?_
  rintro e w1 ⟨g1, rfl, _, hv1, hb1⟩
  have hsh := HSH.out w1 g1 hv1
  have HK1 := hide (HK0.out.below hb1)
  clear hb1 hv1 HK0
  go_wp2_with fail
  refine hsh.mono ?_
  rintro e w2 ⟨rfl, hb2⟩
  have HK2 := hide (HK1.out.below hb2)
  clear hsh hb2 HK1
  obtain ⟨m0, m1, m2⟩ := HK2.out.cells
  have hq0 : decide ((p : Int) < 0) = false := by simp
  have hq1 : decide ((p : Int) > (n : Int)) = false := by simp; omega
  have hq3 : decide (n < p) = false := by simp; omega
  have hq4 : p ≤ n := hp
  have HP := hide hp
  have HSH0 := hide hSH
  clear q0 q1 hp hSH
  go_wp2_with fail
  have HTZ := hide hTZ
  have HWR := hide hWR
  clear hTZ hWR hq3 hq1 hq0 hq4 m0 m1 m2
  go_loopw [5, 6] (fun s i wr => ∃ k : Nat, k ≤ n ∧ i = .int .i64 k ∧ s = .string (txTo l (p : Int) k) ∧ AwB w wr gen N a n c l) (fun _ i _ => n - (intOf i).toNat)
  case atStart => exact ⟨0, Nat.zero_le _, rfl, by rw [txTo_zero]; rfl, HK2.out⟩
  case round =>
    obtain ⟨k, hk, rfl, rfl, hR⟩ := hrel
    clear HK2
    have HR := hide hR
    obtain ⟨m0, m1, m2⟩ := hR.cells
    have hTk := HTZ.out k hk
    by_cases hlt : k < n
    · have HLT := hide hlt
      have hki : (k : Int) < (n : Int) := by omega
      have hk0 : (0 : Int) ≤ (k : Int) := by omega
      have hTn := txTo_next l (p : Int) k
      obtain ⟨b, o, aj, cj, nj, rfl, hbs, a0, a1, a2, a3, hnj, hav, hcj⟩ := hR.lv k (by rw [HL.out]; exact hlt)
      have hwr := hide fun wx h => HWR.out k hlt wx aj nj cj hnj h
      have HAV := hide hav
      have hwz := HWZ.out k hlt
      clear hR hbs hnj hav hcj
      generalize strOfNums (wtI (nthI l k)) = WI at *
      generalize nthI l k = y at *
      obtain ⟨yo, yt, yr, ya⟩ := y
      simp only at a0 a1 a2 a3 hwr HAV
      by_cases e : k = p
      · have hb1 : ((k : Int) == (p : Int)) = true := by simp; omega
        rw [if_pos (by omega : (k : Int) = (p : Int))] at hTn
        have HE := hide hTn
        clear hTn e
        go_wp2_with fail
        refine (hwr.out wr HAV.out).mono ?_
        rintro e w3 ⟨rfl, hb3⟩
        have HR3 := hide (HR.out.below hb3)
        clear hb3 HAV hwr m0 m1 m2 a0 a1 a2 a3
        go_wp2_with fail
        go_roundw
        case rel => exact ⟨k + 1, by have := HLT.out; omega, by go_num, by first | (rw [HE.out]; done) | (rw [HE.out]; rfl), HR3.out⟩
        case measure => have := HLT.out; simp [intOf]; omega
      · have hb1 : ((k : Int) == (p : Int)) = false := by simp; omega
        rw [if_neg (by omega : ¬ (k : Int) = (p : Int))] at hTn
        have HE := hide hTn
        clear hTn e
        go_wp2_with fail
        refine (hwr.out wr HAV.out).mono ?_
        rintro e w3 ⟨rfl, hb3⟩
        have HR3 := hide (HR.out.below hb3)
        clear hb3 HAV hwr m0 m1 m2 a0 a1 a2 a3
        go_wp2_with fail
        go_roundw
        case rel => exact ⟨k + 1, by have := HLT.out; omega, by go_num, by first | (rw [HE.out]; done) | (rw [HE.out]; rfl), HR3.out⟩
        case measure => have := HLT.out; simp [intOf]; omega
    · obtain rfl : k = n := by omega
      have hpn := HP.out
      clear hR hlt
      by_cases e : p = k
      · have hb1 : ((p : Int) == (k : Int)) = true := by simp; omega
        have HFT : Hid (strOfNums (joinLs (headW0 :: lnAll l (p : Int))) = txTo l (p : Int) k ++ badS0) := by show _ = _; rw [txAll, HL.out, if_pos (by omega)]
        have hez : badS0.size = 13 := rfl
        have HPA := hide fun hz => wrong_parse (q := p) HOK.out HSH0.out (by rw [HL.out]; omega) hz
        rw [HFT.out] at HPA
        clear HFT e
        have hfy : (txTo l (p : Int) k ++ badS0).size = (txTo l (p : Int) k).size + 13 := by first | rfl | (rw [ByteArray.size_append]; rfl)
        by_cases hz : (txTo l (p : Int) k ++ badS0).size ≤ 16777216
        · have hPA := HPA.out hz
          have hAP := asmParse_main (txTo l (p : Int) k ++ badS0)
          rw [hPA] at hAP
          have HAP := hide fun wx => hAP wx hz
          have z1 : decide ((16777216 : Int) < ((txTo l (p : Int) k ++ badS0).size : Int)) = false := by simp only [decide_eq_false_iff_not]; omega
          have z2 : decide ((16777216 : Int) < ((txTo l (p : Int) k).size : Int) + 13) = false := by simp only [decide_eq_false_iff_not]; omega
          have z3 : decide (16777216 < (txTo l (p : Int) k).size + 13) = false := by simp only [decide_eq_false_iff_not]; omega
          clear hPA hAP hz HPA hfy
          go_wp2_with fail
          refine (HAP.out wr).mono ?_
          rintro e w4 ⟨a4, n4, c4, rfl, _, hn4, _, hb4⟩
          obtain rfl : n4 = 0 := hn4.symm
          have HR4 := hide (HR.out.below hb4)
          have hb5 : Below w4.heap.size w4 ((w4.alloc (.cells #[.int .u32 0, .int .u32 0, .slice a4 0 c4] 25)).alloc (.cells #[.int .i64 71, .int .i64 ((p : Int) + 2)] 29)) := ((Below.refl _ w4).alloc (Nat.le_refl _) _).alloc (by simp) _
          have HR5 := hide (HR4.out.below hb5)
          have HS5 : Hid (((w4.alloc (.cells #[.int .u32 0, .int .u32 0, .slice a4 0 c4] 25)).alloc (.cells #[.int .i64 71, .int .i64 ((p : Int) + 2)] 29)).heap[w4.heap.size + 1]? = some (.cells #[.int .i64 71, .int .i64 ((p : Int) + 2)] 29 (0, 0))) := by
            show _ = _
            have := heap_alloc_new (w4.alloc (.cells #[.int .u32 0, .int .u32 0, .slice a4 0 c4] 25)) (.cells #[.int .i64 71, .int .i64 ((p : Int) + 2)] 29)
            simpa using this
          have hno := kitNone_none a4 c4 ((w4.alloc (.cells #[.int .u32 0, .int .u32 0, .slice a4 0 c4] 25)).alloc (.cells #[.int .i64 71, .int .i64 ((p : Int) + 2)] 29))
          unfold modV at hno
          clear hb4 hn4 m0 m1 m2 z1 z2 z3 hb5
          go_wp2_with fail
          generalize (w4.alloc (.cells #[.int .u32 0, .int .u32 0, .slice a4 0 c4] 25)).alloc (.cells #[.int .i64 71, .int .i64 ((p : Int) + 2)] 29) = W5 at *
          refine hno.mono ?_
          rintro e w6 ⟨rfl, hb6⟩
          have HR6 := hide (HR5.out.below hb6)
          obtain ⟨s0, s1, _⟩ := cell_of_two ((hb6.block _ (Array.getElem?_eq_some_iff.1 HS5.out).1).trans HS5.out)
          have hpw : IntKind.i64.wrap ((p : Int) + 2) = (p : Int) + 2 := by rw [IntKind.wrap_i64]; omega
          clear hno hb6 HR5 HS5
          go_wp2_with fail
          go_ret
          exact ⟨rfl, HR6.out.bel⟩
        · have z1 : decide ((16777216 : Int) < ((txTo l (p : Int) k ++ badS0).size : Int)) = true := by simp only [decide_eq_true_eq]; omega
          have z2 : decide ((16777216 : Int) < ((txTo l (p : Int) k).size : Int) + 13) = true := by simp only [decide_eq_true_eq]; omega
          have z3 : decide (16777216 < (txTo l (p : Int) k).size + 13) = true := by simp only [decide_eq_true_eq]; omega
          clear hz HPA hfy
          go_wp2_with fail
          go_ret
          exact ⟨rfl, HR.out.bel⟩
      · have hb1 : ((p : Int) == (k : Int)) = false := by simp; omega
        have HFT : Hid (strOfNums (joinLs (headW0 :: lnAll l (p : Int))) = txTo l (p : Int) k) := by show _ = _; rw [txAll, HL.out, if_neg (by omega)]
        have HPA := hide fun hz => wrong_parse (q := p) HOK.out HSH0.out (by rw [HL.out]; omega) hz
        rw [HFT.out] at HPA
        clear HFT e
        have hfy : (txTo l (p : Int) k).size = (txTo l (p : Int) k).size := by first | rfl | (rw [ByteArray.size_append]; rfl)
        by_cases hz : (txTo l (p : Int) k).size ≤ 16777216
        · have hPA := HPA.out hz
          have hAP := asmParse_main (txTo l (p : Int) k)
          rw [hPA] at hAP
          have HAP := hide fun wx => hAP wx hz
          have z1 : decide ((16777216 : Int) < ((txTo l (p : Int) k).size : Int)) = false := by simp only [decide_eq_false_iff_not]; omega
          have z2 : decide ((16777216 : Int) < ((txTo l (p : Int) k).size : Int)) = false := by simp only [decide_eq_false_iff_not]; omega
          have z3 : decide (16777216 < (txTo l (p : Int) k).size) = false := by simp only [decide_eq_false_iff_not]; omega
          clear hPA hAP hz HPA hfy
          go_wp2_with fail
          refine (HAP.out wr).mono ?_
          rintro e w4 ⟨a4, n4, c4, rfl, _, hn4, _, hb4⟩
          obtain rfl : n4 = 0 := hn4.symm
          have HR4 := hide (HR.out.below hb4)
          have hb5 : Below w4.heap.size w4 ((w4.alloc (.cells #[.int .u32 0, .int .u32 0, .slice a4 0 c4] 25)).alloc (.cells #[.int .i64 71, .int .i64 ((p : Int) + 2)] 29)) := ((Below.refl _ w4).alloc (Nat.le_refl _) _).alloc (by simp) _
          have HR5 := hide (HR4.out.below hb5)
          have HS5 : Hid (((w4.alloc (.cells #[.int .u32 0, .int .u32 0, .slice a4 0 c4] 25)).alloc (.cells #[.int .i64 71, .int .i64 ((p : Int) + 2)] 29)).heap[w4.heap.size + 1]? = some (.cells #[.int .i64 71, .int .i64 ((p : Int) + 2)] 29 (0, 0))) := by
            show _ = _
            have := heap_alloc_new (w4.alloc (.cells #[.int .u32 0, .int .u32 0, .slice a4 0 c4] 25)) (.cells #[.int .i64 71, .int .i64 ((p : Int) + 2)] 29)
            simpa using this
          have hno := kitNone_none a4 c4 ((w4.alloc (.cells #[.int .u32 0, .int .u32 0, .slice a4 0 c4] 25)).alloc (.cells #[.int .i64 71, .int .i64 ((p : Int) + 2)] 29))
          unfold modV at hno
          clear hb4 hn4 m0 m1 m2 z1 z2 z3 hb5
          go_wp2_with fail
          generalize (w4.alloc (.cells #[.int .u32 0, .int .u32 0, .slice a4 0 c4] 25)).alloc (.cells #[.int .i64 71, .int .i64 ((p : Int) + 2)] 29) = W5 at *
          refine hno.mono ?_
          rintro e w6 ⟨rfl, hb6⟩
          have HR6 := hide (HR5.out.below hb6)
          obtain ⟨s0, s1, _⟩ := cell_of_two ((hb6.block _ (Array.getElem?_eq_some_iff.1 HS5.out).1).trans HS5.out)
          have hpw : IntKind.i64.wrap ((p : Int) + 2) = (p : Int) + 2 := by rw [IntKind.wrap_i64]; omega
          clear hno hb6 HR5 HS5
          go_wp2_with fail
          go_ret
          exact ⟨rfl, HR6.out.bel⟩
        · have z1 : decide ((16777216 : Int) < ((txTo l (p : Int) k).size : Int)) = true := by simp only [decide_eq_true_eq]; omega
          have z2 : decide ((16777216 : Int) < ((txTo l (p : Int) k).size : Int)) = true := by simp only [decide_eq_true_eq]; omega
          have z3 : decide (16777216 < (txTo l (p : Int) k).size) = true := by simp only [decide_eq_true_eq]; omega
          clear hz HPA hfy
          go_wp2_with fail
          go_ret
          exact ⟨rfl, HR.out.bel⟩

theorem asmWrong_true (w : World) (gen bnd : Int) (a : Option Addr) (n c : Nat) (l : List InstT) (hl : l.length = n) (hv : InstsV w a l) (hok : InstsOk l) (hn : 40 * n ≤ 140737488351232) (hc : n ≤ c) (hgb : 0 ≤ gen ∧ gen < 4294967296 ∧ 0 ≤ bnd ∧ bnd < 4294967296) (q : Int) (hq : (Lit.int .i64 q).wf = true) :
    Calls Tryz.prog 4 #[.agg #[.int .u32 gen, .int .u32 bnd, .slice a n c], .int .i64 q] w fun e w' => e = .returned (.bool true) ∧ Below w.heap.size w w' := by
  obtain ⟨g0, g1, b0, b1⟩ := hgb
  obtain ⟨N, rfl⟩ : ∃ N : Nat, bnd = (N : Int) := ⟨bnd.toNat, by omega⟩
  have hN : N < 4294967296 := by omega
  have hr : -9223372036854775808 ≤ q ∧ q < 9223372036854775808 := by
    have h := hq
    simp [Lit.wf] at h
    have hm : IntKind.i64.min = -9223372036854775808 := by decide
    omega
  rcases shapeE_any (N : Int) l with hE | hE
  · by_cases h0 : q < 0
    · exact asmWrong_neg w gen N a n c l hl hv hok hn g0 g1 hN q hr.1 hr.2 hE h0
    · by_cases h1 : (n : Int) < q
      · exact asmWrong_big w gen N a n c l hl hv hok hn g0 g1 hN q hr.1 hr.2 hE (by simpa using h0) h1
      · exact asmWrong_main w gen N a n c l hl hv hok hn g0 g1 hN q hr.1 hr.2 hE q.toNat (by omega) (by omega)
  · exact asmWrong_bad w gen N a n c l hl hv hok hn g0 g1 hN q hr.1 hr.2 _ _ rfl hE

end Go.Proofs.YtddackdadebjjaaGreat
