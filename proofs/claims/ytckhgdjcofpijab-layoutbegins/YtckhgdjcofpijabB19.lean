/-
  Texts laid together in one: LawLayoutBegins.
-/
import Derived.WalkSpells
import Derived.WalkMore
import Derived.BigRegion
import Derived.BigQuiet
import Derived.Test.YtckhgdjcofpijabProg
import Derived.Test.YtckhgdjcofpijabB17
import Derived.Test.YtckhgdjcofpijabB07
import Derived.Test.YtckhgdjcofpijabB18
import Derived.Test.YtckhgdjcofpijabB04
/-
  The law LayoutBegins: the place of a fault hangs on the beginning alone.
-/
namespace Go.Proofs.Ytckhgdjcofpijab
open Go.RowKit
set_option linter.unusedVariables false
set_option linter.unusedSimpArgs false
set_option maxRecDepth 10000

theorem kitEnum_any (x : Int) (w : World) : Calls Try.prog 8 #[.int .u32 x] w fun e w' => e = .returned (.agg #[.int .u8 4, .int .u32 x, .string ⟨#[]⟩]) ∧ Below w.heap.size w w' := by
  have HB : Hid (Below w.heap.size w (w.alloc (.cells #[.int .u8 4, .int .u32 x, .string ⟨#[]⟩] 33))) := (Below.refl _ w).alloc (Nat.le_refl _) _
  go_enter Try.func8, Try.ntmps8
  go_wp2_with fail
  refine bodyPost_ret (v := .agg #[.int .u8 4, .int .u32 x, .string ⟨#[]⟩]) ?_ rfl ⟨rfl, HB.out⟩
  simp [results, Try.results8, go_sem]

theorem instsV_take {w : World} {a : Option Addr} {l : List InstT} (h : InstsV w a l) (n : Nat) : InstsV w a (l.take n) := by
  intro j hj
  have hj2 : j < n ∧ j < l.length := by rw [List.length_take] at hj; omega
  rw [nthI_take l hj2.1]
  exact h j hj2.2
theorem instsOk_take {l : List InstT} (h : InstsOk l) (n : Nat) : InstsOk (l.take n) := by
  intro j hj
  have hj2 : j < n ∧ j < l.length := by rw [List.length_take] at hj; omega
  rw [nthI_take l hj2.1]
  exact h j hj2.2
/-- An instruction that says a memory model. -/
def mod14 : InstT := (14, 0, 0, [(4, 0, ⟨#[]⟩), (4, 0, ⟨#[]⟩)])
theorem twice_wrong : layE 1 [mod14, mod14] = (50, 1) := by decide +kernel
theorem twice_ok : InstsOk [mod14, mod14] := by
  intro j hj
  have : j = 0 ∨ j = 1 := by simp at hj; omega
  rcases this with rfl | rfl <;> exact ⟨by decide, by decide, by decide, by decide, by decide, by decide, fun k hk => by
    have : k = 0 ∨ k = 1 := by simp [nthI, mod14] at hk; omega
    rcases this with rfl | rfl <;> exact ⟨by decide, by decide, by decide, by decide, by decide⟩, by decide⟩

theorem args14 {Y : World} {A : Nat} (h : Y.heap[A]? = some (.cells #[.int .u8 4, .int .u32 0, .string ⟨#[]⟩, .int .u8 4, .int .u32 0, .string ⟨#[]⟩] 33 (0, 0))) : ArgsV Y (some ⟨A, 0, none⟩) mod14.2.2.2 := by
  obtain ⟨cc, _⟩ := one_block h
  have hl := (Array.getElem?_eq_some_iff.1 h).1
  intro j hj
  have : j = 0 ∨ j = 1 := by simp [mod14] at hj; omega
  rcases this with rfl | rfl
  · exact ⟨A, 0, rfl, hl, cc 0, cc 1, cc 2⟩
  · exact ⟨A, 0, rfl, hl, cc 3, cc 4, cc 5⟩
theorem twice_mem {x5 : World} {A1 : Nat} (hA : x5.heap[A1]? = some (.cells #[.int .u8 4, .int .u32 0, .string ⟨#[]⟩, .int .u8 4, .int .u32 0, .string ⟨#[]⟩] 33 (0, 0))) :
    InstsV (((x5.alloc (.cells #[.int .u8 4, .int .u32 0, .string ⟨#[]⟩, .int .u8 4, .int .u32 0, .string ⟨#[]⟩] 33)).alloc (.cells #[.int .u16 14, .int .u32 0, .int .u32 0, .slice (some ⟨A1, 0, none⟩) 2 2, .int .u16 14, .int .u32 0, .int .u32 0, .slice (some ⟨x5.heap.size, 0, none⟩) 2 2] 37)).alloc (.cells #[.int .u32 0, .int .u32 1, .slice (some ⟨x5.heap.size + 1, 0, none⟩) 2 2] 25)) (some ⟨x5.heap.size + 1, 0, none⟩) [mod14, mod14] ∧
    Below x5.heap.size x5 (((x5.alloc (.cells #[.int .u8 4, .int .u32 0, .string ⟨#[]⟩, .int .u8 4, .int .u32 0, .string ⟨#[]⟩] 33)).alloc (.cells #[.int .u16 14, .int .u32 0, .int .u32 0, .slice (some ⟨A1, 0, none⟩) 2 2, .int .u16 14, .int .u32 0, .int .u32 0, .slice (some ⟨x5.heap.size, 0, none⟩) 2 2] 37)).alloc (.cells #[.int .u32 0, .int .u32 1, .slice (some ⟨x5.heap.size + 1, 0, none⟩) 2 2] 25)) := by
  have hl := (Array.getElem?_eq_some_iff.1 hA).1
  have hb := (((Below.refl _ x5).alloc (Nat.le_refl _) (.cells #[.int .u8 4, .int .u32 0, .string ⟨#[]⟩, .int .u8 4, .int .u32 0, .string ⟨#[]⟩] 33)).alloc (by simp) (.cells #[.int .u16 14, .int .u32 0, .int .u32 0, .slice (some ⟨A1, 0, none⟩) 2 2, .int .u16 14, .int .u32 0, .int .u32 0, .slice (some ⟨x5.heap.size, 0, none⟩) 2 2] 37)).alloc (by simp; omega) (.cells #[.int .u32 0, .int .u32 1, .slice (some ⟨x5.heap.size + 1, 0, none⟩) 2 2] 25)
  have k1 := (hb.block A1 hl).trans hA
  have k2 : (((x5.alloc (.cells #[.int .u8 4, .int .u32 0, .string ⟨#[]⟩, .int .u8 4, .int .u32 0, .string ⟨#[]⟩] 33)).alloc (.cells #[.int .u16 14, .int .u32 0, .int .u32 0, .slice (some ⟨A1, 0, none⟩) 2 2, .int .u16 14, .int .u32 0, .int .u32 0, .slice (some ⟨x5.heap.size, 0, none⟩) 2 2] 37)).alloc (.cells #[.int .u32 0, .int .u32 1, .slice (some ⟨x5.heap.size + 1, 0, none⟩) 2 2] 25)).heap[x5.heap.size]? = some (.cells #[.int .u8 4, .int .u32 0, .string ⟨#[]⟩, .int .u8 4, .int .u32 0, .string ⟨#[]⟩] 33 (0, 0)) := by
    rw [Below.heap_alloc _ _ _ (by simp <;> omega), Below.heap_alloc _ _ _ (by simp)]; exact heap_alloc_new x5 _
  have k3 : (((x5.alloc (.cells #[.int .u8 4, .int .u32 0, .string ⟨#[]⟩, .int .u8 4, .int .u32 0, .string ⟨#[]⟩] 33)).alloc (.cells #[.int .u16 14, .int .u32 0, .int .u32 0, .slice (some ⟨A1, 0, none⟩) 2 2, .int .u16 14, .int .u32 0, .int .u32 0, .slice (some ⟨x5.heap.size, 0, none⟩) 2 2] 37)).alloc (.cells #[.int .u32 0, .int .u32 1, .slice (some ⟨x5.heap.size + 1, 0, none⟩) 2 2] 25)).heap[x5.heap.size + 1]? = some (.cells #[.int .u16 14, .int .u32 0, .int .u32 0, .slice (some ⟨A1, 0, none⟩) 2 2, .int .u16 14, .int .u32 0, .int .u32 0, .slice (some ⟨x5.heap.size, 0, none⟩) 2 2] 37 (0, 0)) := by
    have := heap_alloc_new (x5.alloc (.cells #[.int .u8 4, .int .u32 0, .string ⟨#[]⟩, .int .u8 4, .int .u32 0, .string ⟨#[]⟩] 33)) (.cells #[.int .u16 14, .int .u32 0, .int .u32 0, .slice (some ⟨A1, 0, none⟩) 2 2, .int .u16 14, .int .u32 0, .int .u32 0, .slice (some ⟨x5.heap.size, 0, none⟩) 2 2] 37)
    rw [World.size_alloc] at this
    exact (Below.heap_alloc _ _ _ (by simp)).trans this
  refine ⟨?_, hb⟩
  obtain ⟨cc, _⟩ := one_block k3
  have hl3 := (Array.getElem?_eq_some_iff.1 k3).1
  intro j hj
  have : j = 0 ∨ j = 1 := by simp at hj; omega
  rcases this with rfl | rfl
  · exact ⟨x5.heap.size + 1, 0, some ⟨A1, 0, none⟩, 2, 2, rfl, hl3, cc 0, cc 1, cc 2, cc 3, rfl, args14 k1, Nat.le_refl _⟩
  · exact ⟨x5.heap.size + 1, 0, some ⟨x5.heap.size, 0, none⟩, 2, 2, rfl, hl3, cc 4, cc 5, cc 6, cc 7, rfl, args14 k2, Nat.le_refl _⟩

set_option maxHeartbeats 8000000 in
theorem layoutBegins_true (w : World) (gen bnd : Int) (a : Option Addr) (n c : Nat) (l : List InstT) (hl : l.length = n) (hv : InstsV w a l) (hok : InstsOk l) (hn : 40 * n ≤ 140737488351232) (hc : n ≤ c) (hgb : 0 ≤ gen ∧ gen < 4294967296 ∧ 0 ≤ bnd ∧ bnd < 4294967296) :
    Calls Try.prog 3 #[.agg #[.int .u32 gen, .int .u32 bnd, .slice a n c]] w fun e w' => e = .returned (.bool true) ∧ Below w.heap.size w w' := by
  obtain ⟨g0, g1, b0, b1⟩ := hgb
  have hba : Below w.heap.size w (w.alloc (.cells #[.int .u32 gen, .int .u32 bnd, .slice a n c] 25)) := (Below.refl _ w).alloc (Nat.le_refl _) _
  have HCp := hide fun wx (h : InstsV wx a l) => copyModule_any gen bnd a n c l wx h hok hl hn
  have HCk := hide fun wx ax m cx (h : InstsV wx ax l) (hm : l.length = m) (hm2 : 40 * m ≤ 140737488351232) => layCheck_any gen bnd ax m cx l wx h hok hm hm2 g0 g1 b0 b1
  have HCt := hide fun wx ax q cx (h : InstsV wx ax l) (hq : q ≤ n) => layCheck_any gen bnd ax q cx (l.take q) wx (instsV_take h q) (instsOk_take hok q) (by rw [List.length_take]; omega) (by omega) g0 g1 b0 b1
  have HC2 := hide fun wx ax cx (h : InstsV wx ax [mod14, mod14]) => layCheck_any 0 1 ax 2 cx [mod14, mod14] wx h twice_ok rfl (by omega) (by decide) (by decide) (by decide) (by decide)
  rw [twice_wrong] at HC2
  have HBW50 : Hid ((layE bnd l).1 = 50 → (layE bnd l).2 < n ∧ layE bnd (l.take ((layE bnd l).2 + 1)) = (50, (layE bnd l).2)) := fun h => by have := begin_wrong h; rw [hl] at this; exact this
  have HBR : Hid ((layE bnd l).1 = 0 ∨ (layE bnd l).1 = 51 → ∀ q, q ≤ n → layE bnd (l.take q) = (0, 0) ∨ layE bnd (l.take q) = (51, q)) := fun h q hq => begin_right h q (by rw [hl]; exact hq)
  have HM0 := hide (heap_alloc_new w (.cells #[.int .u32 gen, .int .u32 bnd, .slice a n c] 25))
  have HBA := hide hba
  have HV := hide hv
  have HL := hide hl
  have HN := hide hn
  have HLW : Hid (w.heap.size < (w.alloc (.cells #[.int .u32 gen, .int .u32 bnd, .slice a n c] 25)).heap.size) := by show _ < _; simp
  have hCp1 := HCp.out _ (hv.below hba)
  unfold modV at *
  generalize hE : layE bnd l = E at *
  obtain ⟨e1, e2⟩ := E
  simp only at *
  clear hba hv hok hl hE
  go_enter Try.func3, Try.ntmps3
  go_wp2_with fail
  generalize w.alloc (.cells #[.int .u32 gen, .int .u32 bnd, .slice a n c] 25) = W0 at *
  refine hCp1.mono ?_
  rintro e w1 ⟨g, rfl, hg, hV1, hb1⟩
  have hCk1 := HCk.out w1 (some ⟨g, 0, none⟩) n n hV1 HL.out HN.out
  have HB1 := hide hb1
  clear hCp1 HCk hV1 hb1
  go_wp2_with fail
  refine hCk1.mono ?_
  rintro e w2 ⟨rfl, hb2⟩
  have hb12 := HB1.out.trans (hb2.mono HB1.out.size)
  have hba2 : Below W0.heap.size W0 (w2.alloc (.cells #[.int .i64 e1, .int .i64 e2] 28)) := hb12.alloc hb12.size _
  have HB2 := hide hba2
  have HS2 := hide (heap_alloc_new w2 (.cells #[.int .i64 e1, .int .i64 e2] 28))
  have HT2 : Hid (w2.heap.size < (w2.alloc (.cells #[.int .i64 e1, .int .i64 e2] 28)).heap.size ∧ W0.heap.size ≤ w2.heap.size) := ⟨by simp, hb12.size⟩
  clear hCk1 hb2 hb12 hba2 HB1 hg
  have hl0 := HLW.out
  obtain ⟨hs2, hs20⟩ := HT2.out
  have hw2 : w.heap.size < w2.heap.size := by omega
  have HBW2 := hide (HBA.out.trans (HB2.out.mono HBA.out.size))
  obtain ⟨cm, _⟩ := one_block ((HB2.out.block w.heap.size hl0).trans HM0.out)
  have m0 := cm 0
  have m1 := cm 1
  have m2 := cm 2
  obtain ⟨cs, _⟩ := one_block HS2.out
  have s0 := cs 0
  have s1 := cs 1
  clear cm cs
  by_cases h50 : e1 = 50
  · subst h50
    obtain ⟨hP, hT⟩ := HBW50.out rfl
    have hp0 : decide ((e2 : Int) < 0) = false := by rw [decide_eq_false_iff_not]; omega
    have hp1 : decide ((n : Int) ≤ (e2 : Int)) = false := by rw [decide_eq_false_iff_not]; omega
    have hp2 : IntKind.i64.wrap ((e2 : Int) + 1) = ((e2 + 1 : Nat) : Int) := by rw [IntKind.wrap_i64]; omega
    have hp3 : (0 : Int) ≤ ((e2 + 1 : Nat) : Int) := by omega
    have hp4 : ((e2 + 1 : Nat) : Int) ≤ (n : Int) := by omega
    have hCp2 := HCp.out _ (HV.out.below HBW2.out)
    have HCT := hide (fun wx ax cx h => HCt.out wx ax (e2 + 1) cx h (by omega))
    rw [hT] at HCT
    clear HBR HBW50 HCt HCp hT
    go_wp2_with fail
    generalize w2.alloc (.cells #[.int .i64 50, .int .i64 e2] 28) = W2 at *
    refine hCp2.mono ?_
    rintro e w3 ⟨g3, rfl, hg3, hV3, hb3⟩
    have hba3 : Below w3.heap.size w3 (w3.alloc (.cells #[.int .u32 gen, .int .u32 bnd, .slice (some ⟨g3, 0, none⟩) (e2 + 1) n] 25)) := (Below.refl _ w3).alloc (Nat.le_refl _) _
    have HV3 := hide (hV3.below hba3)
    have HB3 := hide (hb3.trans (hba3.mono hb3.size))
    have HM3 := hide (heap_alloc_new w3 (.cells #[.int .u32 gen, .int .u32 bnd, .slice (some ⟨g3, 0, none⟩) (e2 + 1) n] 25))
    have HL3 : Hid (w3.heap.size < (w3.alloc (.cells #[.int .u32 gen, .int .u32 bnd, .slice (some ⟨g3, 0, none⟩) (e2 + 1) n] 25)).heap.size) := by show _ < _; simp
    have s1' := (hb3.cell (p := ⟨w2.heap.size, 1, none⟩) hs2).trans s1
    have hs3 : w2.heap.size < w3.heap.size := Nat.lt_of_lt_of_le hs2 hb3.size
    clear hCp2 hV3 hb3 hba3 hg3 m0 m1 m2
    go_wp2_with fail
    generalize w3.alloc (.cells #[.int .u32 gen, .int .u32 bnd, .slice (some ⟨g3, 0, none⟩) (e2 + 1) n] 25) = W at *
    have hl3 := HL3.out
    have hS : w2.heap.size < W.heap.size := by omega
    obtain ⟨cc, _⟩ := one_block HM3.out
    obtain ⟨cz, _⟩ := one_block ((HB3.out.block w2.heap.size hs2).trans HS2.out)
    have z0 := cz 0
    have a0 := fun s : InC (Below W.heap.size W) => s.cell (p := ⟨w3.heap.size, 0, none⟩) hl3 (cc 0)
    have a1 := fun s : InC (Below W.heap.size W) => s.cell (p := ⟨w3.heap.size, 1, none⟩) hl3 (cc 1)
    have a2 := fun s : InC (Below W.heap.size W) => s.cell (p := ⟨w3.heap.size, 2, none⟩) hl3 (cc 2)
    have c0 := fun s : InC (Below W.heap.size W) => s.cell (p := ⟨w2.heap.size, 0, none⟩) hS (cz 0)
    have c1 := fun s : InC (Below W.heap.size W) => s.cell (p := ⟨w2.heap.size, 1, none⟩) hS (cz 1)
    have hCk := fun s : InC (Below W.heap.size W) => Calls.inC s (HCT.out s.w (some ⟨g3, 0, none⟩) n (HV3.out.below s.ok))
    have hne : Nonempty (InC (Below W.heap.size W)) := ⟨⟨W, Below.refl _ _⟩⟩
    have HBW := hide (HBW2.out.trans (HB3.out.mono HBW2.out.size))
    clear cc cz HM3 HCT s0 s1 s1'
    refine wp_norm ?_
    refine wp_region_class (C := Below W.heap.size W) (by kernel_rfl) (by kernel_rfl) (below_drew W) ?_
    repeat (go_big_quiet_step ((go_at_call 6; exact hCk _)))
    refine wpQuiet_nil ?_
    rintro _ ⟨s, rfl⟩
    have hfin := HBW.out.trans (s.ok.mono HBW.out.size)
    have z00 := c0 s
    have hSs : w2.heap.size < s.w.heap.size := Nat.lt_of_lt_of_le hS s.ok.size
    clear hne hCk a0 a1 a2 c0 c1 z0
    generalize s.w = X at *
    rw [onNormal_normal]
    have HBX := hide hfin
    have hE1 := kitEnum_any 0 X
    go_wp2_with fail
    refine hE1.mono ?_
    rintro e x1 ⟨rfl, hx1⟩
    have hE2 := kitEnum_any 0 x1
    have HX1 := hide (HBX.out.trans (hx1.mono HBX.out.size))
    clear hE1 hx1
    go_wp2_with fail
    refine hE2.mono ?_
    rintro e x2 ⟨rfl, hx2⟩
    have HX2 := hide (HX1.out.trans (hx2.mono HX1.out.size))
    have HA1 := hide (heap_alloc_new x2 (.cells #[.int .u8 4, .int .u32 0, .string ⟨#[]⟩, .int .u8 4, .int .u32 0, .string ⟨#[]⟩] 33))
    have HX3 := hide (HX2.out.alloc HX2.out.size (.cells #[.int .u8 4, .int .u32 0, .string ⟨#[]⟩, .int .u8 4, .int .u32 0, .string ⟨#[]⟩] 33))
    have HL3 : Hid (x2.heap.size < (x2.alloc (.cells #[.int .u8 4, .int .u32 0, .string ⟨#[]⟩, .int .u8 4, .int .u32 0, .string ⟨#[]⟩] 33)).heap.size) := by show _ < _; simp
    have hE3 := kitEnum_any 0 (x2.alloc (.cells #[.int .u8 4, .int .u32 0, .string ⟨#[]⟩, .int .u8 4, .int .u32 0, .string ⟨#[]⟩] 33))
    clear hE2 hx2
    go_wp2_with fail
    generalize x2.alloc (.cells #[.int .u8 4, .int .u32 0, .string ⟨#[]⟩, .int .u8 4, .int .u32 0, .string ⟨#[]⟩] 33) = X3 at *
    generalize x2.heap.size = A1 at *
    refine hE3.mono ?_
    rintro e x4 ⟨rfl, hx4⟩
    have hE4 := kitEnum_any 0 x4
    have HA2 : Hid (x4.heap[A1]? = some (.cells #[.int .u8 4, .int .u32 0, .string ⟨#[]⟩, .int .u8 4, .int .u32 0, .string ⟨#[]⟩] 33 (0, 0))) := (hx4.block _ HL3.out).trans HA1.out
    have HX4 := hide (HX3.out.trans (hx4.mono HX3.out.size))
    have HL4 : Hid (A1 < x4.heap.size) := Nat.lt_of_lt_of_le HL3.out hx4.size
    clear hE3 hx4 HA1 HX3 HL3
    go_wp2_with fail
    refine hE4.mono ?_
    rintro e x5 ⟨rfl, hx5⟩
    have HA5 : Hid (x5.heap[A1]? = some (.cells #[.int .u8 4, .int .u32 0, .string ⟨#[]⟩, .int .u8 4, .int .u32 0, .string ⟨#[]⟩] 33 (0, 0))) := (hx5.block _ HL4.out).trans HA2.out
    have HX5 := hide (HX4.out.trans (hx5.mono HX4.out.size))
    have HL5 : Hid (A1 < x5.heap.size) := Nat.lt_of_lt_of_le HL4.out hx5.size
    clear hE4 hx5 HA2 HX4 HL4
    obtain ⟨hTv, hTb⟩ := twice_mem HA5.out
    have hC2 := HC2.out _ _ 2 hTv
    have HTB := hide (HX5.out.trans (hTb.mono HX5.out.size))
    clear hTv hTb HA5 HL5
    go_wp2_with fail
    generalize ((x5.alloc (.cells #[.int .u8 4, .int .u32 0, .string ⟨#[]⟩, .int .u8 4, .int .u32 0, .string ⟨#[]⟩] 33)).alloc (.cells #[.int .u16 14, .int .u32 0, .int .u32 0, .slice (some ⟨A1, 0, none⟩) 2 2, .int .u16 14, .int .u32 0, .int .u32 0, .slice (some ⟨x5.heap.size, 0, none⟩) 2 2] 37)).alloc (.cells #[.int .u32 0, .int .u32 1, .slice (some ⟨x5.heap.size + 1, 0, none⟩) 2 2] 25) = Y at *
    refine hC2.mono ?_
    rintro e y1 ⟨rfl, hy1⟩
    have HFIN := hide (HTB.out.trans (hy1.mono HTB.out.size))
    clear hC2 hy1
    go_wp2_with fail
    go_ret
    exact ⟨by simp, HFIN.out⟩
  · have h50' : (e1 == 50) = false := by simpa using h50
    by_cases hok : e1 = 0 ∨ e1 = 51
    · have HBRT := hide (HBR.out hok)
      clear HBW50 HBR h50
      rcases hok with rfl | rfl
      · go_wp2_with fail
        generalize w2.alloc (.cells #[.int .i64 0, .int .i64 e2] 28) = W2 at *
        have M0 := hide m0
        have M1 := hide m1
        have M2 := hide m2
        clear m0 m1 m2 s0 s1
        go_loopw [5] (fun i wr => ∃ q : Nat, q ≤ n ∧ i = .int .i64 q ∧ Below W2.heap.size W2 wr) (fun i _ => n - (intOf i).toNat)
        case atStart => exact ⟨0, Nat.zero_le _, rfl, Below.refl _ _⟩
        case round =>
          obtain ⟨q, hq, rfl, hbr⟩ := hrel
          have hwW : w.heap.size < W2.heap.size := by omega
          have m0 := (hbr.cell (p := ⟨w.heap.size, 0, none⟩) hwW).trans M0.out
          have m1 := (hbr.cell (p := ⟨w.heap.size, 1, none⟩) hwW).trans M1.out
          have m2 := (hbr.cell (p := ⟨w.heap.size, 2, none⟩) hwW).trans M2.out
          have HBR := hide hbr
          have hwr : w.heap.size < wr.heap.size := Nat.lt_of_lt_of_le hwW hbr.size
          have HBW := hide (HBW2.out.trans (hbr.mono HBW2.out.size))
          by_cases hlt : q < n
          · have hq0 : (0 : Int) ≤ (q : Int) := by omega
            have hqn : (q : Int) < (n : Int) := by omega
            have hqn2 : (q : Int) ≤ (n : Int) := by omega
            have hCp2 := HCp.out wr (HV.out.below HBW.out)
            clear hbr
            go_wp2_with fail
            refine hCp2.mono ?_
            rintro e w3 ⟨g3, rfl, hg3, hV3, hb3⟩
            have hba3 : Below w3.heap.size w3 (w3.alloc (.cells #[.int .u32 gen, .int .u32 bnd, .slice (some ⟨g3, 0, none⟩) q n] 25)) := (Below.refl _ w3).alloc (Nat.le_refl _) _
            have hCk2 := HCt.out _ (some ⟨g3, 0, none⟩) q n (hV3.below hba3) hq
            have HB3 := hide (HBR.out.trans ((hb3.trans (hba3.mono hb3.size)).mono HBR.out.size))
            clear hCp2 hV3 hb3 hba3 hg3 m0 m1 m2
            rcases HBRT.out q hq with hE | hE
            · rw [hE] at hCk2
              simp only at hCk2
              clear hE
              go_wp2_with fail
              generalize w3.alloc (.cells #[.int .u32 gen, .int .u32 bnd, .slice (some ⟨g3, 0, none⟩) q n] 25) = W3 at *
              refine hCk2.mono ?_
              rintro e w5 ⟨rfl, hb5⟩
              have HB5 := hide ((HB3.out.trans (hb5.mono HB3.out.size)))
              clear hCk2 hb5
              go_wp2_with fail
              go_roundw
              case rel => exact ⟨q + 1, by omega, by go_num, HB5.out.alloc HB5.out.size _⟩
              case measure => simp [intOf]; omega
            · rw [hE] at hCk2
              simp only at hCk2
              clear hE
              go_wp2_with fail
              generalize w3.alloc (.cells #[.int .u32 gen, .int .u32 bnd, .slice (some ⟨g3, 0, none⟩) q n] 25) = W3 at *
              refine hCk2.mono ?_
              rintro e w5 ⟨rfl, hb5⟩
              have HB5 := hide ((HB3.out.trans (hb5.mono HB3.out.size)))
              clear hCk2 hb5
              go_wp2_with fail
              go_roundw
              case rel => exact ⟨q + 1, by omega, by go_num, HB5.out.alloc HB5.out.size _⟩
              case measure => simp [intOf]; omega
          · obtain rfl : q = n := by omega
            clear hbr HBRT HCt HCp
            go_wp2_with fail
            generalize hwrX : wr = X at *
            clear hwrX
            have HBX := hide HBW.out
            have hE1 := kitEnum_any 0 X
            refine hE1.mono ?_
            rintro e x1 ⟨rfl, hx1⟩
            have hE2 := kitEnum_any 0 x1
            have HX1 := hide (HBX.out.trans (hx1.mono HBX.out.size))
            clear hE1 hx1
            go_wp2_with fail
            refine hE2.mono ?_
            rintro e x2 ⟨rfl, hx2⟩
            have HX2 := hide (HX1.out.trans (hx2.mono HX1.out.size))
            have HA1 := hide (heap_alloc_new x2 (.cells #[.int .u8 4, .int .u32 0, .string ⟨#[]⟩, .int .u8 4, .int .u32 0, .string ⟨#[]⟩] 33))
            have HX3 := hide (HX2.out.alloc HX2.out.size (.cells #[.int .u8 4, .int .u32 0, .string ⟨#[]⟩, .int .u8 4, .int .u32 0, .string ⟨#[]⟩] 33))
            have HL3 : Hid (x2.heap.size < (x2.alloc (.cells #[.int .u8 4, .int .u32 0, .string ⟨#[]⟩, .int .u8 4, .int .u32 0, .string ⟨#[]⟩] 33)).heap.size) := by show _ < _; simp
            have hE3 := kitEnum_any 0 (x2.alloc (.cells #[.int .u8 4, .int .u32 0, .string ⟨#[]⟩, .int .u8 4, .int .u32 0, .string ⟨#[]⟩] 33))
            clear hE2 hx2
            go_wp2_with fail
            generalize x2.alloc (.cells #[.int .u8 4, .int .u32 0, .string ⟨#[]⟩, .int .u8 4, .int .u32 0, .string ⟨#[]⟩] 33) = X3 at *
            generalize x2.heap.size = A1 at *
            refine hE3.mono ?_
            rintro e x4 ⟨rfl, hx4⟩
            have hE4 := kitEnum_any 0 x4
            have HA2 : Hid (x4.heap[A1]? = some (.cells #[.int .u8 4, .int .u32 0, .string ⟨#[]⟩, .int .u8 4, .int .u32 0, .string ⟨#[]⟩] 33 (0, 0))) := (hx4.block _ HL3.out).trans HA1.out
            have HX4 := hide (HX3.out.trans (hx4.mono HX3.out.size))
            have HL4 : Hid (A1 < x4.heap.size) := Nat.lt_of_lt_of_le HL3.out hx4.size
            clear hE3 hx4 HA1 HX3 HL3
            go_wp2_with fail
            refine hE4.mono ?_
            rintro e x5 ⟨rfl, hx5⟩
            have HA5 : Hid (x5.heap[A1]? = some (.cells #[.int .u8 4, .int .u32 0, .string ⟨#[]⟩, .int .u8 4, .int .u32 0, .string ⟨#[]⟩] 33 (0, 0))) := (hx5.block _ HL4.out).trans HA2.out
            have HX5 := hide (HX4.out.trans (hx5.mono HX4.out.size))
            have HL5 : Hid (A1 < x5.heap.size) := Nat.lt_of_lt_of_le HL4.out hx5.size
            clear hE4 hx5 HA2 HX4 HL4
            obtain ⟨hTv, hTb⟩ := twice_mem HA5.out
            have hC2 := HC2.out _ _ 2 hTv
            have HTB := hide (HX5.out.trans (hTb.mono HX5.out.size))
            clear hTv hTb HA5 HL5
            go_wp2_with fail
            generalize ((x5.alloc (.cells #[.int .u8 4, .int .u32 0, .string ⟨#[]⟩, .int .u8 4, .int .u32 0, .string ⟨#[]⟩] 33)).alloc (.cells #[.int .u16 14, .int .u32 0, .int .u32 0, .slice (some ⟨A1, 0, none⟩) 2 2, .int .u16 14, .int .u32 0, .int .u32 0, .slice (some ⟨x5.heap.size, 0, none⟩) 2 2] 37)).alloc (.cells #[.int .u32 0, .int .u32 1, .slice (some ⟨x5.heap.size + 1, 0, none⟩) 2 2] 25) = Y at *
            refine hC2.mono ?_
            rintro e y1 ⟨rfl, hy1⟩
            have HFIN := hide (HTB.out.trans (hy1.mono HTB.out.size))
            clear hC2 hy1
            go_wp2_with fail
            go_ret
            exact ⟨by simp, HFIN.out⟩
      · go_wp2_with fail
        generalize w2.alloc (.cells #[.int .i64 51, .int .i64 e2] 28) = W2 at *
        have M0 := hide m0
        have M1 := hide m1
        have M2 := hide m2
        clear m0 m1 m2 s0 s1
        go_loopw [5] (fun i wr => ∃ q : Nat, q ≤ n ∧ i = .int .i64 q ∧ Below W2.heap.size W2 wr) (fun i _ => n - (intOf i).toNat)
        case atStart => exact ⟨0, Nat.zero_le _, rfl, Below.refl _ _⟩
        case round =>
          obtain ⟨q, hq, rfl, hbr⟩ := hrel
          have hwW : w.heap.size < W2.heap.size := by omega
          have m0 := (hbr.cell (p := ⟨w.heap.size, 0, none⟩) hwW).trans M0.out
          have m1 := (hbr.cell (p := ⟨w.heap.size, 1, none⟩) hwW).trans M1.out
          have m2 := (hbr.cell (p := ⟨w.heap.size, 2, none⟩) hwW).trans M2.out
          have HBR := hide hbr
          have hwr : w.heap.size < wr.heap.size := Nat.lt_of_lt_of_le hwW hbr.size
          have HBW := hide (HBW2.out.trans (hbr.mono HBW2.out.size))
          by_cases hlt : q < n
          · have hq0 : (0 : Int) ≤ (q : Int) := by omega
            have hqn : (q : Int) < (n : Int) := by omega
            have hqn2 : (q : Int) ≤ (n : Int) := by omega
            have hCp2 := HCp.out wr (HV.out.below HBW.out)
            clear hbr
            go_wp2_with fail
            refine hCp2.mono ?_
            rintro e w3 ⟨g3, rfl, hg3, hV3, hb3⟩
            have hba3 : Below w3.heap.size w3 (w3.alloc (.cells #[.int .u32 gen, .int .u32 bnd, .slice (some ⟨g3, 0, none⟩) q n] 25)) := (Below.refl _ w3).alloc (Nat.le_refl _) _
            have hCk2 := HCt.out _ (some ⟨g3, 0, none⟩) q n (hV3.below hba3) hq
            have HB3 := hide (HBR.out.trans ((hb3.trans (hba3.mono hb3.size)).mono HBR.out.size))
            clear hCp2 hV3 hb3 hba3 hg3 m0 m1 m2
            rcases HBRT.out q hq with hE | hE
            · rw [hE] at hCk2
              simp only at hCk2
              clear hE
              go_wp2_with fail
              generalize w3.alloc (.cells #[.int .u32 gen, .int .u32 bnd, .slice (some ⟨g3, 0, none⟩) q n] 25) = W3 at *
              refine hCk2.mono ?_
              rintro e w5 ⟨rfl, hb5⟩
              have HB5 := hide ((HB3.out.trans (hb5.mono HB3.out.size)))
              clear hCk2 hb5
              go_wp2_with fail
              go_roundw
              case rel => exact ⟨q + 1, by omega, by go_num, HB5.out.alloc HB5.out.size _⟩
              case measure => simp [intOf]; omega
            · rw [hE] at hCk2
              simp only at hCk2
              clear hE
              go_wp2_with fail
              generalize w3.alloc (.cells #[.int .u32 gen, .int .u32 bnd, .slice (some ⟨g3, 0, none⟩) q n] 25) = W3 at *
              refine hCk2.mono ?_
              rintro e w5 ⟨rfl, hb5⟩
              have HB5 := hide ((HB3.out.trans (hb5.mono HB3.out.size)))
              clear hCk2 hb5
              go_wp2_with fail
              go_roundw
              case rel => exact ⟨q + 1, by omega, by go_num, HB5.out.alloc HB5.out.size _⟩
              case measure => simp [intOf]; omega
          · obtain rfl : q = n := by omega
            clear hbr HBRT HCt HCp
            go_wp2_with fail
            generalize hwrX : wr = X at *
            clear hwrX
            have HBX := hide HBW.out
            have hE1 := kitEnum_any 0 X
            refine hE1.mono ?_
            rintro e x1 ⟨rfl, hx1⟩
            have hE2 := kitEnum_any 0 x1
            have HX1 := hide (HBX.out.trans (hx1.mono HBX.out.size))
            clear hE1 hx1
            go_wp2_with fail
            refine hE2.mono ?_
            rintro e x2 ⟨rfl, hx2⟩
            have HX2 := hide (HX1.out.trans (hx2.mono HX1.out.size))
            have HA1 := hide (heap_alloc_new x2 (.cells #[.int .u8 4, .int .u32 0, .string ⟨#[]⟩, .int .u8 4, .int .u32 0, .string ⟨#[]⟩] 33))
            have HX3 := hide (HX2.out.alloc HX2.out.size (.cells #[.int .u8 4, .int .u32 0, .string ⟨#[]⟩, .int .u8 4, .int .u32 0, .string ⟨#[]⟩] 33))
            have HL3 : Hid (x2.heap.size < (x2.alloc (.cells #[.int .u8 4, .int .u32 0, .string ⟨#[]⟩, .int .u8 4, .int .u32 0, .string ⟨#[]⟩] 33)).heap.size) := by show _ < _; simp
            have hE3 := kitEnum_any 0 (x2.alloc (.cells #[.int .u8 4, .int .u32 0, .string ⟨#[]⟩, .int .u8 4, .int .u32 0, .string ⟨#[]⟩] 33))
            clear hE2 hx2
            go_wp2_with fail
            generalize x2.alloc (.cells #[.int .u8 4, .int .u32 0, .string ⟨#[]⟩, .int .u8 4, .int .u32 0, .string ⟨#[]⟩] 33) = X3 at *
            generalize x2.heap.size = A1 at *
            refine hE3.mono ?_
            rintro e x4 ⟨rfl, hx4⟩
            have hE4 := kitEnum_any 0 x4
            have HA2 : Hid (x4.heap[A1]? = some (.cells #[.int .u8 4, .int .u32 0, .string ⟨#[]⟩, .int .u8 4, .int .u32 0, .string ⟨#[]⟩] 33 (0, 0))) := (hx4.block _ HL3.out).trans HA1.out
            have HX4 := hide (HX3.out.trans (hx4.mono HX3.out.size))
            have HL4 : Hid (A1 < x4.heap.size) := Nat.lt_of_lt_of_le HL3.out hx4.size
            clear hE3 hx4 HA1 HX3 HL3
            go_wp2_with fail
            refine hE4.mono ?_
            rintro e x5 ⟨rfl, hx5⟩
            have HA5 : Hid (x5.heap[A1]? = some (.cells #[.int .u8 4, .int .u32 0, .string ⟨#[]⟩, .int .u8 4, .int .u32 0, .string ⟨#[]⟩] 33 (0, 0))) := (hx5.block _ HL4.out).trans HA2.out
            have HX5 := hide (HX4.out.trans (hx5.mono HX4.out.size))
            have HL5 : Hid (A1 < x5.heap.size) := Nat.lt_of_lt_of_le HL4.out hx5.size
            clear hE4 hx5 HA2 HX4 HL4
            obtain ⟨hTv, hTb⟩ := twice_mem HA5.out
            have hC2 := HC2.out _ _ 2 hTv
            have HTB := hide (HX5.out.trans (hTb.mono HX5.out.size))
            clear hTv hTb HA5 HL5
            go_wp2_with fail
            generalize ((x5.alloc (.cells #[.int .u8 4, .int .u32 0, .string ⟨#[]⟩, .int .u8 4, .int .u32 0, .string ⟨#[]⟩] 33)).alloc (.cells #[.int .u16 14, .int .u32 0, .int .u32 0, .slice (some ⟨A1, 0, none⟩) 2 2, .int .u16 14, .int .u32 0, .int .u32 0, .slice (some ⟨x5.heap.size, 0, none⟩) 2 2] 37)).alloc (.cells #[.int .u32 0, .int .u32 1, .slice (some ⟨x5.heap.size + 1, 0, none⟩) 2 2] 25) = Y at *
            refine hC2.mono ?_
            rintro e y1 ⟨rfl, hy1⟩
            have HFIN := hide (HTB.out.trans (hy1.mono HTB.out.size))
            clear hC2 hy1
            go_wp2_with fail
            go_ret
            exact ⟨by simp, HFIN.out⟩
    · have h0' : (e1 == 0) = false := by simp; intro e; exact hok (.inl e)
      have h51' : (e1 == 51) = false := by simp; intro e; exact hok (.inr e)
      clear HBW50 HBR HCt HCp hok h50 m0 m1 m2
      go_wp2_with fail
      generalize w2.alloc (.cells #[.int .i64 e1, .int .i64 e2] 28) = X at *
      have HBX := hide HBW2.out
      have hE1 := kitEnum_any 0 X
      refine hE1.mono ?_
      rintro e x1 ⟨rfl, hx1⟩
      have hE2 := kitEnum_any 0 x1
      have HX1 := hide (HBX.out.trans (hx1.mono HBX.out.size))
      clear hE1 hx1
      go_wp2_with fail
      refine hE2.mono ?_
      rintro e x2 ⟨rfl, hx2⟩
      have HX2 := hide (HX1.out.trans (hx2.mono HX1.out.size))
      have HA1 := hide (heap_alloc_new x2 (.cells #[.int .u8 4, .int .u32 0, .string ⟨#[]⟩, .int .u8 4, .int .u32 0, .string ⟨#[]⟩] 33))
      have HX3 := hide (HX2.out.alloc HX2.out.size (.cells #[.int .u8 4, .int .u32 0, .string ⟨#[]⟩, .int .u8 4, .int .u32 0, .string ⟨#[]⟩] 33))
      have HL3 : Hid (x2.heap.size < (x2.alloc (.cells #[.int .u8 4, .int .u32 0, .string ⟨#[]⟩, .int .u8 4, .int .u32 0, .string ⟨#[]⟩] 33)).heap.size) := by show _ < _; simp
      have hE3 := kitEnum_any 0 (x2.alloc (.cells #[.int .u8 4, .int .u32 0, .string ⟨#[]⟩, .int .u8 4, .int .u32 0, .string ⟨#[]⟩] 33))
      clear hE2 hx2
      go_wp2_with fail
      generalize x2.alloc (.cells #[.int .u8 4, .int .u32 0, .string ⟨#[]⟩, .int .u8 4, .int .u32 0, .string ⟨#[]⟩] 33) = X3 at *
      generalize x2.heap.size = A1 at *
      refine hE3.mono ?_
      rintro e x4 ⟨rfl, hx4⟩
      have hE4 := kitEnum_any 0 x4
      have HA2 : Hid (x4.heap[A1]? = some (.cells #[.int .u8 4, .int .u32 0, .string ⟨#[]⟩, .int .u8 4, .int .u32 0, .string ⟨#[]⟩] 33 (0, 0))) := (hx4.block _ HL3.out).trans HA1.out
      have HX4 := hide (HX3.out.trans (hx4.mono HX3.out.size))
      have HL4 : Hid (A1 < x4.heap.size) := Nat.lt_of_lt_of_le HL3.out hx4.size
      clear hE3 hx4 HA1 HX3 HL3
      go_wp2_with fail
      refine hE4.mono ?_
      rintro e x5 ⟨rfl, hx5⟩
      have HA5 : Hid (x5.heap[A1]? = some (.cells #[.int .u8 4, .int .u32 0, .string ⟨#[]⟩, .int .u8 4, .int .u32 0, .string ⟨#[]⟩] 33 (0, 0))) := (hx5.block _ HL4.out).trans HA2.out
      have HX5 := hide (HX4.out.trans (hx5.mono HX4.out.size))
      have HL5 : Hid (A1 < x5.heap.size) := Nat.lt_of_lt_of_le HL4.out hx5.size
      clear hE4 hx5 HA2 HX4 HL4
      obtain ⟨hTv, hTb⟩ := twice_mem HA5.out
      have hC2 := HC2.out _ _ 2 hTv
      have HTB := hide (HX5.out.trans (hTb.mono HX5.out.size))
      clear hTv hTb HA5 HL5
      go_wp2_with fail
      generalize ((x5.alloc (.cells #[.int .u8 4, .int .u32 0, .string ⟨#[]⟩, .int .u8 4, .int .u32 0, .string ⟨#[]⟩] 33)).alloc (.cells #[.int .u16 14, .int .u32 0, .int .u32 0, .slice (some ⟨A1, 0, none⟩) 2 2, .int .u16 14, .int .u32 0, .int .u32 0, .slice (some ⟨x5.heap.size, 0, none⟩) 2 2] 37)).alloc (.cells #[.int .u32 0, .int .u32 1, .slice (some ⟨x5.heap.size + 1, 0, none⟩) 2 2] 25) = Y at *
      refine hC2.mono ?_
      rintro e y1 ⟨rfl, hy1⟩
      have HFIN := hide (HTB.out.trans (hy1.mono HTB.out.size))
      clear hC2 hy1
      go_wp2_with fail
      go_ret
      exact ⟨by simp, HFIN.out⟩
end Go.Proofs.Ytckhgdjcofpijab
