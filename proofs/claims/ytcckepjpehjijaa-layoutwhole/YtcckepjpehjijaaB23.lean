/-
  Texts laid together in one: LawLayoutWhole.
-/
import Derived.WalkSpells
import Derived.WalkMore
import Derived.BigRegion
import Derived.Deep.MidRow
import Derived.Test.YtcckepjpehjijaaProg
import Derived.Test.YtcckepjpehjijaaB18
import Derived.Test.YtcckepjpehjijaaB19
import Derived.Test.YtcckepjpehjijaaB22
import Derived.Test.YtcckepjpehjijaaB09
/-
  The law LayoutWhole: the parts of a module in order are its instructions, one behind the other; functions and blocks too.
-/
namespace Go.Proofs.Ytcckepjpehjijaa
open Go.RowKit
set_option linter.unusedVariables false
set_option linter.unusedSimpArgs false
set_option maxRecDepth 10000

theorem wpList_load_midG {P : Program} {ops : Array Oper} {rest : List Oper} {op : Oper} {a : Act} {w : World} {Q : Exit → Act → World → Prop} (hw : Region.wanted op (yielded ops a.tmps) = true) (ty : TypeId) (x : Operand) (ho : op.op = .load ty x)
    (b o : Nat) (hx : a.eval x = .pointer (some ⟨b, o, none⟩)) (cs : List Value) (d : TypeDesc) (hc : w.rangeAt b o cs)
    (hu : P.underlying ty = some d) (hd : d.isRow = true) (hi : (P.info? ty).map (·.size) = some cs.length)
    (h : wpList P ops Q rest (a.put op.dst (.agg cs.toArray)) w) : wpList P ops Q (op :: rest) a w := by
  rw [wpList, if_pos hw]
  exact .inl (wp_load_mid ty x ho b o hx cs d hc hu hd hi h)
theorem wrap_next {k n : Nat} (h : k < n) (hn : 40 * n ≤ 140737488351232) : IntKind.i64.wrap ((k : Int) + 1) = ((k + 1 : Nat) : Int) := by rw [IntKind.wrap_i64]; omega
theorem wrap64_next {k n : Nat} (h : k < n) (hn : 40 * n ≤ 140737488351232) : wrap64 ((k : Int) + 1) = ((k + 1 : Nat) : Int) := by
  have e := wrap_next h hn
  first
    | exact e
    | (unfold wrap64; omega)
theorem meas_next {k n : Nat} (h : k < n) : n - (intOf (.int .i64 ((k + 1 : Nat) : Int))).toNat < n - (intOf (.int .i64 (k : Int))).toNat := by simp [intOf]; omega
theorem blkC_len {l : List InstT} : ∀ {bs : List (Int × Int × Int)} {s e : Nat}, blkC l s bs e → s + bs.length ≤ e
  | [], s, e, h => by have h2 : s = e := h; simp; omega
  | b :: bs, s, e, h => by obtain ⟨a1, a2, t, a3, a4, a5, a6⟩ := h; have := blkC_len a6; simp; omega
theorem fnC_len {l : List InstT} : ∀ {fs : List FuncT} {s e : Nat}, fnC l s fs e → s + fs.length ≤ e
  | [], s, e, h => by have h2 : s = e := h; simp; omega
  | f :: fs, s, e, h => by obtain ⟨a1, a2, a3, t, a4, a5, a6⟩ := h; have h1 := fnC_len a6; have h2 := blkC_le a5; simp; omega
theorem one_right : layE 1 [mod14] = (0, 0) := by decide +kernel
theorem one_ok : InstsOk [mod14] := by
  intro j hj
  have : j = 0 := by simp at hj; omega
  subst this
  exact ⟨by decide, by decide, by decide, by decide, by decide, by decide, fun k hk => by
    have : k = 0 ∨ k = 1 := by simp [nthI, mod14] at hk; omega
    rcases this with rfl | rfl <;> exact ⟨by decide, by decide, by decide, by decide, by decide⟩, by decide⟩
theorem one_mem (x : World) :
    InstsV (((x.alloc (.cells #[.int .u8 4, .int .u32 0, .string ⟨#[]⟩, .int .u8 4, .int .u32 0, .string ⟨#[]⟩] 54)).alloc (.cells #[.int .u16 14, .int .u32 0, .int .u32 0, .slice (some ⟨x.heap.size, 0, none⟩) 2 2] 58)).alloc (.cells #[.int .u32 0, .int .u32 1, .slice (some ⟨x.heap.size + 1, 0, none⟩) 1 1] 25)) (some ⟨x.heap.size + 1, 0, none⟩) [mod14] ∧
    Below x.heap.size x (((x.alloc (.cells #[.int .u8 4, .int .u32 0, .string ⟨#[]⟩, .int .u8 4, .int .u32 0, .string ⟨#[]⟩] 54)).alloc (.cells #[.int .u16 14, .int .u32 0, .int .u32 0, .slice (some ⟨x.heap.size, 0, none⟩) 2 2] 58)).alloc (.cells #[.int .u32 0, .int .u32 1, .slice (some ⟨x.heap.size + 1, 0, none⟩) 1 1] 25)) := by
  have hb := (((Below.refl _ x).alloc (Nat.le_refl _) (.cells #[.int .u8 4, .int .u32 0, .string ⟨#[]⟩, .int .u8 4, .int .u32 0, .string ⟨#[]⟩] 54)).alloc (by simp) (.cells #[.int .u16 14, .int .u32 0, .int .u32 0, .slice (some ⟨x.heap.size, 0, none⟩) 2 2] 58)).alloc (by simp; omega) (.cells #[.int .u32 0, .int .u32 1, .slice (some ⟨x.heap.size + 1, 0, none⟩) 1 1] 25)
  have k2 : (((x.alloc (.cells #[.int .u8 4, .int .u32 0, .string ⟨#[]⟩, .int .u8 4, .int .u32 0, .string ⟨#[]⟩] 54)).alloc (.cells #[.int .u16 14, .int .u32 0, .int .u32 0, .slice (some ⟨x.heap.size, 0, none⟩) 2 2] 58)).alloc (.cells #[.int .u32 0, .int .u32 1, .slice (some ⟨x.heap.size + 1, 0, none⟩) 1 1] 25)).heap[x.heap.size]? = some (.cells #[.int .u8 4, .int .u32 0, .string ⟨#[]⟩, .int .u8 4, .int .u32 0, .string ⟨#[]⟩] 54 (0, 0)) := by
    rw [Below.heap_alloc _ _ _ (by simp <;> omega), Below.heap_alloc _ _ _ (by simp)]; exact heap_alloc_new x _
  have k3 : (((x.alloc (.cells #[.int .u8 4, .int .u32 0, .string ⟨#[]⟩, .int .u8 4, .int .u32 0, .string ⟨#[]⟩] 54)).alloc (.cells #[.int .u16 14, .int .u32 0, .int .u32 0, .slice (some ⟨x.heap.size, 0, none⟩) 2 2] 58)).alloc (.cells #[.int .u32 0, .int .u32 1, .slice (some ⟨x.heap.size + 1, 0, none⟩) 1 1] 25)).heap[x.heap.size + 1]? = some (.cells #[.int .u16 14, .int .u32 0, .int .u32 0, .slice (some ⟨x.heap.size, 0, none⟩) 2 2] 58 (0, 0)) := by
    have := heap_alloc_new (x.alloc (.cells #[.int .u8 4, .int .u32 0, .string ⟨#[]⟩, .int .u8 4, .int .u32 0, .string ⟨#[]⟩] 54)) (.cells #[.int .u16 14, .int .u32 0, .int .u32 0, .slice (some ⟨x.heap.size, 0, none⟩) 2 2] 58)
    rw [World.size_alloc] at this
    exact (Below.heap_alloc _ _ _ (by simp)).trans this
  refine ⟨?_, hb⟩
  obtain ⟨cc, _⟩ := one_block k3
  have hl3 := (Array.getElem?_eq_some_iff.1 k3).1
  intro j hj
  have : j = 0 := by simp at hj; omega
  subst this
  exact ⟨x.heap.size + 1, 0, some ⟨x.heap.size, 0, none⟩, 2, 2, rfl, hl3, cc 0, cc 1, cc 2, cc 3, rfl, args14 k2, Nat.le_refl _⟩

set_option maxHeartbeats 8000000 in
theorem layoutWhole_true (w : World) (gen bnd : Int) (a : Option Addr) (n c : Nat) (l : List InstT) (hl : l.length = n) (hv : InstsV w a l) (hok : InstsOk l) (hn : 40 * n ≤ 140737488351232) (hc : n ≤ c) (hgb : 0 ≤ gen ∧ gen < 4294967296 ∧ 0 ≤ bnd ∧ bnd < 4294967296) :
    Calls Try.prog 5 #[.agg #[.int .u32 gen, .int .u32 bnd, .slice a n c]] w fun e w' => e = .returned (.bool true) ∧ Below w.heap.size w w' := by
  obtain ⟨g0, g1, b0, b1⟩ := hgb
  have hba : Below w.heap.size w (w.alloc (.cells #[.int .u32 gen, .int .u32 bnd, .slice a n c] 25)) := (Below.refl _ w).alloc (Nat.le_refl _) _
  have HCp := hide fun wx (h : InstsV wx a l) => copyModule_any gen bnd a n c l wx h hok hl hn
  have HPp := hide fun wx ax m cx (h : InstsV wx ax l) (hm : l.length = m) (hm2 : 40 * m ≤ 140737488351232) => layParts_any gen bnd ax m cx l wx h hok hm hm2 g0 g1 b0 b1
  have HCu := hide fun wx ax m cx (h : InstsV wx ax l) (hm : l.length = m) (hm2 : 40 * m ≤ 140737488351232) => layCut_any gen bnd ax m cx l wx h hok hm hm2 g0 g1 b0 b1
  have HCk := hide fun wx ax m cx (h : InstsV wx ax l) (hm : l.length = m) (hm2 : 40 * m ≤ 140737488351232) => layCheck_any gen bnd ax m cx l wx h hok hm hm2 g0 g1 b0 b1
  have HC1 := hide fun wx ax cx (h : InstsV wx ax [mod14]) => layCheck_any 0 1 ax 1 cx [mod14] wx h one_ok rfl (by omega) (by decide) (by decide) (by decide) (by decide)
  rw [one_right] at HC1
  have HF0 : Hid ((layE bnd l).1 ≠ 0 → partsF bnd l = fun _ => 0) := fun h => funext fun i => by unfold partsF; rw [if_pos h]
  have HFP : Hid ((layE bnd l).1 = 0 → ∀ i, partsF bnd l i = cntP l ((i + 1) / 2) n) := fun h i => by unfold partsF; rw [if_neg (by rw [h]; simp), hl]
  have HW : Hid ((layE bnd l).1 = 0 → fnC l (cntP l 8 n) (cutTo l l.length) n ∧ cntP l 2 n = cntP l 1 n + 1) := fun h => by
    have h1 := whole_cut h
    have h2 := whole_model h
    rw [hl] at h2
    refine ⟨?_, h2⟩
    rw [hl] at h1
    rw [hl]
    exact h1
  have HM0 := hide (heap_alloc_new w (.cells #[.int .u32 gen, .int .u32 bnd, .slice a n c] 25))
  have HBA := hide hba
  have HV := hide hv
  have HL := hide hl
  have HN := hide hn
  have HLW : Hid (w.heap.size < (w.alloc (.cells #[.int .u32 gen, .int .u32 bnd, .slice a n c] 25)).heap.size) := by show _ < _; simp
  have hCp1 := HCp.out _ (hv.below hba)
  unfold modV partsV at *
  unfold CutQ at HCu
  generalize partsF bnd l = f at *
  generalize cutTo l l.length = fs at *
  generalize (layE bnd l).1 = e1 at *
  generalize ((layE bnd l).2 : Int) = e2 at *
  clear hba hv hok hl hn
  go_enter Try.func5, Try.ntmps5
  go_wp2_with fail
  generalize w.alloc (.cells #[.int .u32 gen, .int .u32 bnd, .slice a n c] 25) = W0 at *
  refine hCp1.mono ?_
  rintro e w0 ⟨g, rfl, hg, hV0, hb0⟩
  have hPp := HPp.out w0 (some ⟨g, 0, none⟩) n n hV0 HL.out HN.out
  have HB0 := hide hb0
  clear hCp1 HPp hV0 hb0 hg
  go_wp2_with fail
  refine hPp.mono ?_
  rintro e w1 ⟨rfl, hb1⟩
  obtain ⟨k1, k2, k3, k4, k5, k6⟩ := kept_parts w1 f e1 e2
  have HK1 := hide k1
  have HK2 := hide k2
  have HK3 := hide k3
  have HK4 := hide k4
  have HK5 := hide (HB0.out.trans ((hb1.trans (k5.mono hb1.size)).mono HB0.out.size))
  have HK6 := hide k6
  have HS1 : Hid (W0.heap.size ≤ w1.heap.size) := Nat.le_trans HB0.out.size hb1.size
  clear k1 k2 k3 k4 k5 k6 hPp hb1 HB0
  go_wp2_with (with_reducible refine stopS 48 ?_)
  refine wpList_store_mid rfl 48 (.tmp 3) (.tmp 18) rfl w1.heap.size 0 #[.int .i64 (f 0), .int .i64 (f 1), .int .i64 (f 2), .int .i64 (f 3), .int .i64 (f 4), .int .i64 (f 5), .int .i64 (f 6), .int .i64 (f 7), .int .i64 (f 8), .int .i64 (f 9), .int .i64 (f 10), .int .i64 (f 11), .int .i64 (f 12), .int .i64 (f 13), .int .i64 (f 14), .int .i64 (f 15), .int .i64 (f 16), .int .i64 (f 17), .int .i64 (f 18), .int .i64 (f 19)] rfl rfl HK1.out (by kernel_rfl) (by simp [Value.oneCell']) ?_
  simp only [Act.put]
  refine wpList_store_mid rfl 29 (.tmp 4) (.tmp 19) rfl (w1.heap.size + 1) 0 #[.int .i64 e1, .int .i64 e2] rfl rfl HK2.out (by kernel_rfl) (by simp [Value.oneCell']) ?_
  simp only [Act.put]
  generalize (((w1.alloc (.cells #[.int .i64 0, .int .i64 0, .int .i64 0, .int .i64 0, .int .i64 0, .int .i64 0, .int .i64 0, .int .i64 0, .int .i64 0, .int .i64 0, .int .i64 0, .int .i64 0, .int .i64 0, .int .i64 0, .int .i64 0, .int .i64 0, .int .i64 0, .int .i64 0, .int .i64 0, .int .i64 0] 48)).alloc (.cells #[.int .i64 0, .int .i64 0] 29)).setCells w1.heap.size 0 [.int .i64 (f 0), .int .i64 (f 1), .int .i64 (f 2), .int .i64 (f 3), .int .i64 (f 4), .int .i64 (f 5), .int .i64 (f 6), .int .i64 (f 7), .int .i64 (f 8), .int .i64 (f 9), .int .i64 (f 10), .int .i64 (f 11), .int .i64 (f 12), .int .i64 (f 13), .int .i64 (f 14), .int .i64 (f 15), .int .i64 (f 16), .int .i64 (f 17), .int .i64 (f 18), .int .i64 (f 19)]).setCells (w1.heap.size + 1) 0 [.int .i64 e1, .int .i64 e2] = X at *
  clear HK1 HK2
  have hBX := HBA.out.trans (HK5.out.mono HBA.out.size)
  have HBX := hide hBX
  have hl0 := HLW.out
  have hs1 := HS1.out
  have hlx := HK6.out
  have hwX : w.heap.size < X.heap.size := by omega
  obtain ⟨cm, _⟩ := one_block ((HK5.out.block w.heap.size hl0).trans HM0.out)
  have m0 := cm 0
  have m1 := cm 1
  have m2 := cm 2
  have HMX := hide ((HK5.out.block w.heap.size hl0).trans HM0.out)
  have hCp := HCp.out X (HV.out.below hBX)
  generalize w1.heap.size = BP at *
  clear cm hBX HM0 HK5 HBA HLW HS1 hs1 hl0
  go_wp2_with fail
  refine hCp.mono ?_
  rintro e w2 ⟨g, rfl, hg, hV2, hb2⟩
  have hCu := HCu.out w2 (some ⟨g, 0, none⟩) n n hV2 HL.out HN.out
  have HB2 := hide hb2
  clear hCp HCu hV2 hb2 m0 m1 m2 hg
  go_wp2_with fail
  refine hCu.mono ?_
  rintro e w3 ⟨fv, rfl, hb3, hfv⟩
  have HFV := hide hfv
  have hb23 := HB2.out.trans (hb3.mono HB2.out.size)
  have HSP := hide (heap_alloc_new w3 (.cells #[.int .i64 e1, .int .i64 e2] 29))
  have HYS : Hid (w3.heap.size < (w3.alloc (.cells #[.int .i64 e1, .int .i64 e2] 29)).heap.size) := by show _ < _; simp
  have HXY := hide (hb23.alloc hb23.size (.cells #[.int .i64 e1, .int .i64 e2] 29))
  have HY3 := hide ((Below.refl w3.heap.size w3).alloc (Nat.le_refl _) (.cells #[.int .i64 e1, .int .i64 e2] 29))
  have HX3 : Hid (X.heap.size ≤ w3.heap.size) := hb23.size
  have hfb : ∃ x m cv, fv = .slice x m cv := by
    rcases hfv with ⟨_, h⟩ | ⟨_, h⟩
    · exact ⟨_, _, _, h⟩
    · obtain ⟨x, cv, h, _⟩ := h.read; exact ⟨_, _, _, h⟩
  obtain ⟨fx, fm, fcv, rfl⟩ := hfb
  clear hCu hb3 hb23 HB2 hfv
  go_wp2_with fail
  generalize w3.alloc (.cells #[.int .i64 e1, .int .i64 e2] 29) = Y at *
  have hys := HYS.out
  have hx3 := HX3.out
  have HBY := hide (HBX.out.trans (HXY.out.mono HBX.out.size))
  have LC : Hid (∀ w', Below Y.heap.size Y w' → w'.cell? ⟨w.heap.size, 0, none⟩ = some (.int .u32 gen) ∧ w'.cell? ⟨w.heap.size, 1, none⟩ = some (.int .u32 bnd) ∧ w'.cell? ⟨w.heap.size, 2, none⟩ = some (.slice a n c) ∧ w'.cell? ⟨BP + 1, 0, none⟩ = some (.int .i64 e1) ∧ w'.cell? ⟨BP + 1, 1, none⟩ = some (.int .i64 e2) ∧ w'.cell? ⟨w3.heap.size, 0, none⟩ = some (.int .i64 e1) ∧ w'.cell? ⟨w3.heap.size, 1, none⟩ = some (.int .i64 e2)) := fun w' h => by
    obtain ⟨c1, _⟩ := one_block ((h.block w.heap.size (by omega)).trans ((HXY.out.block w.heap.size hwX).trans HMX.out))
    obtain ⟨c2, _⟩ := one_block ((h.block (BP + 1) (by omega)).trans ((HXY.out.block (BP + 1) hlx).trans HK4.out))
    obtain ⟨c3, _⟩ := one_block ((h.block w3.heap.size (by omega)).trans HSP.out)
    exact ⟨c1 0, c1 1, c1 2, c2 0, c2 1, c3 0, c3 1⟩
  have hC0 : Below Y.heap.size Y Y.drew := below_drew Y
  have hmix : Try.prog.follows .mixedOrders = true := by kernel_rfl
  refine (wpIn_wide (n := 0)).1 ?_
  refine wpIn_normal (wpIn_region_any hmix (wpAnyC_sound (C := Below Y.heap.size Y) _ _ _ _ ?_))
  change wpAnyC _ _ _ _ _ _ _ _ _ _ (World.drew _)
  refine wpAnyC_takeD (i := 0) (some 26) (v := .agg #[.int .i64 e1, .int .i64 e2]) (fun _ => trivial) (by kernel_rfl) rfl rfl (by kernel_rfl) (by kernel_rfl) (by kernel_rfl) (fun _ _ _ h => by cases h.1) hC0 (Or.inl ⟨by kernel_rfl, fun w' hC => by obtain ⟨e0, e1', e2', e3, e4, e5, e6⟩ := LC.out w' hC; clear hC; go_simp⟩) ?_
  simp only [Act.put, List.setIfInBounds_toArray, List.set_cons_succ, List.set_cons_zero]
  refine wpAnyC_takeD (i := 1) (some 27) (v := .agg #[.int .i64 e1, .int .i64 e2]) (fun _ => trivial) (by kernel_rfl) rfl rfl (by kernel_rfl) (by kernel_rfl) (by kernel_rfl) (fun _ _ _ h => by cases h.1) hC0 (Or.inl ⟨by kernel_rfl, fun w' hC => by obtain ⟨e0, e1', e2', e3, e4, e5, e6⟩ := LC.out w' hC; clear hC; go_simp⟩) ?_
  simp only [Act.put, List.setIfInBounds_toArray, List.set_cons_succ, List.set_cons_zero]
  refine wpAnyC_takeD (i := 2) (some 28) (v := .bool false) (fun _ => trivial) (by kernel_rfl) rfl rfl (by kernel_rfl) (by kernel_rfl) (by kernel_rfl) (fun _ _ _ h => by cases h.1) hC0 (Or.inl ⟨by kernel_rfl, fun w' hC => by clear hC; go_simp⟩) ?_
  simp only [Act.put, List.setIfInBounds_toArray, List.set_cons_succ, List.set_cons_zero]
  refine wpAnyC_takeD (i := 3) (some 29) (v := .bool false) (fun _ => trivial) (by kernel_rfl) rfl rfl (by kernel_rfl) (by kernel_rfl) (by kernel_rfl) (fun _ _ _ h => by cases h.1) hC0 (Or.inl ⟨by kernel_rfl, fun w' hC => by clear hC; go_simp⟩) ?_
  simp only [Act.put, List.setIfInBounds_toArray, List.set_cons_succ, List.set_cons_zero]
  refine wpAnyC_takeD (i := 4) (some 30) (v := .agg #[.int .i64 e1, .int .i64 e2]) (fun _ => trivial) (by kernel_rfl) rfl rfl (by kernel_rfl) (by kernel_rfl) (by kernel_rfl) (fun _ _ _ h => by cases h.1) hC0 (Or.inl ⟨by kernel_rfl, fun w' hC => by obtain ⟨e0, e1', e2', e3, e4, e5, e6⟩ := LC.out w' hC; clear hC; go_simp⟩) ?_
  simp only [Act.put, List.setIfInBounds_toArray, List.set_cons_succ, List.set_cons_zero]
  refine wpAnyC_takeD (i := 5) (some 31) (v := .agg #[.int .u32 gen, .int .u32 bnd, .slice a n c]) (fun _ => trivial) (by kernel_rfl) rfl rfl (by kernel_rfl) (by kernel_rfl) (by kernel_rfl) (fun _ _ _ h => by cases h.1) hC0 (Or.inl ⟨by kernel_rfl, fun w' hC => by obtain ⟨e0, e1', e2', e3, e4, e5, e6⟩ := LC.out w' hC; clear hC; go_simp⟩) ?_
  simp only [Act.put, List.setIfInBounds_toArray, List.set_cons_succ, List.set_cons_zero]
  refine wpAnyC_ready (rs := [6]) (by kernel_rfl) (by simp) ?_
  refine AllC.cons rfl (fun K hK => ?_) AllC.nil
  go_simp
  refine ⟨trivial, rfl, (callsIn_wide.2 (HCp.out Y.drew (HV.out.below (HBY.out.trans (hC0.mono HBY.out.size))))).mono ?_⟩
  rintro e y1 ⟨g4, rfl, hg4, hV4, hb4⟩
  dsimp only
  have hC1 : Below Y.heap.size Y y1 := hC0.trans (show Below Y.heap.size Y.drew y1 from hb4)
  refine hK _ _ hC1 ?_
  clear hK K hb4
  refine wpAnyC_ready (rs := [7]) (by kernel_rfl) (by simp) ?_
  refine AllC.cons rfl (fun K hK => ?_) AllC.nil
  go_simp
  refine ⟨trivial, rfl, (callsIn_wide.2 (HCk.out y1 (some ⟨g4, 0, none⟩) n n hV4 HL.out HN.out)).mono ?_⟩
  rintro e y2 ⟨rfl, hb5⟩
  dsimp only
  have hC2 : Below Y.heap.size Y y2 := hC1.trans (hb5.mono hC1.size)
  refine hK _ _ hC2 ?_
  clear hK K hb5
  refine wpAnyC_takeD (i := 8) (some 34) (v := .bool false) (fun _ => trivial) (by kernel_rfl) rfl rfl (by kernel_rfl) (by kernel_rfl) (by kernel_rfl) (fun _ _ _ h => by cases h.1) hC2 (Or.inl ⟨by kernel_rfl, fun w' hC => by clear hC; go_simp⟩) ?_
  simp only [Act.put, List.setIfInBounds_toArray, List.set_cons_succ, List.set_cons_zero]
  refine wpAnyC_takeD (i := 9) (some 35) (v := .bool false) (fun _ => trivial) (by kernel_rfl) rfl rfl (by kernel_rfl) (by kernel_rfl) (by kernel_rfl) (fun _ _ _ h => by cases h.1) hC2 (Or.inl ⟨by kernel_rfl, fun w' hC => by clear hC; go_simp⟩) ?_
  simp only [Act.put, List.setIfInBounds_toArray, List.set_cons_succ, List.set_cons_zero]
  refine wpAnyC_done (by kernel_rfl) ⟨rfl, ?_⟩ _
  have HC2 := hide hC2
  clear hC0 hC1 hC2 hV4 HCp HCk LC hg4
  rw [then_normalW]
  have hE1 := kitEnum_any 0 y2
  go_wp2_with fail
  refine hE1.mono ?_
  rintro e x1 ⟨rfl, hx1⟩
  have hE2 := kitEnum_any 0 x1
  have HX1 := hide (HC2.out.trans (hx1.mono HC2.out.size))
  clear hE1 hx1
  go_wp2_with fail
  refine hE2.mono ?_
  rintro e x2 ⟨rfl, hx2⟩
  have HX2 := hide (HX1.out.trans (hx2.mono HX1.out.size))
  obtain ⟨hTv, hTb⟩ := one_mem x2
  have hC2 := HC1.out _ _ 1 hTv
  have HTB := hide (HX2.out.trans (hTb.mono HX2.out.size))
  clear hTv hTb hE2 hx2 HX1 HX2 HC1 HC2
  go_wp2_with fail
  generalize ((x2.alloc (.cells #[.int .u8 4, .int .u32 0, .string ⟨#[]⟩, .int .u8 4, .int .u32 0, .string ⟨#[]⟩] 54)).alloc (.cells #[.int .u16 14, .int .u32 0, .int .u32 0, .slice (some ⟨x2.heap.size, 0, none⟩) 2 2] 58)).alloc (.cells #[.int .u32 0, .int .u32 1, .slice (some ⟨x2.heap.size + 1, 0, none⟩) 1 1] 25) = X5 at *
  refine hC2.mono ?_
  rintro e z ⟨rfl, hz⟩
  have HZ := hide (HTB.out.trans (hz.mono HTB.out.size))
  have HBZ := hide (HBY.out.trans (HZ.out.mono HBY.out.size))
  have hyz : Y.heap.size ≤ z.heap.size := HZ.out.size
  have HSPN := hide ((HZ.out.block BP (by omega)).trans ((HXY.out.block BP (by omega)).trans HK3.out))
  obtain ⟨cs, _⟩ := one_block ((HZ.out.block (BP + 1) (by omega)).trans ((HXY.out.block (BP + 1) hlx).trans HK4.out))
  have s0 := cs 0
  obtain ⟨cm, _⟩ := one_block ((HZ.out.block w.heap.size (by omega)).trans ((HXY.out.block w.heap.size hwX).trans HMX.out))
  have HM2 := hide (cm 2)
  clear cs cm hC2 hz HTB HK4 HSP HK6 HMX
  by_cases he : e1 = 0
  · subst he
    have HFPP := hide (HFP.out rfl)
    obtain ⟨hfn, hmo⟩ := HW.out rfl
    have HFN := hide hfn
    have hFA : FuncsAt z w2.heap.size (.slice fx fm fcv) fs := by
      rcases HFV.out with ⟨h, _⟩ | ⟨_, h⟩
      · exact absurd rfl h
      · exact h.below (HY3.out.trans (HZ.out.mono (Nat.le_of_lt HYS.out)))
    obtain ⟨xx, cc, hq, hread⟩ := hFA.read
    injection hq with hq1 hq2 hq3
    subst hq1 hq2 hq3
    have HRD := hide hread
    obtain ⟨csp, _⟩ := one_block HSPN.out
    have HSC : Hid (∀ i, i < 20 → z.cell? ⟨BP, i, none⟩ = some (.int .i64 (cntP l ((i + 1) / 2) n))) := fun i hi => by
      rw [← HFPP.out i, csp i]
      match i, hi with
      | 0, _ => rfl
      | 1, _ => rfl
      | 2, _ => rfl
      | 3, _ => rfl
      | 4, _ => rfl
      | 5, _ => rfl
      | 6, _ => rfl
      | 7, _ => rfl
      | 8, _ => rfl
      | 9, _ => rfl
      | 10, _ => rfl
      | 11, _ => rfl
      | 12, _ => rfl
      | 13, _ => rfl
      | 14, _ => rfl
      | 15, _ => rfl
      | 16, _ => rfl
      | 17, _ => rfl
      | 18, _ => rfl
      | 19, _ => rfl
      | m + 20, h => exact absurd h (by omega)
    have hbp : BP < z.heap.size := by omega
    have hwz : w.heap.size < z.heap.size := by omega
    have hcn : ∀ q, cntP l q n ≤ n := fun q => cntP_le l q n
    have HCN := hide hcn
    have hn0 := HN.out
    have HFL : Hid (fs.length ≤ n) := by have := fnC_len hfn; show _ ≤ _; omega
    clear csp hread hfn hcn HFV HF0 HFP HW HFPP HSPN hFA HY3 HX3 HYS HK3 HXY HBX HZ HBY
    go_wp2_with fail
    go_loopw [8, 9] (fun x i wr => ∃ k : Nat, k ≤ 10 ∧ i = .int .i64 k ∧ x = .int .i64 ((cntP l k n : Nat) : Int) ∧ wr = z) (fun _ i _ => 10 - (intOf i).toNat)
    case atStart => exact ⟨0, by omega, rfl, by rw [cntP_zero]; rfl, rfl⟩
    case round =>
      obtain ⟨k, hk, rfl, rfl, rfl⟩ := hrel
      by_cases hlt : k < 10
      · have hki : (k : Int) < 10 := by omega
        have hk0 : (0 : Int) ≤ (k : Int) := by omega
        have p0 := HSC.out (k * 2) (by omega)
        have p1 := HSC.out (k * 2 + 1) (by omega)
        rw [show (k * 2 + 1) / 2 = k by omega] at p0
        rw [show (k * 2 + 1 + 1) / 2 = k + 1 by omega] at p1
        have hmn : ¬ (((cntP l (k + 1) n : Nat) : Int) < ((cntP l k n : Nat) : Int)) := by have := cntP_mono l k n; omega
        generalize hB : cntP l (k + 1) n = B at *
        have HB := hide hB
        clear hB
        generalize cntP l k n = A at *
        clear s0
        go_wp2_with fail
        case roundEnd => exact ⟨⟨k + 1, by omega, by go_num, by rw [HB.out], trivial⟩, by simp [intOf]; omega⟩
        all_goals (exfalso; omega)
      · have hk10 : k = 10 := by omega
        have hkn : ¬ ((k : Int) < 10) := by omega
        have p2 := HSC.out 2 (by omega)
        have p3 := HSC.out 3 (by omega)
        have p16 := HSC.out 16 (by omega)
        have m2 := HM2.out
        have hmw : IntKind.i64.wrap (((cntP l 1 n : Nat) : Int) + 1) = ((cntP l 2 n : Nat) : Int) := by have := HCN.out 2; rw [IntKind.wrap_i64]; omega
        have ht := cntP_top l k (by omega) n
        have ht9 := cntP_top l 9 (by omega) n
        have HP17 : Hid (wr.cell? ⟨BP, 17, none⟩ = some (.int .i64 (n : Int))) := by have := HSC.out 17 (by omega); rw [show (17 + 1) / 2 = 9 by omega, ht9] at this; exact this
        simp only [show (2 + 1) / 2 = 1 by omega, show (3 + 1) / 2 = 2 by omega, show (16 + 1) / 2 = 8 by omega] at p2 p3 p16
        rw [ht]
        clear ht ht9 hmo hk hlt HSC s0 hk10
        generalize cntP l 1 n = A1 at *
        generalize cntP l 2 n = A2 at *
        generalize cntP l 8 n = A8 at *
        go_wp2_with fail
        rename World => wo
        have HP16 := hide p16
        clear p2 p3 p16 hmw m2
        go_loopw [8, 10] (fun x i wr => ∃ j s : Nat, j ≤ fs.length ∧ i = .int .i64 j ∧ x = .int .i64 (s : Int) ∧ fnC l s (fs.drop j) n ∧ Below wo.heap.size wo wr) (fun _ i _ => fs.length - (intOf i).toNat)
        case atStart => exact ⟨0, A8, by omega, rfl, rfl, HFN.out, Below.refl _ _⟩
        case round =>
          obtain ⟨j, s, hj, rfl, rfl, hfc, hbq⟩ := hrel
          rename World => wq
          have HBQ := hide hbq
          by_cases hlt : j < fs.length
          · have HLTJ := hide hlt
            have WJ := hide (wrap64_next (Nat.lt_of_lt_of_le hlt HFL.out) HN.out)
            have hnx : fs.drop j = nthF fs j :: fs.drop (j + 1) := by
              rw [List.drop_eq_getElem_cons hlt]
              simp [nthF, List.getD, hlt]
            rw [hnx] at hfc
            obtain ⟨F, xp, cp, xq, cq, hx, hF, q0, q1, q2, q3, q4, hblk⟩ := HRD.out j hlt
            obtain ⟨h1, h2, h3, t, h4, h5, h6⟩ := hfc
            have hj0 : (0 : Int) ≤ (j : Int) := by omega
            have hji : (j : Int) < (fs.length : Int) := by omega
            have hle := fnC_le h6
            have hle5 := blkC_le h5
            have H6 := hide h6
            have H5 := hide h5
            have HBL := hide hblk
            replace q0 := (hbq.cell (p := ⟨F, j * 5, none⟩) hF).trans q0
            replace q1 := (hbq.cell (p := ⟨F, j * 5 + 1, none⟩) hF).trans q1
            replace q2 := (hbq.cell (p := ⟨F, j * 5 + 2, none⟩) hF).trans q2
            replace q3 := (hbq.cell (p := ⟨F, j * 5 + 3, none⟩) hF).trans q3
            replace q4 := (hbq.cell (p := ⟨F, j * 5 + 4, none⟩) hF).trans q4
            have hFq : F < wq.heap.size := Nat.lt_of_lt_of_le hF hbq.size
            have hwq : w.heap.size < wq.heap.size := Nat.lt_of_lt_of_le hwz hbq.size
            subst hx
            clear hnx h5 h6 hblk hF
            generalize nthF fs j = fn at *
            obtain ⟨fid, fat, fps, fbs, fen⟩ := fn
            simp only at *
            subst h1 h4
            have hbn : fbs.length ≠ 0 := fun e => h3 (List.length_eq_zero_iff.1 e)
            generalize hbl : fbs.length = bl at *
            have HBN := hide hbl
            have HBNN : Hid (bl ≤ n) := by have h1 := blkC_len H5.out; rw [hbl] at h1; show _ ≤ _; omega
            have hWn := heap_alloc_new wq (.cells #[.int .u32 fid, .int .i64 (s : Int), .slice xp fps.length cp, .slice xq bl cq, .int .i64 (t : Int)] 39)
            have HWN := hide hWn
            have HWS : Hid (wq.heap.size < (wq.alloc (.cells #[.int .u32 fid, .int .i64 (s : Int), .slice xp fps.length cp, .slice xq bl cq, .int .i64 (t : Int)] 39)).heap.size) := by show _ < _; simp
            have HWB := hide ((Below.refl wq.heap.size wq).alloc (Nat.le_refl _) (.cells #[.int .u32 fid, .int .i64 (s : Int), .slice xp fps.length cp, .slice xq bl cq, .int .i64 (t : Int)] 39))
            clear h3 hbl hWn hbq
            go_wp2_with fail
            generalize wq.alloc (.cells #[.int .u32 fid, .int .i64 (s : Int), .slice xp fps.length cp, .slice xq bl cq, .int .i64 (t : Int)] 39) = W at *
            have hws := HWS.out
            have HOW := hide (HBQ.out.trans (HWB.out.mono HBQ.out.size))
            have HWW := hide (HBZ.out.trans (HOW.out.mono HBZ.out.size))
            obtain ⟨cf, _⟩ := one_block HWN.out
            have f0 := fun s : InC (Below W.heap.size W) => s.cell (p := ⟨wq.heap.size, 0, none⟩) hws (cf 0)
            have f1 := fun s : InC (Below W.heap.size W) => s.cell (p := ⟨wq.heap.size, 1, none⟩) hws (cf 1)
            have f3 := fun s : InC (Below W.heap.size W) => s.cell (p := ⟨wq.heap.size, 3, none⟩) hws (cf 3)
            have f4 := fun s : InC (Below W.heap.size W) => s.cell (p := ⟨wq.heap.size, 4, none⟩) hws (cf 4)
            have hwW : w.heap.size < W.heap.size := by omega
            have hbpW : BP < W.heap.size := by have := HBQ.out.size; omega
            have m2 := fun s : InC (Below W.heap.size W) => s.cell (p := ⟨w.heap.size, 2, none⟩) hwW ((HOW.out.cell (p := ⟨w.heap.size, 2, none⟩) hwz).trans HM2.out)
            obtain ⟨g1, o1, aj, cj, nj, ha, hg1, p1, p2, p3, p4, p5, p6, p7⟩ := HV.out.below HWW.out s (by rw [HL.out]; omega)
            rw [h2] at p3
            have r3 := fun s' : InC (Below W.heap.size W) => s'.cell (p := ⟨g1, o1 + s * 4 + 2, none⟩) hg1 p3
            have hne : Nonempty (InC (Below W.heap.size W)) := ⟨⟨W, Below.refl _ _⟩⟩
            have d1 : ¬ ((n : Int) ≤ (t : Int)) := by omega
            have d2 : ¬ (n ≤ t) := by omega
            have d3 : (0 : Int) ≤ (s : Int) := by omega
            have d4 : (s : Int) < (n : Int) := by omega
            have d5 : s < n := by omega
            have d6 : ((bl : Int) == 0) = false := by simp; exact hbn
            have hw1 : IntKind.i64.wrap ((s : Int) + 1) = ((s + 1 : Nat) : Int) := by rw [IntKind.wrap_i64]; omega
            have hw2 : IntKind.i64.wrap (((s + 1 : Nat) : Int) + (fps.length : Int)) = ((s + 1 + fps.length : Nat) : Int) := by rw [IntKind.wrap_i64]; omega
            have HW1 := hide hw1
            have HW2 := hide hw2
            have HG1 := hide ha
            subst ha
            clear cf p1 p2 p3 p4 p5 p6 p7 q0 q1 q2 q3 q4 hw1 hw2 hFq h2
            refine wp_norm ?_
            refine wp_region_class (C := Below W.heap.size W) (by kernel_rfl) (by kernel_rfl) (below_drew W) ?_
            repeat (go_big_quiet_step (fail))
            refine wpQuiet_nil ?_
            rintro _ ⟨sv, rfl⟩
            have v1 := f1 sv
            have v2 := sv.cell (p := ⟨wq.heap.size, 2, none⟩) hws ((one_block HWN.out).1 2)
            have HVW := hide sv.ok
            have hvs : W.heap.size ≤ sv.w.heap.size := sv.ok.size
            have hwqv : wq.heap.size < sv.w.heap.size := by omega
            have HC3 := hide (f3 sv)
            have HC4 := hide (f4 sv)
            have HM2V := hide (m2 sv)
            have hw1 := HW1.out
            have hw2 := HW2.out
            clear hne f0 f1 f3 f4 m2 r3 d1 d2 d3 d4 d5 d6 hbn
            generalize sv.w = V at *
            rw [onNormal_normal]
            go_wp2_with fail
            clear v1 v2 hw1 hw2
            go_loopw [8, 12] (fun x i wr => ∃ k q : Nat, k ≤ bl ∧ i = .int .i64 k ∧ x = .int .i64 (q : Int) ∧ blkC l q (fbs.drop k) t ∧ Below V.heap.size V wr) (fun _ i _ => bl - (intOf i).toNat)
            case atStart => exact ⟨0, s + 1 + fps.length, by omega, rfl, rfl, H5.out, Below.refl _ _⟩
            case round =>
              obtain ⟨k, q, hk, rfl, rfl, hbc, hbr⟩ := hrel
              by_cases hlt3 : k < bl
              · have hnx : fbs.drop k = nthB fbs k :: fbs.drop (k + 1) := by
                  rw [List.drop_eq_getElem_cons (by rw [HBN.out]; exact hlt3)]
                  simp [nthB, List.getD, HBN.out, hlt3]
                rw [hnx] at hbc
                have HLT := hide hlt3
                have WK := hide (wrap64_next (Nat.lt_of_lt_of_le hlt3 HBNN.out) HN.out)
                have hOR := HOW.out.trans ((HVW.out.trans (hbr.mono HVW.out.size)).mono HOW.out.size)
                obtain ⟨G, hx, hG, t0, t1, t2⟩ := HBL.out k hlt3
                obtain ⟨h1, h2, tb, h4, h4', h5, h6⟩ := hbc
                have hk0 : (0 : Int) ≤ (k : Int) := by omega
                have hki : (k : Int) < (bl : Int) := by omega
                have hle6 := blkC_le h6
                have H6' := hide h6
                replace t0 := (hOR.cell (p := ⟨G, k * 3, none⟩) hG).trans t0
                replace t1 := (hOR.cell (p := ⟨G, k * 3 + 1, none⟩) hG).trans t1
                replace t2 := (hOR.cell (p := ⟨G, k * 3 + 2, none⟩) hG).trans t2
                have hGr : G < wr.heap.size := Nat.lt_of_lt_of_le hG hOR.size
                have c3 := (hbr.cell (p := ⟨wq.heap.size, 3, none⟩) hwqv).trans HC3.out
                have hwr2 : wq.heap.size < wr.heap.size := Nat.lt_of_lt_of_le hwqv hbr.size
                have HBR := hide hbr
                have HOR := hide hOR
                subst hx
                clear hnx h6 hG hbr hOR
                generalize nthB fbs k = bn at *
                obtain ⟨bid, bfr, bto⟩ := bn
                simp only at *
                subst h1 h4
                have HWN2 := hide (heap_alloc_new wr (.cells #[.int .u32 bid, .int .i64 (q : Int), .int .i64 (tb : Int)] 41))
                have HWS2 : Hid (wr.heap.size < (wr.alloc (.cells #[.int .u32 bid, .int .i64 (q : Int), .int .i64 (tb : Int)] 41)).heap.size) := by show _ < _; simp
                have HWB2 := hide ((Below.refl wr.heap.size wr).alloc (Nat.le_refl _) (.cells #[.int .u32 bid, .int .i64 (q : Int), .int .i64 (tb : Int)] 41))
                go_wp2_with fail
                generalize wr.alloc (.cells #[.int .u32 bid, .int .i64 (q : Int), .int .i64 (tb : Int)] 41) = U at *
                have hws2 := HWS2.out
                have hVU := HBR.out.trans (HWB2.out.mono HBR.out.size)
                have HVU := hide hVU
                have HOU := HOR.out.trans (HWB2.out.mono HOR.out.size)
                have HWU := HBZ.out.trans (HOU.mono HBZ.out.size)
                obtain ⟨cf, _⟩ := one_block HWN2.out
                have b0 := fun s : InC (Below U.heap.size U) => s.cell (p := ⟨wr.heap.size, 0, none⟩) hws2 (cf 0)
                have b1' := fun s : InC (Below U.heap.size U) => s.cell (p := ⟨wr.heap.size, 1, none⟩) hws2 (cf 1)
                have b2 := fun s : InC (Below U.heap.size U) => s.cell (p := ⟨wr.heap.size, 2, none⟩) hws2 (cf 2)
                have hqU : wq.heap.size < U.heap.size := by omega
                have hwU : w.heap.size < U.heap.size := by omega
                have f4 := fun s : InC (Below U.heap.size U) => s.cell (p := ⟨wq.heap.size, 4, none⟩) hqU ((hVU.cell (p := ⟨wq.heap.size, 4, none⟩) hwqv).trans HC4.out)
                have hwV : w.heap.size < V.heap.size := by omega
                have m2 := fun s : InC (Below U.heap.size U) => s.cell (p := ⟨w.heap.size, 2, none⟩) hwU ((hVU.cell (p := ⟨w.heap.size, 2, none⟩) hwV).trans HM2V.out)
                obtain ⟨g2, o2, aj2, cj2, nj2, ha2, hg2, p1, p2, p3, p4, p5, p6, p7⟩ := HV.out.below HWU q (by rw [HL.out]; omega)
                obtain ⟨g3, o3, aj3, cj3, nj3, ha3, hg3, r1, r2, r3, r4, r5, r6, r7⟩ := HV.out.below HWU (tb - 1) (by rw [HL.out]; omega)
                have e2 : g2 = g1 ∧ o2 = o1 := by injection ha2 with e; injection e with x1 x2; exact ⟨x1.symm, x2.symm⟩
                have e3 : g3 = g1 ∧ o3 = o1 := by injection ha3 with e; injection e with x1 x2; exact ⟨x1.symm, x2.symm⟩
                obtain ⟨rfl, rfl⟩ := e2
                obtain ⟨rfl, rfl⟩ := e3
                rw [h2] at p3
                have u3 := fun s' : InC (Below U.heap.size U) => s'.cell (p := ⟨g3, o3 + q * 4 + 2, none⟩) hg2 p3
                have u1 := fun s' : InC (Below U.heap.size U) => s'.cell (p := ⟨g3, o3 + (tb - 1) * 4, none⟩) hg3 r1
                have hEn := fun s' : InC (Below U.heap.size U) => Calls.inC_same s' (ends_any (nthI l (tb - 1)).1 s'.w)
                rw [h5] at hEn
                have hne : Nonempty (InC (Below U.heap.size U)) := ⟨⟨U, Below.refl _ _⟩⟩
                have z1 : IntKind.i64.wrap ((q : Int) + 1) = ((q + 1 : Nat) : Int) := by rw [IntKind.wrap_i64]; omega
                have z2 : ¬ ((tb : Int) ≤ ((q + 1 : Nat) : Int)) := by omega
                have z2' : ¬ (tb ≤ q + 1) := by omega
                have z2'' : ¬ ((tb : Int) ≤ (q : Int) + 1) := by omega
                have z3 : ¬ ((t : Int) < (tb : Int)) := by omega
                have z3' : ¬ (t < tb) := by omega
                have z4 : (0 : Int) ≤ (q : Int) := by omega
                have z5 : (q : Int) < (n : Int) := by omega
                have z5' : q < n := by omega
                have z6 : IntKind.i64.wrap ((tb : Int) - 1) = ((tb - 1 : Nat) : Int) := by rw [IntKind.wrap_i64]; omega
                have z7 : (0 : Int) ≤ ((tb - 1 : Nat) : Int) := by omega
                have z8 : ((tb - 1 : Nat) : Int) < (n : Int) := by omega
                have z8' : tb - 1 < n := by omega
                have z2d : decide ((tb : Int) ≤ ((q + 1 : Nat) : Int)) = false := by rw [decide_eq_false_iff_not]; omega
                have z3d : decide ((t : Int) < (tb : Int)) = false := by rw [decide_eq_false_iff_not]; omega
                have HTB1 : Hid (tb - 1 + 1 = tb) := by show _ = _; omega
                generalize (nthI l (tb - 1)).1 = ob at *
                generalize tb - 1 = tp at *
                clear cf p1 p2 p3 p4 p5 p6 p7 r1 r2 r3 r4 r5 r6 r7 t0 t1 t2 c3 hVU HOU HWU h2 h4' h5 ha2 ha3 hle6
                refine wp_norm ?_
                refine wp_region_class (C := Below U.heap.size U) (by kernel_rfl) (by kernel_rfl) (below_drew U) ?_
                repeat (go_big_quiet_step ((go_at_call 17; exact hEn _)))
                refine wpQuiet_nil ?_
                rintro _ ⟨sv, rfl⟩
                have v2 := b2 sv
                have hVV := HVU.out.trans (sv.ok.mono HVU.out.size)
                have hws3 := Nat.lt_of_lt_of_le hws2 sv.ok.size
                have HVV := hide hVV
                clear hne b0 b1' b2 f4 m2 u3 u1 hEn z1 z2 z2' z2'' z3 z3' z4 z5 z5' z6 z7 z8 z8' z2d z3d hVV
                generalize sv.w = V2 at *
                rw [onNormal_normal]
                go_wp2_with fail
                go_roundw
                case rel => exact ⟨k + 1, tb, HLT.out, by rw [WK.out], rfl, H6'.out, HVV.out⟩
                case measure =>
                  rw [WK.out]
                  exact meas_next HLT.out
              · obtain rfl : k = bl := by omega
                have hqt : q = t := by rw [← HBN.out, List.drop_length] at hbc; exact hbc
                subst hqt
                have c3 := (hbr.cell (p := ⟨wq.heap.size, 3, none⟩) hwqv).trans HC3.out
                have c4 := (hbr.cell (p := ⟨wq.heap.size, 4, none⟩) hwqv).trans HC4.out
                have hwr2 := Nat.lt_of_lt_of_le hwqv hbr.size
                have WQ := hide (wrap64_next (k := q) (n := n) hle HN.out)
                have HEND := hide (HOW.out.trans ((HVW.out.trans (hbr.mono HVW.out.size)).mono HOW.out.size))
                clear hbr hbc
                go_wp2_with fail
                go_roundw
                case rel => exact ⟨j + 1, q + 1, HLTJ.out, by first | rw [WJ.out] | rfl, by first | rw [WQ.out] | rfl, H6.out, HEND.out⟩
                case measure =>
                  rw [WJ.out]
                  exact meas_next HLTJ.out
          · obtain rfl : j = fs.length := by omega
            have hsn : s = n := by rw [List.drop_length] at hfc; exact hfc
            subst hsn
            have p17 := (hbq.cell (p := ⟨BP, 17, none⟩) hbp).trans HP17.out
            have hbp2 := Nat.lt_of_lt_of_le hbp hbq.size
            clear hfc hlt hj
            have HFIN := hide (HBZ.out.trans (hbq.mono HBZ.out.size))
            clear hbq
            go_wp2_with fail
            go_ret
            exact ⟨by simp, HFIN.out⟩
  · have he' : (e1 == 0) = false := by simpa using he
    have hf := HF0.out he
    have hfm : fx = none ∧ fm = 0 ∧ fcv = 0 := by
      rcases HFV.out with ⟨_, h⟩ | ⟨h, _⟩
      · injection h with h1 h2 h3; exact ⟨h1, h2, h3⟩
      · exact absurd h he
    obtain ⟨rfl, rfl, rfl⟩ := hfm
    simp only [hf] at HSPN
    have hEq := equal_spans z (fun _ => 0)
    clear HFV HF0 HFP HW he hf
    go_wp2_with (with_reducible refine stopD 48 ?_)
    refine wpList_load_midG rfl 48 (.tmp 3) rfl BP 0 rfl [.int .i64 0, .int .i64 0, .int .i64 0, .int .i64 0, .int .i64 0, .int .i64 0, .int .i64 0, .int .i64 0, .int .i64 0, .int .i64 0, .int .i64 0, .int .i64 0, .int .i64 0, .int .i64 0, .int .i64 0, .int .i64 0, .int .i64 0, .int .i64 0, .int .i64 0, .int .i64 0] _ (range_of_block HSPN.out) Try.underlying48 rfl (by kernel_rfl) ?_
    simp only [Act.put, List.setIfInBounds_toArray, List.set_cons_succ, List.set_cons_zero]
    go_wp2_with fail
    go_ret
    exact ⟨by simp, HBZ.out⟩
end Go.Proofs.Ytcckepjpehjijaa
