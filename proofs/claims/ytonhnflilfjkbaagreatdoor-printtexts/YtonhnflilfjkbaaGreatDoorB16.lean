/-
  Texts laid together in one: MathPx, PrintTextOf, PrintText, Law08Awake.
-/
import Derived.WalkKit
import Derived.Test.YtonhnflilfjkbaaGreatDoorB15
import Derived.WalkSpells
import Derived.WalkMore
import Derived.BigRegion
import Derived.BigQuiet
import Derived.Deep.RegionHeld2
import Derived.Test.YtonhnflilfjkbaaGreatDoorProg
import Derived.Test.YtonhnflilfjkbaaGreatDoorB13
import Derived.Test.YtonhnflilfjkbaaGreatDoorB01
import Derived.Test.YtonhnflilfjkbaaGreatDoorB12
import Derived.Test.YtonhnflilfjkbaaGreatDoorB02
import Derived.Test.YtonhnflilfjkbaaGreatDoorB03
import Derived.Deep.RegionWith
import Derived.Deep.DrawnRows
import Derived.Test.YtonhnflilfjkbaaGreatDoorB10
/-
  A printed module's lines: what is written of the head's tokens and of an instruction's; how great they are.
-/
namespace Go.Proofs.YtonhnflilfjkbaaGreatDoor
open Go.RowKit
set_option linter.unusedVariables false
set_option linter.unusedSimpArgs false

theorem head_out {g b : Int} (g1 : g < 4294967296) (b1 : b < 4294967296) : wOut (headTk g b) = headL g b := by
  unfold wOut headL
  rw [if_pos (headTk_ok g1 b1)]
  rfl
theorem inst_out {x : InstT} {b : Int} (hx : InstOk x) (hr : rawE x b = 0) : wOut (tksI x) = prI x := by
  unfold wOut prI
  rw [if_pos (tksI_ok hx hr)]
theorem bulk_most {M : Nat} : ∀ (l : List TokT), (∀ t ∈ l, t.2.1.size ≤ M) → bulkT l ≤ l.length * M
  | [], _ => by simp [bulkT]
  | t :: l, h => by
    have ih := bulk_most l (fun u hu => h u (by simp [hu]))
    have h1 := h t (by simp)
    unfold bulkT at ih ⊢
    rw [List.map_cons, List.sum_cons, List.length_cons, Nat.succ_mul]
    omega
theorem inst_few {x : InstT} {b : Int} (hx : InstOk x) (hr : rawE x b = 0) : x.2.2.2.length ≤ 65538 ∧ (tksI x).length ≤ 65542 ∧ 4 * bulkT (tksI x) + 3 * (tksI x).length ≤ 1099511627776 ∧ (lookF refT x.1).2 = true := by
  obtain ⟨h1, h2, h3⟩ := rawWs_ok hr
  obtain ⟨i1, i2, i3, i4, i5⟩ := faultI_zero h2
  have hl : (tksI x).length ≤ 4 + x.2.2.2.length := by
    unfold tksI preTk
    cases (lookF refT x.1).1.2.2.1 <;> cases (lookF refT x.1).1.2.1 <;> simp [argTks_len] <;> omega
  have hw := (wordsL_ge x.2.2.2).1
  have hrl : (wordsL x.2.2.2).length ≤ (rawL (lookF refT x.1).1 x).length := by unfold rawL; rw [List.length_append]; omega
  have hb := bulk_most (M := 300000) (tksI x) (tksI_size hx hr)
  have h4 : (tksI x).length * 300000 ≤ 65542 * 300000 := Nat.mul_le_mul_right _ (by omega)
  exact ⟨by omega, by omega, by omega, h1⟩
theorem joinLs_snoc (l : List (List Int)) (a : List Int) : joinLs (l ++ [a]) = joinLs l ++ a ++ [10] := by simp [joinLs]
/-- The text of the first k instructions. -/
def textTo (g b : Int) (l : List InstT) (k : Nat) : List Int := joinLs (headL g b :: (l.take k).map fun x => prI x)
theorem textTo_zero (g b : Int) (l : List InstT) : textTo g b l 0 = headL g b ++ [10] := by simp [textTo, joinLs]
theorem textTo_next (g b : Int) (l : List InstT) (k : Nat) (h : k < l.length) : textTo g b l (k + 1) = textTo g b l k ++ prI (nthI l k) ++ [10] := by
  unfold textTo
  rw [List.take_succ_eq_append_getElem h, List.map_append, ← List.cons_append, List.map_cons, List.map_nil, joinLs_snoc]
  have e : nthI l k = l[k] := by simp [nthI, List.getD, h]
  rw [e]
theorem textTo_all (g b : Int) (l : List InstT) : textTo g b l l.length = textP g b l := by unfold textTo textP; rw [List.take_length]
theorem textTo_len (g b : Int) (l : List InstT) : ∀ k, k ≤ l.length → (textTo g b l k).length ≤ (textP g b l).length := by
  intro k hk
  rw [← textTo_all]
  obtain ⟨d, hd⟩ : ∃ d, l.length = k + d := ⟨l.length - k, by omega⟩
  rw [hd]
  clear hk
  have key : ∀ d, k + d ≤ l.length → (textTo g b l k).length ≤ (textTo g b l (k + d)).length := by
    intro d
    induction d with
    | zero => intro _; exact Nat.le_refl _
    | succ d ih =>
      intro h
      have := ih (by omega)
      rw [show k + (d + 1) = (k + d) + 1 by omega, textTo_next g b l (k + d) (by omega)]
      simp only [List.length_append]
      omega
  exact key d (by omega)
theorem textP_few {g : Int} {N : Nat} {l : List InstT} (g1 : g < 4294967296) (hok : InstsOk l) (hs : (shapeE (N : Int) l).1 = 0) : (textP g (N : Int) l).length ≤ 16777216 := by
  have h := textP_size g1 hok hs
  have e : (strOfNums (textP g (N : Int) l)).size = (textP g (N : Int) l).length := by simp [strOfNums, ByteArray.size]
  omega
theorem textP_within {g : Int} {N : Nat} {l : List InstT} (g1 : g < 4294967296) (hok : InstsOk l) (hs : (shapeE (N : Int) l).1 = 0) : Within 256 (textP g (N : Int) l) := joinLs_within (textP_ok g1 hok hs)
theorem textP_ne (g b : Int) (l : List InstT) : textP g b l ≠ [] := by unfold textP joinLs; simp

theorem tok_in (k : Int) (s : ByteArray) (h0 : 0 ≤ k) (h1 : k < 256) (hs : s.size ≤ 300000) : TokIn (k, s, 0) := ⟨h0, h1, by simp only; omega, by simp only; omega, by simp only; omega⟩
theorem argTk_kind (c : Int) (x : ArgT) : 0 ≤ (argTk c x).1 ∧ (argTk c x).1 < 256 ∧ (argTk c x).2.2 = 0 := by
  unfold argTk
  repeat' split
  all_goals exact ⟨by simp, by simp, rfl⟩
theorem tksI_in {x : InstT} {b : Int} (hx : InstOk x) (hr : rawE x b = 0) : ToksIn (tksI x) := by
  intro j hj
  have hm : nthT (tksI x) j ∈ tksI x := by rw [nthT_lt _ _ hj]; exact List.getElem_mem hj
  have hs := tksI_size hx hr _ hm
  generalize nthT (tksI x) j = t at *
  have hk : 0 ≤ t.1 ∧ t.1 < 256 ∧ t.2.2 = 0 := by
    unfold tksI at hm
    rcases List.mem_append.1 hm with ht | ht
    · unfold preTk at ht
      cases e1 : (lookF refT x.1).1.2.2.1 <;> cases e2 : (lookF refT x.1).1.2.1 <;> simp [e1, e2] at ht
      · subst ht; exact ⟨by simp, by simp, rfl⟩
      · rcases ht with rfl | rfl <;> exact ⟨by simp, by simp, rfl⟩
      · rcases ht with rfl | rfl | rfl <;> exact ⟨by simp, by simp, rfl⟩
      · rcases ht with rfl | rfl | rfl | rfl <;> exact ⟨by simp, by simp, rfl⟩
    · unfold argTks at ht
      obtain ⟨k, hk, rfl⟩ := List.mem_map.1 ht
      exact argTk_kind _ _
  obtain ⟨t0, t1, t2⟩ := t
  obtain ⟨a1, a2, a3⟩ := hk
  simp only at a1 a2 a3
  subst a3
  exact tok_in t0 t1 a1 a2 hs
theorem headTk_in {g b : Int} (g1 : g < 4294967296) (b1 : b < 4294967296) : ToksIn (headTk g b) := by
  intro j hj
  have d1 := dgS_size g1
  have d2 := dgS_size b1
  have d3 : modS.size = 6 := rfl
  have hm : nthT (headTk g b) j ∈ headTk g b := by rw [nthT_lt _ _ hj]; exact List.getElem_mem hj
  generalize nthT (headTk g b) j = t at *
  simp only [headTk, List.mem_cons, List.not_mem_nil, or_false] at hm
  rcases hm with h | h | h <;> rw [h]
  · exact tok_in 1 modS (by decide) (by decide) (by omega)
  · exact tok_in 3 _ (by decide) (by decide) (by omega)
  · exact tok_in 3 _ (by decide) (by decide) (by omega)
theorem headTk_few {g b : Int} (g1 : g < 4294967296) (b1 : b < 4294967296) : 4 * bulkT (headTk g b) + 3 * 3 ≤ 1099511627776 := by
  have d1 := dgS_size g1
  have d2 := dgS_size b1
  have d3 : modS.size = 6 := rfl
  simp only [bulkT, headTk, List.map_cons, List.map_nil, List.sum_cons, List.sum_nil]
  omega

end Go.Proofs.YtonhnflilfjkbaaGreatDoor

/-
  textOf of the package print: the text of a module of good shape.
-/
namespace Go.Proofs.YtonhnflilfjkbaaGreatDoor
open Go.RowKit
set_option linter.unusedSimpArgs false
set_option maxRecDepth 10000
set_option linter.unusedVariables false

theorem newToks_view (w : World) (m : List TokT) (T : Nat) : ToksV (w.alloc (.cells (m.flatMap tokC).toArray T)) (some ⟨w.heap.size, 0, none⟩) m := by
  intro j hj
  have hc := newToks_cells w m T
  refine ⟨w.heap.size, 0, rfl, by simp, ?_, ?_, ?_⟩
  · have := hc (j * 3 + 0) _ (flat_tok m j 0 hj (by omega))
    rw [Addr.add_mid] at this
    exact this
  · have := hc (j * 3 + 1) _ (flat_tok m j 1 hj (by omega))
    rw [Addr.add_mid] at this
    exact this
  · have := hc (j * 3 + 2) _ (flat_tok m j 2 hj (by omega))
    rw [Addr.add_mid] at this
    exact this

theorem measY {k n : Nat} (h : k < n) : n - (intOf (.int .i64 ((k : Int) + 1))).toNat < n - (intOf (.int .i64 (k : Int))).toNat := by simp [intOf]; omega
theorem below_two8 (w : World) (o p : Obj) : Below w.heap.size w ((w.alloc o).alloc p) := ((Below.refl _ w).alloc (Nat.le_refl _) o).alloc (by simp) p

set_option maxHeartbeats 8000000 in
theorem textOf_any (g : Int) (N : Nat) (a : Option Addr) (n c : Nat) (l : List InstT) (w : World) (hv : InstsV w a l) (hok : InstsOk l) (hl : l.length = n) (hn : 40 * n ≤ 140737488351232) (g0 : 0 ≤ g) (g1 : g < 4294967296) (hs : (shapeE (N : Int) l).1 = 0) (hN : (N : Int) < 4294967296) (ht : Pow10 w) :
    Calls Tryz.prog 22 #[.agg #[.int .u32 g, .int .u32 N, .slice a n c]] w fun e w' => e = .returned (.string (strOfNums (textP g (N : Int) l))) ∧ Below w.heap.size w w' := by
  have HV := hide hv
  have HOK := hide hok
  have HL := hide hl
  have HNN := hide hn
  have HSH := hide hs
  have HPW := hide ht
  have N0 : (0 : Int) ≤ (N : Int) := by omega
  have HTX := hide (textP_few g1 hok hs)
  have HWI := hide (textP_within g1 hok hs)
  have hp0 := pge_new (w.alloc (.cells #[.int .u32 g, .int .u32 N, .slice a n c] 25)) (w.heap.size + 1) (by simp)
  rw [World.size_alloc] at hp0
  have HP0 := hide hp0
  have HB0 := hide (below_two8 w (.cells #[.int .u32 g, .int .u32 N, .slice a n c] 25) (.cells #[.pointer none, .slice none 0 0] 78))
  have HM0 : Hid (((w.alloc (.cells #[.int .u32 g, .int .u32 N, .slice a n c] 25)).alloc (.cells #[.pointer none, .slice none 0 0] 78)).heap[w.heap.size]? = some (.cells #[.int .u32 g, .int .u32 N, .slice a n c] 25 (0, 0))) := (Below.heap_alloc _ _ _ (by simp)).trans (heap_alloc_new w _)
  have HS0 : Hid (((w.alloc (.cells #[.int .u32 g, .int .u32 N, .slice a n c] 25)).alloc (.cells #[.pointer none, .slice none 0 0] 78)).heap.size = w.heap.size + 2) := by show _ = _; simp
  clear hv hok hl hn hs ht hp0
  go_enter Tryz.func22, Tryz.ntmps22
  go_wp2_with fail
  generalize (w.alloc (.cells #[.int .u32 g, .int .u32 N, .slice a n c] 25)).alloc (.cells #[.pointer none, .slice none 0 0] 78) = WA at *
  have LC : Hid (∀ w' : World, w'.heap[w.heap.size]? = WA.heap[w.heap.size]? → w'.cell? ⟨w.heap.size, 0, none⟩ = some (.int .u32 g) ∧ w'.cell? ⟨w.heap.size, 1, none⟩ = some (.int .u32 N)) := fun w' hC => by
    have q := hC.trans HM0.out
    exact ⟨(one_block q).1 0, (one_block q).1 1⟩
  have hAw : w.heap.size < WA.heap.size := by rw [HS0.out]; omega
  have hC0 : Below WA.heap.size WA WA.drew := below_drew WA
  have hmix : Tryz.prog.follows .mixedOrders = true := by kernel_rfl
  refine (wpIn_wide (n := 0)).1 ?_
  refine wpIn_normal (wpIn_region_any hmix (wpAnyE_sound (C := fun w' => w'.cell? ⟨w.heap.size, 0, none⟩ = some (.int .u32 g) ∧ w'.cell? ⟨w.heap.size, 1, none⟩ = some (.int .u32 N)) (E := fun i => false) _ _ _ _ ?_))
  change wpAnyE _ _ _ _ _ _ _ _ _ _ _ (World.drew _)
  refine wpAnyE_takeD (i := 1) (some 7) (v := .pointer (some ⟨w.heap.size, 0, none⟩)) (fun _ => trivial) (by kernel_rfl) rfl rfl (by kernel_rfl) (by kernel_rfl) (by kernel_rfl) (by kernel_rfl) (fun _ _ _ h => by cases h.1) (LC.out _ (hC0.block _ hAw)) (Or.inl ⟨by rfl, fun w' hC => by obtain ⟨e0, e1⟩ := hC; go_simp⟩) ?_
  simp only [Act.put, List.setIfInBounds_toArray, List.set_cons_succ, List.set_cons_zero]
  refine wpAnyE_takeD (i := 2) (some 8) (v := .int .u32 g) (fun _ => trivial) (by kernel_rfl) rfl rfl (by kernel_rfl) (by kernel_rfl) (by kernel_rfl) (by kernel_rfl) (fun _ _ _ h => by cases h.1) (LC.out _ (hC0.block _ hAw)) (Or.inl ⟨by rfl, fun w' hC => by obtain ⟨e0, e1⟩ := hC; go_simp⟩) ?_
  simp only [Act.put, List.setIfInBounds_toArray, List.set_cons_succ, List.set_cons_zero]
  refine wpAnyE_takeD (i := 4) (some 10) (v := .pointer (some ⟨w.heap.size, 1, none⟩)) (fun _ => trivial) (by kernel_rfl) rfl rfl (by kernel_rfl) (by kernel_rfl) (by kernel_rfl) (by kernel_rfl) (fun _ _ _ h => by cases h.1) (LC.out _ (hC0.block _ hAw)) (Or.inl ⟨by rfl, fun w' hC => by obtain ⟨e0, e1⟩ := hC; go_simp⟩) ?_
  simp only [Act.put, List.setIfInBounds_toArray, List.set_cons_succ, List.set_cons_zero]
  refine wpAnyE_takeD (i := 5) (some 11) (v := .int .u32 N) (fun _ => trivial) (by kernel_rfl) rfl rfl (by kernel_rfl) (by kernel_rfl) (by kernel_rfl) (by kernel_rfl) (fun _ _ _ h => by cases h.1) (LC.out _ (hC0.block _ hAw)) (Or.inl ⟨by rfl, fun w' hC => by obtain ⟨e0, e1⟩ := hC; go_simp⟩) ?_
  simp only [Act.put, List.setIfInBounds_toArray, List.set_cons_succ, List.set_cons_zero]
  refine wpAnyE_ready (rs := [0]) (by kernel_rfl) (by simp) ?_
  refine AllE.cons rfl (fun K hK => ?_) AllE.nil
  go_simp
  refine ⟨trivial, rfl, (callsIn_wide.2 (printWord_any modS WA.drew)).mono ?_⟩
  rintro e w1 ⟨rfl, hb1⟩
  dsimp only
  have hC1 : Below WA.heap.size WA w1 := hC0.trans (show Below WA.heap.size WA.drew w1 from hb1)
  refine hK _ _ (.inr (LC.out _ (hC1.block _ hAw))) ?_
  clear hK K hb1
  have HW1 := hide (HPW.out.below (HB0.out.trans (hC1.mono HB0.out.size)))
  refine wpAnyE_ready (rs := [3]) (by kernel_rfl) (by simp) ?_
  refine AllE.cons rfl (fun K hK => ?_) AllE.nil
  go_simp
  refine ⟨trivial, rfl, (callsIn_wide.2 (printNumber_any g w1 g0 g1 HW1.out)).mono ?_⟩
  rintro e w2 ⟨rfl, hb2⟩
  dsimp only
  have hC2 : Below WA.heap.size WA w2 := hC1.trans (hb2.mono hC1.size)
  refine hK _ _ (.inr (LC.out _ (hC2.block _ hAw))) ?_
  clear hK K hb2 HW1
  have HW2 := hide (HPW.out.below (HB0.out.trans (hC2.mono HB0.out.size)))
  refine wpAnyE_ready (rs := [6]) (by kernel_rfl) (by simp) ?_
  refine AllE.cons rfl (fun K hK => ?_) AllE.nil
  go_simp
  refine ⟨trivial, rfl, (callsIn_wide.2 (printNumber_any (N : Int) w2 N0 hN HW2.out)).mono ?_⟩
  rintro e w3 ⟨rfl, hb3⟩
  dsimp only
  have hC3 : Below WA.heap.size WA w3 := hC2.trans (hb3.mono hC2.size)
  refine hK _ _ (.inr (LC.out _ (hC3.block _ hAw))) ?_
  clear hK K hb3 HW2 hC1 hC2
  unfold tokV
  refine wpAnyE_ready (rs := [7]) (by kernel_rfl) (by simp) ?_
  refine AllE.cons rfl (fun K hK => ?_) AllE.nil
  go_simp
  have hC4 : Below WA.heap.size WA (w3.alloc (.cells ((headTk g (N : Int)).flatMap tokC).toArray 81)) := hC3.alloc hC3.size _
  refine hK _ _ (.inr (LC.out _ (hC4.block _ hAw))) ?_
  clear hK K
  have had := pageLine_any (w.heap.size + 1) (w.heap.size + 1) [] (some ⟨w3.heap.size, 0, none⟩) 3 3 (headTk g (N : Int)) (w3.alloc (.cells ((headTk g (N : Int)).flatMap tokC).toArray 81)) (pge_below HP0.out hC4) (by have := hC4.size; omega) (newToks_view w3 (headTk g (N : Int)) _) rfl (headTk_in g1 hN) (headTk_few g1 hN) (by simp)
  refine wpAnyE_ready (rs := [8]) (by kernel_rfl) (by simp) ?_
  refine AllE.cons rfl (fun K hK => ?_) AllE.nil
  go_simp
  refine ⟨trivial, rfl, (callsIn_wide.2 had).mono ?_⟩
  rintro e w5 ⟨rfl, hp5, hb5, hk5⟩
  dsimp only
  have q5 : w5.heap[w.heap.size]? = WA.heap[w.heap.size]? := (hb5.block _ (by omega)).trans (hC4.block _ hAw)
  refine hK _ _ (.inr (LC.out _ q5)) ?_
  have hB4 : Below w.heap.size w (w3.alloc (.cells ((headTk g (N : Int)).flatMap tokC).toArray 81)) := HB0.out.trans (hC4.mono HB0.out.size)
  have HB5 := hide (hB4.trans (hb5.mono (by omega)))
  have HP5 : Hid (Pge (w.heap.size + 1) (w.heap.size + 1) (textTo g (N : Int) l 0) w5) := by
    show Pge _ _ _ _
    rw [textTo_zero, ← head_out g1 hN]
    exact hp5
  have m2 := (one_block (q5.trans HM0.out)).1 2
  clear hK K had hp5 hb5 hk5 hC4 hC3 hC0 hB4 LC HP0 q5 hAw HS0 HB0 HM0
  refine wpAnyE_done (by kernel_rfl) ⟨rfl, ?_⟩ _
  go_wp2_with fail
  clear m2 hmix
  go_loopw [18] (fun i wr => ∃ k : Nat, k ≤ n ∧ i = .int .i64 k ∧ Pge (w.heap.size + 1) (w.heap.size + 1) (textTo g (N : Int) l k) wr ∧ Below w.heap.size w wr) (fun i _ => n - (intOf i).toNat)
  case atStart => exact ⟨0, Nat.zero_le _, rfl, HP5.out, HB5.out⟩
  case round =>
    obtain ⟨k, hk, rfl, hP, hB⟩ := hrel
    clear HP5 HB5
    have hA := HV.out.below hB
    have hlt1 := pge_lt hP
    by_cases hlt : k < n
    · have hkl : k < l.length := by rw [HL.out]; exact hlt
      obtain ⟨b1, o1, aj, cj, nj, rfl, hb1, p1, p2, p3, p4, p5, p6, p7⟩ := hA k hkl
      have hki : (k : Int) < (n : Int) := by omega
      have hk0 : (0 : Int) ≤ (k : Int) := by omega
      have hkm : (k : Int) < 140737488351232 := by have := HNN.out; omega
      have hmem : nthI l k ∈ l := by rw [show nthI l k = l[k] by simp [nthI, List.getD, hkl]]; exact List.getElem_mem hkl
      have hz := HOK.out k hkl
      have hraw := (shape_sum HSH.out).2 _ hmem
      have HF := hide (inst_few hz hraw)
      have HO := hide (inst_out hz hraw)
      have HI := hide (tksI_in hz hraw)
      have HNX := hide (textTo_next g (N : Int) l k hkl)
      have HLEN := hide (Nat.le_trans (textTo_len g (N : Int) l k (by omega)) HTX.out)
      have HT := hide (fun W (hb : Below wr.heap.size wr W) => printTokens_any (nthI l k) aj nj cj W (p6.below hb) p5 (by have := HF.out.1; omega) hz HF.out.2.2.2 (HPW.out.below (hB.trans (hb.mono hB.size))))
      have HLT := hide hlt
      have HBw := hide hB
      have HPw := hide hP
      have HSZ := hide hlt1
      generalize nthI l k = z at *
      obtain ⟨zo, zt, zr, zl⟩ := z
      simp only at p1 p2 p3 p5 p6 HT
      have hba : Below wr.heap.size wr (wr.alloc (.cells #[.int .u16 zo, .int .u32 zt, .int .u32 zr, .slice aj nj cj] 38)) := (Below.refl _ wr).alloc (Nat.le_refl _) _
      have HBA := hide hba
      clear hA hP hB p5 p6 p7 hz hraw hmem hk hlt hkl hba hlt1
      go_wp2_with fail
      refine (HT.out _ HBA.out).mono ?_
      rintro e w6 ⟨at6, m6, c6, rfl, hv6, hl6, hb6⟩
      have hB6 : Below wr.heap.size wr w6 := HBA.out.trans (hb6.mono HBA.out.size)
      have hlin := pageLine_any (w.heap.size + 1) (w.heap.size + 1) (textTo g (N : Int) l k) at6 m6 c6 (tksI (zo, zt, zr, zl)) w6 (pge_below HPw.out hB6) (by have := HSZ.out; have := hB6.size; omega) hv6 hl6 HI.out (by have := HF.out.2.2.1; omega) (by have := HLEN.out; omega)
      rw [HO.out] at hlin
      have HB6 := hide (HBw.out.trans (hB6.mono HBw.out.size))
      clear hb6 hv6 hl6 hB6
      go_wp2_with fail
      refine hlin.mono ?_
      rintro e w7 ⟨rfl, hp7, hb7, _⟩
      have HP7 : Hid (Pge (w.heap.size + 1) (w.heap.size + 1) (textTo g (N : Int) l (k + 1)) w7) := by
        show Pge _ _ _ _
        rw [HNX.out]; exact hp7
      have HB7 := hide (HB6.out.trans (hb7.mono (by omega)))
      clear hlin hp7 hb7 HT
      go_wp2_with fail
      exact ⟨⟨k + 1, HLT.out, by simp, HP7.out, HB7.out⟩, measY HLT.out⟩
    · have e : k = n := by omega
      subst e
      have hTX := textTo_all g (N : Int) l
      rw [HL.out] at hTX
      rw [hTX] at hP
      have hS := pgeString_any (w.heap.size + 1) (w.heap.size + 1) (textP g (N : Int) l) wr hP HWI.out (textP_ne g (N : Int) l)
      have HBw := hide hB
      clear hA hP hB hk hTX
      go_wp2_with fail
      refine hS.mono ?_
      rintro e w8 ⟨rfl, hb8⟩
      go_wp2_with fail
      go_ret
      exact ⟨rfl, HBw.out.trans (hb8.mono (by omega))⟩

end Go.Proofs.YtonhnflilfjkbaaGreatDoor

/-
  Text of the package print: a module's text, or what its shape lacks.
-/
namespace Go.Proofs.YtonhnflilfjkbaaGreatDoor
open Go.RowKit
set_option linter.unusedSimpArgs false
set_option maxRecDepth 10000
set_option linter.unusedVariables false

/-- A module's text. -/
def txtP (g b : Int) (l : List InstT) : ByteArray := if (shapeE b l).1 = 0 then strOfNums (textP g b l) else ⟨#[]⟩

theorem shapeF_none (b : Int) : ∀ (l : List InstT) (k c : Nat), (shapeF b k c l).1 = 0 → (shapeF b k c l).2 = 0
  | [], _, _, _ => rfl
  | x :: l, k, c, h => by
    unfold shapeF at h ⊢
    split at h
    · rename_i hx; exact absurd h hx
    · rename_i hx
      rw [if_neg hx]
      split at h
      · cases h
      · rename_i hy
        rw [if_neg hy]
        exact shapeF_none b l _ _ h
theorem shape_none {b : Int} {l : List InstT} (h : (shapeE b l).1 = 0) : (shapeE b l).2 = 0 := by
  unfold shapeE at h ⊢
  split at h
  · cases h
  · rename_i hx
    rw [if_neg hx]
    exact shapeF_none b l 0 5 h

set_option maxHeartbeats 8000000 in
theorem printTextM_any (g : Int) (N : Nat) (a : Option Addr) (n c : Nat) (l : List InstT) (w : World) (hv : InstsV w a l) (hok : InstsOk l) (hl : l.length = n) (hn : 40 * n ≤ 140737488351232) (g0 : 0 ≤ g) (g1 : g < 4294967296) (hN : (N : Int) < 4294967296) (ht : Pow10 w) :
    Calls Tryz.prog 8 #[.agg #[.int .u32 g, .int .u32 N, .slice a n c]] w fun e w' => e = .returned (.tuple #[.string (txtP g (N : Int) l), .agg #[.int .i64 (shapeE (N : Int) l).1, .int .i64 (shapeE (N : Int) l).2]]) ∧ Below w.heap.size w w' := by
  have hS := fun W (hb : Below w.heap.size w W) => codeShape_any g (N : Int) a n c l W g0 g1 (by omega) hN (hv.below hb) hok hl hn
  have hT := fun W (hb : Below w.heap.size w W) (hs : (shapeE (N : Int) l).1 = 0) => textOf_any g N a n c l W (hv.below hb) hok hl hn g0 g1 hs hN (ht.below hb)
  have HB0 := hide (below_two8 w (.cells #[.int .u32 g, .int .u32 N, .slice a n c] 25) (.cells #[.int .i64 0, .int .i64 0] 28))
  unfold modV at hS
  have kX : ((w.alloc (.cells #[.int .u32 g, .int .u32 N, .slice a n c] 25)).alloc (.cells #[.int .i64 0, .int .i64 0] 28)).heap[w.heap.size + 1]? = some (.cells #[.int .i64 0, .int .i64 0] 28 (0, 0)) := by simpa using alloc_new (w.alloc (.cells #[.int .u32 g, .int .u32 N, .slice a n c] 25)) #[.int .i64 0, .int .i64 0] 28
  have kM : ((w.alloc (.cells #[.int .u32 g, .int .u32 N, .slice a n c] 25)).alloc (.cells #[.int .i64 0, .int .i64 0] 28)).heap[w.heap.size]? = some (.cells #[.int .u32 g, .int .u32 N, .slice a n c] 25 (0, 0)) := (Below.heap_alloc _ _ _ (by simp)).trans (heap_alloc_new w _)
  have HX := hide kX
  have HM := hide kM
  clear kX kM
  by_cases hz : (shapeE (N : Int) l).1 = 0
  · have ez : txtP g (N : Int) l = strOfNums (textP g (N : Int) l) := if_pos hz
    have hz2 : (((shapeE (N : Int) l).2 : Nat) : Int) = 0 := by rw [shape_none hz]; rfl
    rw [ez, hz, hz2]
    rw [hz, hz2] at hS
    have hT' := fun W hb => hT W hb hz
    generalize strOfNums (textP g (N : Int) l) = S at *
    clear hT hz hz2 ez hv hok hl hn ht
    go_enter Tryz.func8, Tryz.ntmps8
    go_wp2_with fail
    generalize (w.alloc (.cells #[.int .u32 g, .int .u32 N, .slice a n c] 25)).alloc (.cells #[.int .i64 0, .int .i64 0] 28) = W0 at *
    refine (hS _ HB0.out).mono ?_
    rintro e w1 ⟨rfl, hb1⟩
    have l0 := (Array.getElem?_eq_some_iff.1 HX.out).1
    have lm := (Array.getElem?_eq_some_iff.1 HM.out).1
    have hb2 : Below W0.heap.size W0 (w1.alloc (.cells #[.int .i64 0, .int .i64 0] 28)) := hb1.alloc hb1.size _
    have kX2 := (hb2.block _ l0).trans HX.out
    have kM2 := (hb2.block _ lm).trans HM.out
    obtain ⟨hcM, _⟩ := one_block kM2
    have m0 := hcM 0
    have m1 := hcM 1
    have m2 := hcM 2
    obtain ⟨d0, d1, _⟩ := cell_of_two (alloc_new w1 #[.int .i64 0, .int .i64 0] 28)
    have HB2 := hide (HB0.out.trans (hb2.mono HB0.out.size))
    have HX2 := hide kX2
    clear hb1 hb2 kX2 kM2 hcM hS
    go_wp2_with fail
    refine (hT' _ HB2.out).mono ?_
    rintro e w3 ⟨rfl, hb3⟩
    have lx := (Array.getElem?_eq_some_iff.1 HX2.out).1
    have kX3 := (hb3.block _ lx).trans HX2.out
    obtain ⟨hcX, hfX⟩ := one_block kX3
    have c0 := hcX 0
    have c1 := hcX 1
    have f0 := hfX 0
    have f1 := hfX 1
    have hBel := HB2.out.trans (hb3.mono HB2.out.size)
    have HB3 := hide (two_put2 kX3 (.int .i64 0) (.int .i64 0))
    have HBel2 := hide (hBel.trans ((two_below w3 (w.heap.size + 1) (.int .i64 0) (.int .i64 0)).mono (by omega)))
    clear hb3 kX3 hcX hfX hBel hT' d0 d1 m0 m1 m2
    go_wp2
    have hB3 := HB3.out
    have hBel := HBel2.out
    clear HB3 HBel2 c0 c1 f0 f1
    generalize (w3.setCell _ _).setCell _ _ = W at hB3 hBel ⊢
    obtain ⟨hd, _⟩ := one_block hB3
    have d0 := hd 0
    have d1 := hd 1
    refine bodyPost_ret (v := .tuple #[.string S, .agg #[.int .i64 0, .int .i64 0]]) ?_ rfl ⟨rfl, hBel⟩
    simp [results, Tryz.results8, go_sem, d0, d1]
  · have ez : txtP g (N : Int) l = ⟨#[]⟩ := if_neg hz
    have heb : ((shapeE (N : Int) l).1 == 0) = false := by simpa using hz
    rw [ez]
    generalize (shapeE (N : Int) l).1 = e1 at *
    generalize (shapeE (N : Int) l).2 = e2 at *
    clear hT ez hv hok hl hn ht hz
    go_enter Tryz.func8, Tryz.ntmps8
    go_wp2_with fail
    generalize (w.alloc (.cells #[.int .u32 g, .int .u32 N, .slice a n c] 25)).alloc (.cells #[.int .i64 0, .int .i64 0] 28) = W0 at *
    refine (hS _ HB0.out).mono ?_
    rintro e w1 ⟨rfl, hb1⟩
    have l0 := (Array.getElem?_eq_some_iff.1 HX.out).1
    have hb2 : Below W0.heap.size W0 (w1.alloc (.cells #[.int .i64 e1, .int .i64 e2] 28)) := hb1.alloc hb1.size _
    have kX2 := (hb2.block _ l0).trans HX.out
    obtain ⟨d0, d1, _⟩ := cell_of_two (alloc_new w1 #[.int .i64 e1, .int .i64 e2] 28)
    obtain ⟨hcX, hfX⟩ := one_block kX2
    have c0 := hcX 0
    have c1 := hcX 1
    have f0 := hfX 0
    have f1 := hfX 1
    have hBel := HB0.out.trans (hb2.mono HB0.out.size)
    have HB3 := hide (two_put2 kX2 (.int .i64 e1) (.int .i64 e2))
    have HBel2 := hide (hBel.trans ((two_below (w1.alloc (.cells #[.int .i64 e1, .int .i64 e2] 28)) (w.heap.size + 1) (.int .i64 e1) (.int .i64 e2)).mono (by omega))).drew
    have hne : w1.heap.size ≠ w.heap.size + 1 := by have := hb1.size; omega
    have HC := hide (And.intro c0 (And.intro c1 (And.intro f0 (And.intro f1 hne))))
    clear l0 c0 c1 f0 f1 hne g0 g1 hN HX HM HB0 hS
    clear hb1 hb2 kX2 hcX hfX hBel
    go_wp2_with fail
    obtain ⟨c0, c1, f0, f1, hne⟩ := HC.out
    go_region
    go_wp2
    have hB3 : ((((w1.alloc (.cells #[.int .i64 e1, .int .i64 e2] 28)).setCell ⟨w.heap.size + 1, 0, none⟩ (.int .i64 e1)).setCell ⟨w.heap.size + 1, 1, none⟩ (.int .i64 e2)).drew).heap[w.heap.size + 1]? = some (.cells #[.int .i64 e1, .int .i64 e2] 28 (0, 0)) := HB3.out
    have hBel := HBel2.out
    clear HB3 HBel2 c0 c1 f0 f1 d0 d1
    generalize (((w1.alloc _).setCell _ _).setCell _ _).drew = W at hB3 hBel ⊢
    obtain ⟨hd, _⟩ := one_block hB3
    have d0 := hd 0
    have d1 := hd 1
    refine bodyPost_ret (v := .tuple #[.string ⟨#[]⟩, .agg #[.int .i64 e1, .int .i64 e2]]) ?_ rfl ⟨rfl, hBel⟩
    simp [results, Tryz.results8, go_sem, d0, d1]

end Go.Proofs.YtonhnflilfjkbaaGreatDoor

/-
  awake of the laws of layer 8 answers true.
-/
namespace Go.Proofs.YtonhnflilfjkbaaGreatDoor
open Go.RowKit
set_option linter.unusedVariables false
set_option linter.unusedSimpArgs false
set_option maxRecDepth 10000

/-- The text of that module. -/
def oneT : ByteArray := ⟨#[109, 111, 100, 117, 108, 101, 32, 55, 32, 57, 10, 37, 50, 32, 61, 32, 79, 112, 73, 65, 100, 100, 32, 37, 49, 32, 37, 51, 32, 37, 52, 10]⟩
theorem oneT_text : txtP 7 ((9 : Nat) : Int) [oneI] = oneT := by decide +kernel

set_option maxHeartbeats 4000000 in
theorem awake8_true (w : World) (ht : Pow10 w) : Calls Tryz.prog 10 #[] w fun e w' => e = .returned (.bool true) ∧ Below w.heap.size w w' := by
  have hO := one8_any w
  have hT := fun wx g c (hv : InstsV wx (some ⟨g, 0, none⟩) [oneI]) (hp : Pow10 wx) => printTextM_any 7 9 (some ⟨g, 0, none⟩) 1 c [oneI] wx hv oneI_ok rfl (by decide) (by decide) (by decide) (by decide) hp
  rw [oneT_text] at hT
  rw [show shapeE ((9 : Nat) : Int) [oneI] = (0, 0) from oneB_shape] at hT
  unfold modV at hO
  go_enter Tryz.func10, Tryz.ntmps10
  go_wp2_with fail
  refine hO.mono ?_
  rintro e w1 ⟨g1, c1, rfl, hv1, hb1⟩
  have hC := hT w1 g1 c1 hv1 (ht.below hb1)
  clear hT hO hv1 ht
  unfold oneT at hC
  go_wp2_with fail
  refine hC.mono ?_
  rintro e w2 ⟨rfl, hb2⟩
  obtain ⟨d0, d1, _⟩ := cell_of_two (alloc_new w2 #[.int .i64 0, .int .i64 0] 28)
  have HB := hide (hb1.trans (hb2.mono hb1.size))
  have HB2 := hide (HB.out.alloc HB.out.size (.cells #[.int .i64 0, .int .i64 0] 28))
  clear hC hb1 hb2
  go_wp2
  go_ret
  exact ⟨by simp, HB2.out⟩

end Go.Proofs.YtonhnflilfjkbaaGreatDoor
