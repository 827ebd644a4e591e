/-
  Texts laid together in one: IdsAlike, IdsMade, MathRb, MathBk.
-/
import Derived.WalkSpells
import Derived.WalkMore
import Derived.BigRegion
import Derived.Deep.RegionWith
import Derived.Test.YtjckgnpbjekhbaaProg
import Derived.Test.YtjckgnpbjekhbaaB17
import Derived.Test.YtjckgnpbjekhbaaB19
import Derived.Test.YtjckgnpbjekhbaaB09
import Derived.Test.YtjckgnpbjekhbaaB10
import Derived.Maps.OwnSet
import Derived.Test.YtjckgnpbjekhbaaB16
/-
  Alike of the package ids.
-/
namespace Go.Proofs.Ytjckgnpbjekhbaa
open Go.RowKit Go.Maps
set_option linter.unusedVariables false
set_option linter.unusedSimpArgs false
set_option maxRecDepth 10000

set_option maxHeartbeats 2000000 in
/-- The closure: what stands beside an id. -/
theorem alike1_any (cb T K : Nat) (l : List (Int × Int)) (id : Int) (w : World) (hp : w.heap[cb]? = some (.cells #[.map (some T), .map (some K)] 48 (0, 0))) (hm : PrM w T K l) (h0 : 0 ≤ id) (h1 : id < 4294967296) :
    Calls Try.prog 20 #[.int .u32 id, .pointer (some ⟨cb, 0, none⟩)] w fun e w' => e = .returned (.int .u32 ((thF l id).getD 0)) ∧ w = w' := by
  have HM := hide hm.there
  have HTT := hide Try.underlying46
  have HTE := hide Try.underlying22
  have c0 := (one_block hp).1 0
  clear hm hp
  go_enter Try.func20, Try.ntmps20
  go_wp2_with (at_lookup; refine wpList_lookU rfl _ _ 46 rfl 22 .u32 HTT.out HTE.out (zeroU32P _) T l.length (thF l) rfl HM.out id rfl h0 h1 ?_)
  go_ret
  exact ⟨rfl, rfl⟩

/-- What stands beside an id of l in m, 0 if nothing does. -/
def besF (l m : List InstT) (id : Int) : Int := (thF (pairTo l m l.length) id).getD 0
/-- What Alike tells. -/
def AlikeC (ga ba gb bb : Int) (l m : List InstT) : Prop := (shapeE ba l).1 = 0 ∧ (shapeE bb m).1 = 0 ∧ l.length = m.length ∧ (LenP l m l.length ∧ Bij (pairTo l m l.length)) ∧ ga = gb ∧ turnL (besF l m) l = m

theorem allI_len {x : InstT} (h : InstOk x) : (allI x).length ≤ 5864062014636 := by
  have h1 := h.2.2.2.2.2.2.2
  have h2 := idsTo_len x.2.1 x.2.2.2 x.2.2.2.length
  unfold allI idsI
  rw [List.length_append]
  split <;> simp <;> omega
theorem allI_lens {l : List InstT} (h : InstsOk l) (j : Nat) : (allI (nthI l j)).length ≤ 5864062014636 := by
  by_cases hj : j < l.length
  · exact allI_len (h j hj)
  · have : nthI l j = (0, 0, 0, []) := by unfold nthI; rw [List.getD_eq_getElem?_getD, List.getElem?_eq_none (by omega)]; rfl
    rw [this]; decide
theorem mem_idsI {x : InstT} {id : Int} (h : id ∈ idsI x) : (x.2.1 ≠ 0 ∧ id = x.2.1) ∨ ∃ j, j < x.2.2.2.length ∧ (nthA x.2.2.2 j).1 = 1 ∧ id = (nthA x.2.2.2 j).2.1 := by
  unfold idsI idsTo at h
  rw [List.take_length] at h
  rcases List.mem_append.1 h with h | h
  · left
    by_cases e : x.2.1 = 0
    · simp [e] at h
    · simp [e] at h; exact ⟨e, h⟩
  · right
    obtain ⟨z, hz, hi⟩ := List.mem_flatMap.1 h
    obtain ⟨j, hj, rfl⟩ := List.mem_iff_getElem.1 hz
    refine ⟨j, hj, ?_⟩
    rw [nthA_lt _ _ hj]
    unfold idsA at hi
    split at hi
    · rename_i h1; simp at hi; exact ⟨h1, hi⟩
    · simp at hi
theorem allI_in {x : InstT} {b : Int} (hok : InstOk x) (h : rawE x b = 0) : ∀ id ∈ allI x, 0 < id ∧ id < 4294967296 := by
  obtain ⟨i1, i2, i3⟩ := ids_in hok h
  obtain ⟨_, _, a3, a4, a5, a6, a7, _⟩ := hok
  intro id hid
  unfold allI at hid
  rcases List.mem_append.1 hid with h | h
  · rcases mem_idsI h with ⟨h1, rfl⟩ | ⟨j, hj, h1, rfl⟩
    · exact ⟨by omega, a4⟩
    · have := i3 j hj h1
      exact ⟨by have := this.1; omega, (a7 j hj).2.2.2.1⟩
  · by_cases e : x.2.2.1 = 0
    · simp [e] at h
    · simp [e] at h; subst h; exact ⟨by omega, a6⟩
theorem besF_range {l m : List InstT} (hp : ∀ j, j < l.length → ∀ id ∈ allI (nthI m j), 0 < id ∧ id < 4294967296) (id : Int) : 0 ≤ besF l m id ∧ besF l m id < 4294967296 := by
  unfold besF
  cases hf : thF (pairTo l m l.length) id with
  | none => simp
  | some z =>
    have h1 := thF_some hf
    have : ∀ k, k ≤ l.length → ∀ x y, (x, y) ∈ pairTo l m k → 0 < y ∧ y < 4294967296 := by
      intro k
      induction k with
      | zero => intro _ x y h; simp [pairTo] at h
      | succ k ih =>
        intro hk x y h
        rw [pairTo] at h
        rcases List.mem_append.1 h with h | h
        · exact ih (by omega) x y h
        · exact hp k (by omega) y (List.of_mem_zip h).2
    have := this _ (Nat.le_refl _) _ _ h1
    simp only [Option.getD_some]
    omega

theorem field_zeroL (x y : Value) (w : World) : (Instr.field 31 (.agg #[x, y]) 0).run Try.prog w = .ok x w := by
  have hu := Try.underlying31
  have hi := Try.underlying29
  simp [Instr.field, run_underlying hu, asAgg, part, isAgg, run_underlying hi, go_sem]
/-- The boxes of Alike: both modules. -/
structure AlB (w W : World) (ga ba gb bb : Int) (aa ab : Option Addr) (na nb ca cb : Nat) : Prop where
  abox : W.heap[w.heap.size]? = some (.cells #[.int .u32 ga, .int .u32 ba, .slice aa na ca] 25 (0, 0))
  bbox : W.heap[w.heap.size + 1]? = some (.cells #[.int .u32 gb, .int .u32 bb, .slice ab nb cb] 25 (0, 0))
  bel : Below w.heap.size w W
theorem AlB.size {w W : World} {ga ba gb bb : Int} {aa ab : Option Addr} {na nb ca cb : Nat} (h : AlB w W ga ba gb bb aa ab na nb ca cb) : w.heap.size + 1 < W.heap.size := (Array.getElem?_eq_some_iff.1 h.bbox).1
theorem AlB.below {w W W' : World} {ga ba gb bb : Int} {aa ab : Option Addr} {na nb ca cb : Nat} (h : AlB w W ga ba gb bb aa ab na nb ca cb) (hb : Below W.heap.size W W') : AlB w W' ga ba gb bb aa ab na nb ca cb := by
  have hs := h.size
  exact ⟨(hb.block _ (by omega)).trans h.abox, (hb.block _ (by omega)).trans h.bbox, h.bel.trans (hb.mono h.bel.size)⟩

set_option maxHeartbeats 8000000 in
theorem idsAlike_any (ga ba gb bb : Int) (l m : List InstT) (aa ab : Option Addr) (na nb ca cb : Nat) (w : World) (hva : InstsV w aa l) (hvb : InstsV w ab m) (hoa : InstsOk l) (hob : InstsOk m) (hla : l.length = na) (hlb : m.length = nb) (hna : 40 * na ≤ 140737488351232) (hnb : 40 * nb ≤ 140737488351232)
    (ga0 : 0 ≤ ga) (ga1 : ga < 4294967296) (ba0 : 0 ≤ ba) (ba1 : ba < 4294967296) (gb0 : 0 ≤ gb) (gb1 : gb < 4294967296) (bb0 : 0 ≤ bb) (bb1 : bb < 4294967296) (r : Bool) (hr : r = true ↔ AlikeC ga ba gb bb l m) :
    Calls Try.prog 6 #[modV ga ba aa na ca, modV gb bb ab nb cb] w fun e w' => e = .returned (.bool r) ∧ Below w.heap.size w w' := by
  have HSA := hide fun wx (hb : Below w.heap.size w wx) => codeShape_any ga ba aa na ca l wx ga0 ga1 ba0 ba1 (hva.below hb) hoa hla hna
  have HSB := hide fun wx (hb : Below w.heap.size w wx) => codeShape_any gb bb ab nb cb m wx gb0 gb1 bb0 bb1 (hvb.below hb) hob hlb hnb
  have HPO : Hid (∀ wx, Below w.heap.size w wx → (shapeE ba l).1 = 0 → (shapeE bb m).1 = 0 → na = nb → Calls Try.prog 17 #[.slice aa na ca, .slice ab nb cb] wx fun e w' => ∃ (v : Value) (r : Bool), e = .returned (.tuple #[v, .bool r]) ∧ (r = true ↔ LenP l m na ∧ Bij (pairTo l m na)) ∧ (r = true → ∃ T K, v = .agg #[.map (some T), .map (some K)] ∧ PrM w' T K (pairTo l m na)) ∧ (r = false → v = .agg #[.map none, .map none]) ∧ Below wx.heap.size wx w') := fun wx hb e1 e2 e3 => by
    subst e3
    exact pairsOf_any l m aa ab na ca cb wx (hva.below hb) (hvb.below hb) hoa hob hla hlb hna (fun j hj => allI_in (hoa j (by omega)) (shape_each e1 j (by omega))) (fun j hj => allI_in (hob j (by omega)) (shape_each e2 j (by omega))) (allI_lens hoa) (by rw [← hla]; exact (shape_few e1).1)
  have HWI : Hid (∀ wx (cp T K : Nat), Below w.heap.size w wx → (shapeE ba l).1 = 0 → wx.heap[cp]? = some (.cells #[.map (some T), .map (some K)] 48 (0, 0)) → PrM wx T K (pairTo l m na) → Calls Try.prog 19 #[modV ga ba aa na ca, .int .u32 bb, .func (.func 20) #[] #[.pointer (some ⟨cp, 0, none⟩)]] wx fun e w' => ∃ g, e = .returned (modV ga bb (some ⟨g, 0, none⟩) na na) ∧ wx.heap.size ≤ g ∧ RowT w' wx.heap.size g na na (turnL (besF l m) l) ∧ Below wx.heap.size wx w') := fun wx cp T K hb e1 hp hM => by
    refine withIdsA_any (besF l m) (fun id => 0 ≤ id ∧ id < 4294967296) cp ga ba bb aa na ca l wx (hva.below hb) hoa hla hna (fun wy id hby hid => ?_) (fun k hk => ?_)
    · unfold besF
      rw [hla]
      exact alike1_any cp T K _ id wy ((hby.block cp (Array.getElem?_eq_some_iff.1 hp).1).trans hp) (hM.below hby) hid.1 hid.2
    · have h8 := hoa k (by omega)
      exact ⟨fun _ => ⟨h8.2.2.1, h8.2.2.2.1⟩, fun _ => ⟨h8.2.2.2.2.1, h8.2.2.2.2.2.1⟩, fun j hj _ => ⟨(h8.2.2.2.2.2.2.1 j hj).2.2.1, (h8.2.2.2.2.2.2.1 j hj).2.2.2.1⟩⟩
  have HRG : Hid ((shapeE bb m).1 = 0 → na = nb → InstsOk (turnL (besF l m) l)) := fun e2 e3 => turnL_ok (fun i => besF_range (fun j hj => allI_in (hob j (by omega)) (shape_each e2 j (by omega))) i) hoa
  have HVB := hide hvb
  have HOB := hide hob
  have HLA := hide hla
  have HLB := hide hlb
  have HNB := hide hnb
  have HR0 : Hid (r = true ↔ ((shapeE ba l).1 = 0 ∧ (shapeE bb m).1 = 0 ∧ na = nb ∧ (LenP l m na ∧ Bij (pairTo l m na)) ∧ ga = gb ∧ turnL (besF l m) l = m)) := by
    show _ ↔ _
    rw [hr]; unfold AlikeC; rw [hla, hlb]
  have HA0 : Hid (AlB w ((w.alloc (.cells #[.int .u32 ga, .int .u32 ba, .slice aa na ca] 25)).alloc (.cells #[.int .u32 gb, .int .u32 bb, .slice ab nb cb] 25)) ga ba gb bb aa ab na nb ca cb) := by
    refine ⟨?_, ?_, ((Below.refl _ w).alloc (Nat.le_refl _) _).alloc (by simp) _⟩
    · rw [Below.heap_alloc _ _ _ (by simp)]; exact heap_alloc_new _ _
    · have := heap_alloc_new (w.alloc (.cells #[.int .u32 ga, .int .u32 ba, .slice aa na ca] 25)) (.cells #[.int .u32 gb, .int .u32 bb, .slice ab nb cb] 25); simpa using this
  clear hr hva hvb hoa hob hla hlb
  generalize (shapeE ba l).1 = E1 at *
  generalize (shapeE ba l).2 = F1 at *
  generalize (shapeE bb m).1 = E2 at *
  generalize (shapeE bb m).2 = F2 at *
  have h1 := HSA.out _ HA0.out.bel
  unfold modV at *
  have HNI : Hid ((na : Int) < 140737488351232 ∧ (nb : Int) < 140737488351232) := ⟨by omega, by omega⟩
  have hF := fun x y wx => field_zeroL x y wx
  go_enter Try.func6, Try.ntmps6
  go_wp2_with fail
  generalize (w.alloc (.cells #[.int .u32 ga, .int .u32 ba, .slice aa na ca] 25)).alloc (.cells #[.int .u32 gb, .int .u32 bb, .slice ab nb cb] 25) = W0 at *
  refine h1.mono ?_
  rintro e w1 ⟨rfl, hb1⟩
  have HA1 := hide (HA0.out.below hb1)
  clear h1 hb1 HA0
  by_cases hE1 : E1 = 0
  · subst hE1
    obtain ⟨bq, _⟩ := one_block HA1.out.bbox
    have b0 := bq 0
    have b1 := bq 1
    have b2 := bq 2
    have h2 := HSB.out _ HA1.out.bel
    clear bq
    go_wp2_with fail
    refine h2.mono ?_
    rintro e w2 ⟨rfl, hb2⟩
    have HA2 := hide (HA1.out.below hb2)
    clear h2 hb2 HA1 b0 b1 b2
    by_cases hE2 : E2 = 0
    · subst hE2
      obtain ⟨aq, _⟩ := one_block HA2.out.abox
      have a0 := aq 0
      have a1 := aq 1
      have a2 := aq 2
      obtain ⟨bq, _⟩ := one_block HA2.out.bbox
      have b0 := bq 0
      have b1 := bq 1
      have b2 := bq 2
      have hni := HNI.out
      obtain ⟨hn1, hn2⟩ := hni
      clear aq bq
      by_cases hN : na = nb
      · have HNE := hide hN
        have hnn : ((na : Int) != (nb : Int)) = false := by rw [hN]; simp
        have h3 := HPO.out _ HA2.out.bel (by first | rfl | trivial) (by first | rfl | trivial) hN
        clear hN
        go_wp2_with fail
        refine h3.mono ?_
        rintro e w3 ⟨v, q, rfl, hq1, hq2, hq3, hb3⟩
        have HA3 := hide (HA2.out.below hb3)
        have HQ1 := hide hq1
        clear h3 hb3 HA2 a0 a1 a2 b0 b1 b2 hq1
        cases q with
        | false =>
          obtain rfl := hq3 rfl
          clear hq2 hq3
          have HRF : Hid (r = false) := by
            cases r with
            | false => rfl
            | true => have := HQ1.out.2 (HR0.out.1 rfl).2.2.2.1; cases this
          have HBE := hide (HA3.out.bel.alloc HA3.out.bel.size (.cells #[.map none, .map none] 48))
          go_wp2_with fail
          go_ret
          exact ⟨by rw [HRF.out]; rfl, HBE.out⟩
        | true =>
          obtain ⟨T, K, rfl, hM⟩ := hq2 rfl
          have HPM := hide hM
          clear hq2 hq3 hM
          have hba : Below w3.heap.size w3 (w3.alloc (.cells #[.map (some T), .map (some K)] 48)) := (Below.refl _ w3).alloc (Nat.le_refl _) _
          have HA4 := hide (HA3.out.below hba)
          have HP4 := hide (heap_alloc_new w3 (.cells #[.map (some T), .map (some K)] 48))
          have HM4 := hide (HPM.out.below hba)
          clear hba
          go_wp2_with fail
          generalize w3.alloc (.cells #[.map (some T), .map (some K)] 48) = W4 at *
          have LC : Hid (∀ w', Below W4.heap.size W4 w' → w'.cell? ⟨w.heap.size, 0, none⟩ = some (.int .u32 ga) ∧ w'.cell? ⟨w.heap.size, 1, none⟩ = some (.int .u32 ba) ∧ w'.cell? ⟨w.heap.size, 2, none⟩ = some (.slice aa na ca) ∧ w'.cell? ⟨w.heap.size + 1, 0, none⟩ = some (.int .u32 gb) ∧ w'.cell? ⟨w.heap.size + 1, 1, none⟩ = some (.int .u32 bb) ∧ w'.cell? ⟨w.heap.size + 1, 2, none⟩ = some (.slice ab nb cb)) := fun w' h => by
            have hh := HA4.out.below h
            exact ⟨(one_block hh.abox).1 0, (one_block hh.abox).1 1, (one_block hh.abox).1 2, (one_block hh.bbox).1 0, (one_block hh.bbox).1 1, (one_block hh.bbox).1 2⟩
          have hC0 : Below W4.heap.size W4 W4.drew := below_drew W4
          have hmix : Try.prog.follows .mixedOrders = true := by kernel_rfl
          refine (wpIn_wide (n := 0)).1 ?_
          refine wpIn_normal (wpIn_region_any hmix (wpAnyE_sound (C := Below W4.heap.size W4) (E := fun _ => false) _ _ _ _ ?_))
          change wpAnyE _ _ _ _ _ _ _ _ _ _ _ (World.drew _)
          refine wpAnyE_takeD (i := 0) (some 36) (v := (.agg #[.int .u32 ga, .int .u32 ba, .slice aa na ca])) (fun _ => trivial) (by kernel_rfl) rfl rfl (by kernel_rfl) (by kernel_rfl) (by kernel_rfl) (by kernel_rfl) (fun _ _ _ h => by cases h.1) hC0 (Or.inl ⟨by rfl, fun w' hC => by obtain ⟨e1, e2, e3, e4, e5, e6⟩ := LC.out w' hC; clear hC; go_simp⟩) ?_
          simp only [Act.put, List.setIfInBounds_toArray, List.set_cons_succ, List.set_cons_zero]
          refine wpAnyE_takeD (i := 1) (some 37) (v := (.pointer (some ⟨w.heap.size + 1, 1, none⟩))) (fun _ => trivial) (by kernel_rfl) rfl rfl (by kernel_rfl) (by kernel_rfl) (by kernel_rfl) (by kernel_rfl) (fun _ _ _ h => by cases h.1) hC0 (Or.inl ⟨by rfl, fun w' hC => by obtain ⟨e1, e2, e3, e4, e5, e6⟩ := LC.out w' hC; clear hC; go_simp⟩) ?_
          simp only [Act.put, List.setIfInBounds_toArray, List.set_cons_succ, List.set_cons_zero]
          refine wpAnyE_takeD (i := 2) (some 38) (v := (.int .u32 bb)) (fun _ => trivial) (by kernel_rfl) rfl rfl (by kernel_rfl) (by kernel_rfl) (by kernel_rfl) (by kernel_rfl) (fun _ _ _ h => by cases h.1) hC0 (Or.inl ⟨by rfl, fun w' hC => by obtain ⟨e1, e2, e3, e4, e5, e6⟩ := LC.out w' hC; clear hC; go_simp⟩) ?_
          simp only [Act.put, List.setIfInBounds_toArray, List.set_cons_succ, List.set_cons_zero]
          refine wpAnyE_takeD (i := 3) (some 39) (v := (.func (.func 20) #[] #[.pointer (some ⟨w3.heap.size, 0, none⟩)])) (fun _ => trivial) (by kernel_rfl) rfl rfl (by kernel_rfl) (by kernel_rfl) (by kernel_rfl) (by kernel_rfl) (fun _ _ _ h => by cases h.1) hC0 (Or.inl ⟨by rfl, fun w' hC => by obtain ⟨e1, e2, e3, e4, e5, e6⟩ := LC.out w' hC; clear hC; go_simp⟩) ?_
          simp only [Act.put, List.setIfInBounds_toArray, List.set_cons_succ, List.set_cons_zero]
          refine wpAnyE_takeD (i := 5) (some 41) (v := (.agg #[.int .u32 gb, .int .u32 bb, .slice ab nb cb])) (fun _ => trivial) (by kernel_rfl) rfl rfl (by kernel_rfl) (by kernel_rfl) (by kernel_rfl) (by kernel_rfl) (fun _ _ _ h => by cases h.1) hC0 (Or.inl ⟨by rfl, fun w' hC => by obtain ⟨e1, e2, e3, e4, e5, e6⟩ := LC.out w' hC; clear hC; go_simp⟩) ?_
          simp only [Act.put, List.setIfInBounds_toArray, List.set_cons_succ, List.set_cons_zero]
          refine wpAnyE_ready (rs := [4]) (by kernel_rfl) (by simp) ?_
          refine AllE.cons rfl (fun Kk hK => ?_) AllE.nil
          go_simp
          refine ⟨trivial, rfl, (callsIn_wide.2 (HWI.out W4.drew w3.heap.size T K HA4.out.bel.drew (by first | rfl | trivial) HP4.out (HM4.out.below (below_drew W4)))).mono ?_⟩
          rintro e w5 ⟨g, rfl, hg, hrow, hb5⟩
          dsimp only
          have hC5 : Below W4.heap.size W4 w5 := (below_drew W4).trans (show Below W4.heap.size W4.drew w5 from hb5)
          refine hK _ _ (.inr hC5) ?_
          clear hK Kk
          have hS := same_any ga bb gb bb (turnL (besF l m) l) m (some ⟨g, 0, none⟩) ab na nb na cb w5 (hrow.view (by rw [turnL, List.length_map, HLA.out])) (HVB.out.below (HA4.out.below hC5).bel) (by rw [turnL, List.length_map, HLA.out]) HLB.out (HRG.out (by first | rfl | trivial) HNE.out) HOB.out (by omega) (by omega) r (by
            have h := HR0.out
            have hq := HQ1.out
            constructor
            · intro hr
              have h := h.1 hr
              exact ⟨h.2.2.2.2.1, rfl, h.2.2.2.2.2⟩
            · rintro ⟨h1, _, h2⟩
              exact h.2 ⟨by first | rfl | trivial, by first | rfl | trivial, HNE.out, hq.1 (by first | rfl | trivial), h1, h2⟩)
          unfold modV at hS
          have HS := hide hS
          clear hS
          refine wpAnyE_ready (rs := [6]) (by kernel_rfl) (by simp) ?_
          refine AllE.cons rfl (fun Kk hK => ?_) AllE.nil
          go_simp
          refine ⟨trivial, rfl, (callsIn_wide.2 HS.out).mono ?_⟩
          rintro e w6 ⟨rfl, hb6⟩
          dsimp only
          have hC6 : Below W4.heap.size W4 w6 := hC5.trans (hb6.mono hC5.size)
          refine hK _ _ (.inr hC6) ?_
          clear hK Kk
          refine wpAnyE_ready (rs := [7]) (by kernel_rfl) (by simp) ?_
          refine AllE.cons rfl (fun Kk hK => ?_) AllE.nil
          go_simp
          refine hK _ _ (.inr hC6) ?_
          clear hK Kk
          refine wpAnyE_done (by kernel_rfl) ⟨rfl, ?_⟩ _
          have HBE := hide (HA4.out.below hC6).bel
          clear hC0 hC5 hC6 hb5 hb6 hrow LC HS HWI
          rw [then_normalP]
          go_wp2_with fail
          go_ret
          exact ⟨rfl, HBE.out⟩
      · have hnn : ((na : Int) != (nb : Int)) = true := by simp; omega
        have HRF : Hid (r = false) := by
          cases r with
          | false => rfl
          | true => exact absurd (HR0.out.1 rfl).2.2.1 hN
        have HBE := hide HA2.out.bel
        clear hN
        go_wp2_with fail
        go_ret
        exact ⟨by rw [HRF.out]; rfl, HBE.out⟩
    · have hE2' : (E2 != 0) = true := by simpa using hE2
      have HRF : Hid (r = false) := by
        cases r with
        | false => rfl
        | true => exact absurd (HR0.out.1 rfl).2.1 hE2
      have HBE := hide HA2.out.bel
      clear hE2
      go_wp2_with fail
      go_ret
      exact ⟨by rw [HRF.out]; rfl, HBE.out⟩
  · have hE1' : (E1 != 0) = true := by simpa using hE1
    have HRF : Hid (r = false) := by
      cases r with
      | false => rfl
      | true => exact absurd (HR0.out.1 rfl).1 hE1
    have HBE := hide HA1.out.bel
    clear hE1
    go_wp2_with fail
    go_ret
    exact ⟨by rw [HRF.out]; rfl, HBE.out⟩

end Go.Proofs.Ytjckgnpbjekhbaa

/-
  Made of the package ids.
-/
namespace Go.Proofs.Ytjckgnpbjekhbaa
open Go.RowKit Go.Maps
set_option linter.unusedVariables false
set_option linter.unusedSimpArgs false
set_option maxRecDepth 10000

end Go.Proofs.Ytjckgnpbjekhbaa

/-
  A module with other ids: its shape, its order, what is wrong with its ids, that it is alike, how it is numbered: in plain mathematics.
-/
namespace Go.Proofs.Ytjckgnpbjekhbaa
open Go.RowKit
set_option linter.unusedVariables false
set_option linter.unusedSimpArgs false
set_option maxRecDepth 10000

/-- An id that stands in l. -/
def Occ (l : List InstT) (id : Int) : Prop := ∃ k, k < l.length ∧ id ∈ allI (nthI l k)
/-- Other ids, below b, one to one. -/
structure WayF (l : List InstT) (b : Int) (f : Int → Int) : Prop where
  inb : ∀ i, Occ l i → InB b (f i)
  inj : ∀ i j, Occ l i → Occ l j → f i = f j → i = j
theorem nthA_mapB {g : ArgT → ArgT} {l : List ArgT} {j : Nat} (h : j < l.length) : nthA (l.map g) j = g (nthA l j) := by simp [nthA, List.getD, h]
theorem allI_type {x : InstT} (h : x.2.1 ≠ 0) : x.2.1 ∈ allI x := by
  unfold allI idsI idsTo
  simp [h]
theorem allI_res {x : InstT} (h : x.2.2.1 ≠ 0) : x.2.2.1 ∈ allI x := by
  unfold allI
  simp [h]
theorem idsI_arg {x : InstT} {j : Nat} (hj : j < x.2.2.2.length) (h : (nthA x.2.2.2 j).1 = 1) : (nthA x.2.2.2 j).2.1 ∈ idsI x := by
  unfold idsI idsTo
  rw [List.take_length]
  refine List.mem_append_right _ (List.mem_flatMap.2 ⟨nthA x.2.2.2 j, ?_, by simp [idsA, h]⟩)
  rw [nthA_lt _ _ hj]; exact List.getElem_mem hj
theorem allI_arg {x : InstT} {j : Nat} (hj : j < x.2.2.2.length) (h : (nthA x.2.2.2 j).1 = 1) : (nthA x.2.2.2 j).2.1 ∈ allI x := List.mem_append_left _ (idsI_arg hj h)

theorem idE_turn {must : Bool} {n b b' e : Int} {f : Int → Int} (he : e ≠ 0) (h : idE must n b e = 0) (hf : n ≠ 0 → InB b' (f n)) : idE must (tN f n) b' e = 0 := by
  unfold idE at h ⊢
  by_cases hn : n = 0
  · subst hn
    have e0 : tN f 0 = 0 := rfl
    rw [e0]
    cases must
    · rfl
    · exact absurd h he
  · have hI := hf hn
    have e0 : tN f n = f n := by unfold tN; rw [if_neg hn]
    rw [e0]
    have h1 : f n ≠ 0 := by have := hI.1; omega
    have h2 : ¬ b' ≤ f n := by have := hI.2; omega
    cases must
    · simp [hn] at h; exact absurd h he
    · simp [h1, h2]
theorem wrongA_turn {c : Int} {x : ArgT} {b b' : Int} {f : Int → Int} (h : wrongA c x b = 0) (hf : x.1 = 1 → InB b' (f x.2.1)) : wrongA c (tA f x) b' = 0 := by
  have hk := wrongA_kind h
  by_cases h1 : x.1 = 1
  · have hI := hf h1
    have e0 : tA f x = (x.1, f x.2.1, x.2.2) := by unfold tA; rw [if_pos h1]
    rw [e0]
    unfold wrongA at h ⊢
    have hm : mayStandB c (x.1, f x.2.1, x.2.2) = mayStandB c x := by unfold mayStandB; rw [h1]; rfl
    rw [hm]
    split at h
    · cases h
    · next h2 =>
      rw [if_neg h2]
      simp only
      rw [if_neg (by rw [h1]; decide)]
      unfold faultW
      rw [if_pos (by rw [← hk.2]; exact h1), if_neg]
      unfold noneB
      have := hI.1
      have := hI.2
      simp; omega
  · have e0 : tA f x = x := by unfold tA; rw [if_neg h1]
    rw [e0]
    unfold wrongA at h ⊢
    split at h
    · cases h
    · next h2 =>
      rw [if_neg h2]
      split at h
      · next h3 => rw [if_pos h3]; exact h
      · next h3 =>
        rw [if_neg h3]
        unfold faultW at h ⊢
        have hn1 : ¬ kindI c = 1 := by rw [← hk.2]; exact h1
        rw [if_neg hn1] at h ⊢
        exact h
theorem wordsA_turn {f : Int → Int} (x : ArgT) : (wordsA (tA f x)).length = (wordsA x).length := by
  rw [wordsA_len, wordsA_len]
  unfold tA
  split <;> rfl
theorem wordsL_turn {f : Int → Int} : ∀ (l : List ArgT), (wordsL (l.map (tA f))).length = (wordsL l).length
  | [] => rfl
  | x :: l => by
    have ih := wordsL_turn (f := f) l
    unfold wordsL at *
    rw [List.map_cons, List.flatMap_cons, List.flatMap_cons, List.length_append, List.length_append, ih, wordsA_turn]
theorem rawL_turn {f : Int → Int} (F : Frm) (x : InstT) : (rawL F (turnX f x)).length = (rawL F x).length := by
  unfold rawL headW turnX
  simp only [List.length_append]
  rw [wordsL_turn]
  congr 1
  cases F.2.1 <;> cases F.2.2.1 <;> rfl
/-- An instruction that can be written can be written with other ids. -/
theorem raw_turn {f : Int → Int} {x : InstT} {b b' : Int} (h : rawE x b = 0) (hi : ∀ i ∈ allI x, InB b' (f i)) : rawE (turnX f x) b' = 0 ∧ (rawWs (turnX f x) b').length = (rawWs x b).length := by
  obtain ⟨h1, h2, h3⟩ := rawWs_ok h
  obtain ⟨i1, i2, i3, i4, i5⟩ := faultI_zero h2
  have e0 : rawE (turnX f x) b' = 0 := by
    unfold rawE
    show (if (lookF refT x.1).2 = true then faultI (lookF refT x.1).1 (turnX f x) b' else 30) = 0
    rw [if_pos h1]
    have j1 : idE (lookF refT x.1).1.2.1 (turnX f x).2.1 b' 40 = 0 := idE_turn (by decide) i1 (fun hn => hi _ (allI_type hn))
    have j2 : idE (lookF refT x.1).1.2.2.1 (turnX f x).2.2.1 b' 41 = 0 := idE_turn (by decide) i2 (fun hn => hi _ (allI_res hn))
    have j3 : wrongL (lookF refT x.1).1 b' 0 (turnX f x).2.2.2 = 0 := by
      refine wrongL_none fun j hj => ?_
      have hj' : j < x.2.2.2.length := by simpa [turnX] using hj
      have := wrongL_zero i3 j hj'
      show wrongA _ (nthA (x.2.2.2.map (tA f)) j) b' = 0
      rw [nthA_mapB hj']
      exact wrongA_turn this (fun hk => hi _ (allI_arg hj' hk))
    have j4 : wholeN (lookF refT x.1).1 (turnX f x).2.2.2.length = true := by
      have e : (turnX f x).2.2.2.length = x.2.2.2.length := by simp [turnX]
      rw [e]; exact i4
    have j5 : 1 + (rawL (lookF refT x.1).1 (turnX f x)).length ≤ 65535 := by rw [rawL_turn]; exact i5
    unfold faultI
    rw [if_neg (by rw [j1]; simp), if_neg (by rw [j2]; simp), if_neg (by rw [j3]; simp), if_neg (by rw [j4]; simp), if_neg (by omega)]
  refine ⟨e0, ?_⟩
  rw [h3, (rawWs_ok e0).2.2]
  exact rawL_turn _ x

theorem shapeF_turn {f : Int → Int} {b b' : Int} : ∀ (l : List InstT) (k c : Nat), (∀ x ∈ l, ∀ i ∈ allI x, InB b' (f i)) → (shapeF b k c l).1 = 0 → shapeF b' k c (turnL f l) = (0, 0)
  | [], _, _, _, _ => rfl
  | x :: l, k, c, hi, h => by
    rw [shapeF] at h
    by_cases h1 : rawE x b = 0
    · rw [if_neg (by rw [h1]; simp)] at h
      obtain ⟨r1, r2⟩ := raw_turn (f := f) (b' := b') h1 (hi x (by simp))
      by_cases h2 : 1048576 < c + 1 + (rawWs x b).length
      · rw [if_pos h2] at h; cases h
      · rw [if_neg h2] at h
        show shapeF b' k c (turnX f x :: turnL f l) = _
        rw [shapeF, if_neg (by rw [r1]; simp), r2, if_neg h2]
        exact shapeF_turn l _ _ (fun y hy => hi y (by simp [hy])) h
    · rw [if_pos h1] at h; exact absurd h h1
theorem occ_mem {l : List InstT} {x : InstT} {i : Int} (hx : x ∈ l) (hi : i ∈ allI x) : Occ l i := by
  obtain ⟨k, hk, rfl⟩ := List.getElem_of_mem hx
  exact ⟨k, hk, by rw [nthI_lt _ _ hk]; exact hi⟩
/-- Its shape. -/
theorem shape_turn {f : Int → Int} {b b' : Int} {l : List InstT} (h : (shapeE b l).1 = 0) (hw : WayF l b' f) (h0 : b' ≠ 0) (h1 : b' ≤ 65536) : shapeE b' (turnL f l) = (0, 0) := by
  unfold shapeE at h ⊢
  split at h
  · cases h
  · rw [if_neg (by omega)]
    exact shapeF_turn l 0 5 (fun x hx i hi => hw.inb i (occ_mem hx hi)) h

theorem var_letter : kindI (letterI (lookF refT 59).1 0) = 4 := by decide +kernel
theorem part_turn {f : Int → Int} {x : InstT} {b : Int} (h : rawE x b = 0) : partI (turnX f x) = partI x := by
  unfold partI
  show (if x.1 = 59 ∧ (nthA (x.2.2.2.map (tA f)) 0).2.1 = 7 then 8 else partO x.1) = _
  by_cases h5 : x.1 = 59
  · have hl := var_args h h5
    obtain ⟨_, h2, _⟩ := rawWs_ok h
    have hk := wrongA_kind (wrongL_zero (faultI_zero h2).2.2.1 0 (by omega))
    rw [h5] at hk
    have hk2 : (nthA x.2.2.2 0).1 = 4 := hk.2.trans var_letter
    rw [nthA_mapB (by omega)]
    have : tA f (nthA x.2.2.2 0) = nthA x.2.2.2 0 := by unfold tA; rw [if_neg (by rw [hk2]; decide)]
    rw [this]
  · rw [if_neg (fun e => h5 e.1), if_neg (fun e => h5 e.1)]
theorem turnL_out (f : Int → Int) (l : List InstT) (k : Nat) (hk : ¬ k < l.length) : nthI (turnL f l) k = nthI l k := by
  unfold nthI
  rw [List.getD_eq_getElem?_getD, List.getD_eq_getElem?_getD, List.getElem?_eq_none (by rw [turnL_len]; omega), List.getElem?_eq_none (by omega)]
/-- What the order of instructions hangs on. -/
def SameP (l m : List InstT) : Prop := l.length = m.length ∧ ∀ k, (nthI m k).1 = (nthI l k).1 ∧ partI (nthI m k) = partI (nthI l k)
theorem sameP_turn {f : Int → Int} {l : List InstT} {b : Int} (h : (shapeE b l).1 = 0) : SameP l (turnL f l) := by
  refine ⟨(turnL_len f l).symm, fun k => ?_⟩
  by_cases hk : k < l.length
  · rw [turnL_at f l k hk]; exact ⟨rfl, part_turn (shape_each h k hk)⟩
  · rw [turnL_out f l k hk]; exact ⟨rfl, rfl⟩
theorem SameP.over {l m : List InstT} (h : SameP l m) (p : Int) : ∀ k, overP m p k = overP l p k
  | 0 => rfl
  | k + 1 => by rw [overP, overP, h.over p k, (h.2 k).2]
theorem SameP.models {l m : List InstT} (h : SameP l m) : ∀ k, modelsN m k = modelsN l k
  | 0 => rfl
  | k + 1 => by rw [modelsN, modelsN, h.models k, (h.2 k).2]
theorem SameP.ahead {l m : List InstT} (h : SameP l m) (k : Nat) : aheadO m k = aheadO l k := by
  unfold aheadO; rw [(h.2 _).1, (h.2 _).2]
theorem SameP.block {l m : List InstT} (h : SameP l m) : ∀ k, blockAt m k = blockAt l k
  | 0 => rfl
  | k + 1 => by rw [blockAt, blockAt, h.block k, (h.2 _).1]
theorem SameP.first {l m : List InstT} (h : SameP l m) (k : Nat) : firstB m k = firstB l k := by
  unfold firstB; rw [h.block k, (h.2 _).1]
theorem SameP.may {l m : List InstT} (h : SameP l m) (k : Nat) : mayL m k = mayL l k := by
  unfold mayL; rw [h.over, h.models, h.ahead, h.first, (h.2 _).1, (h.2 _).2]
theorem SameP.lay {l m : List InstT} (h : SameP l m) : ∀ n k, layF m n k = layF l n k
  | 0, k => by rw [layF, layF]; unfold openE; rw [← h.1, h.models, h.ahead]
  | n + 1, k => by rw [layF, layF, h.may, h.lay n (k + 1)]
/-- Its order. -/
theorem lay_turn {f : Int → Int} {b b' : Int} {l : List InstT} (h : (shapeE b l).1 = 0) (hw : WayF l b' f) (h0 : b' ≠ 0) (h1 : b' ≤ 65536) : layE b' (turnL f l) = layE b l := by
  unfold layE
  rw [shape_turn h hw h0 h1, if_neg (by simp), if_neg (by simpa using h), turnL_len]
  exact (sameP_turn h).lay _ _

theorem WayF.ne {l : List InstT} {b : Int} {f : Int → Int} (h : WayF l b f) {i : Int} (hi : Occ l i) : f i ≠ 0 := by have := (h.inb i hi).1; omega
theorem occ_ne {l : List InstT} {b i : Int} (hok : InstsOk l) (h : (shapeE b l).1 = 0) (hi : Occ l i) : i ≠ 0 := by
  obtain ⟨k, hk, h1⟩ := hi
  have := (allI_in (hok k hk) (shape_each h k hk) i h1).1
  omega
theorem occ_res {l : List InstT} {k : Nat} (hk : k < l.length) (h : (nthI l k).2.2.1 ≠ 0) : Occ l (nthI l k).2.2.1 := ⟨k, hk, allI_res h⟩
theorem res_turn {l : List InstT} {b : Int} {f : Int → Int} (hw : WayF l b f) {k : Nat} (hk : k < l.length) : ((nthI (turnL f l) k).2.2.1 = 0 ↔ (nthI l k).2.2.1 = 0) ∧ ((nthI l k).2.2.1 ≠ 0 → (nthI (turnL f l) k).2.2.1 = f (nthI l k).2.2.1) := by
  rw [turnL_at f l k hk]
  show (tN f (nthI l k).2.2.1 = 0 ↔ _) ∧ (_ → tN f (nthI l k).2.2.1 = _)
  unfold tN
  by_cases h : (nthI l k).2.2.1 = 0
  · rw [if_pos h]; exact ⟨⟨fun _ => h, fun _ => rfl⟩, fun e => absurd h e⟩
  · rw [if_neg h]; exact ⟨⟨fun e => absurd e (hw.ne (occ_res hk h)), fun e => absurd e h⟩, fun _ => rfl⟩
/-- Who makes an id. -/
theorem mak_turn {l : List InstT} {b b' : Int} {f : Int → Int} (hok : InstsOk l) (hs : (shapeE b l).1 = 0) (hw : WayF l b' f) {i : Int} (hi : Occ l i) : ∀ k, k ≤ l.length → makT (turnL f l) k (f i) = makT l k i
  | 0, _ => rfl
  | k + 1, hk => by
    have ih := mak_turn hok hs hw hi k (by omega)
    obtain ⟨r1, r2⟩ := res_turn hw (show k < l.length by omega)
    rw [makT, makT, ih]
    have hni := occ_ne hok hs hi
    have hnf := hw.ne hi
    have e : ((nthI (turnL f l) k).2.2.1 = f i ∧ f i ≠ 0) ↔ ((nthI l k).2.2.1 = i ∧ i ≠ 0) := by
      constructor
      · rintro ⟨e1, e2⟩
        refine ⟨?_, hni⟩
        have hr : (nthI l k).2.2.1 ≠ 0 := fun e0 => by rw [r1.2 e0] at e1; exact e2 e1.symm
        rw [r2 hr] at e1
        exact hw.inj _ _ (occ_res (by omega) hr) hi e1
      · rintro ⟨e1, e2⟩
        refine ⟨?_, hnf⟩
        rw [r2 (by rw [e1]; exact hni), e1]
    by_cases h2 : (nthI l k).2.2.1 = i ∧ i ≠ 0
    · rw [if_pos h2, if_pos (e.2 h2)]
    · rw [if_neg h2, if_neg (fun h => h2 (e.1 h))]
theorem args_turnB {f : Int → Int} : ∀ (a : List ArgT), (a.map (tA f)).flatMap idsA = (a.flatMap idsA).map f
  | [] => rfl
  | x :: a => by
    have ih := args_turnB (f := f) a
    rw [List.map_cons, List.flatMap_cons, List.flatMap_cons, List.map_append, ih]
    congr 1
    by_cases e : x.1 = 1
    · simp [tA, idsA, e]
    · simp [tA, idsA, e]
theorem idsI_turn {f : Int → Int} {x : InstT} (h : x.2.1 ≠ 0 → f x.2.1 ≠ 0) : idsI (turnX f x) = (idsI x).map f := by
  unfold idsI idsTo turnX
  simp only
  rw [List.take_length, List.take_length, List.map_append, args_turnB]
  congr 1
  unfold tN
  by_cases e : x.2.1 = 0
  · simp [e]
  · simp [e, h e]
theorem allI_turn {f : Int → Int} {x : InstT} (h : x.2.1 ≠ 0 → f x.2.1 ≠ 0) (hr : x.2.2.1 ≠ 0 → f x.2.2.1 ≠ 0) : allI (turnX f x) = (allI x).map f := by
  unfold allI
  rw [idsI_turn h, List.map_append]
  congr 1
  show (if tN f x.2.2.1 = 0 then [] else [tN f x.2.2.1]) = _
  unfold tN
  by_cases e : x.2.2.1 = 0
  · simp [e]
  · simp [e, hr e]
theorem WayF.type {l : List InstT} {b : Int} {f : Int → Int} (h : WayF l b f) {k : Nat} (hk : k < l.length) : (nthI l k).2.1 ≠ 0 → f (nthI l k).2.1 ≠ 0 := fun e => h.ne ⟨k, hk, allI_type e⟩
theorem WayF.res {l : List InstT} {b : Int} {f : Int → Int} (h : WayF l b f) {k : Nat} (hk : k < l.length) : (nthI l k).2.2.1 ≠ 0 → f (nthI l k).2.2.1 ≠ 0 := fun e => h.ne ⟨k, hk, allI_res e⟩
theorem made_turn {l : List InstT} {b b' : Int} {f : Int → Int} (hok : InstsOk l) (hs : (shapeE b l).1 = 0) (hw : WayF l b' f) {k : Nat} (hk : k ≤ l.length) : ∀ (zs : List Int), (∀ i ∈ zs, Occ l i) → allMade (turnL f l) k (zs.map f) = allMade l k zs
  | [], _ => rfl
  | z :: zs, h => by
    have ih := made_turn hok hs hw hk zs (fun i hi => h i (by simp [hi]))
    unfold allMade at *
    rw [List.map_cons, List.all_cons, List.all_cons, ih, mak_turn hok hs hw (h z (by simp)) k hk]
theorem fault_turn {l : List InstT} {b b' : Int} {f : Int → Int} (hok : InstsOk l) (hs : (shapeE b l).1 = 0) (hw : WayF l b' f) {k : Nat} (hk : k < l.length) : faultAt (turnL f l) k = faultAt l k := by
  have hoc : ∀ i ∈ idsI (nthI l k), Occ l i := fun i hi => ⟨k, hk, List.mem_append_left _ hi⟩
  have e1 : idsI (nthI (turnL f l) k) = (idsI (nthI l k)).map f := by rw [turnL_at f l k hk]; exact idsI_turn (hw.type hk)
  have e2 : (makT (turnL f l) k (nthI (turnL f l) k).2.2.1) = makT l k (nthI l k).2.2.1 := by
    obtain ⟨r1, r2⟩ := res_turn hw hk
    by_cases h : (nthI l k).2.2.1 = 0
    · rw [r1.2 h, h, makT_zero, makT_zero]
    · rw [r2 h]; exact mak_turn hok hs hw (occ_res hk h) k (by omega)
  unfold faultAt
  rw [e1, e2, turnL_len, made_turn hok hs hw (Nat.le_refl _) _ hoc, made_turn hok hs hw (by omega) _ hoc, ((sameP_turn hs).2 k).2]
/-- What is wrong with its ids. -/
theorem ids_turn {l : List InstT} {b b' : Int} {f : Int → Int} (hok : InstsOk l) (hs : (shapeE b l).1 = 0) (hw : WayF l b' f) (h0 : b' ≠ 0) (h1 : b' ≤ 65536) : idsE b' (turnL f l) = idsE b l := by
  have hF : ∀ n k, k + n = l.length → idsF (turnL f l) n k = idsF l n k := by
    intro n
    induction n with
    | zero => intro k _; rfl
    | succ n ih =>
      intro k hk
      rw [idsF, idsF, fault_turn hok hs hw (by omega), ih (k + 1) (by omega)]
  unfold idsE
  rw [lay_turn hs hw h0 h1, turnL_len, hF _ 0 (by omega)]

theorem turnL_same {f g : Int → Int} {l : List InstT} (h : ∀ i, Occ l i → f i = g i) : turnL f l = turnL g l :=
  turnL_congr fun k hk => turnX_congr (fun e => h _ ⟨k, hk, allI_type e⟩) (fun e => h _ ⟨k, hk, allI_res e⟩) (fun j hj e => h _ ⟨k, hk, allI_arg hj e⟩)
theorem turnL_id (l : List InstT) : turnL (fun i => i) l = l := by
  have e : ∀ x : InstT, turnX (fun i => i) x = x := fun x => by
    have t : ∀ i, tN (fun i => i) i = i := fun i => by unfold tN; split; exact Eq.symm ‹_›; rfl
    have a : (tA fun i => i) = fun a => a := by funext a; unfold tA; split <;> rfl
    unfold turnX
    rw [t, t, a, List.map_id']
  unfold turnL
  have : turnX (fun i => i) = fun x => x := funext e
  rw [this, List.map_id']
theorem turnL_turn {f g : Int → Int} {l : List InstT} (h : ∀ i, Occ l i → f i ≠ 0) : turnL g (turnL f l) = turnL (fun i => g (f i)) l := by
  apply List.ext_getElem (by simp [turnL])
  intro k h1 h2
  have hk : k < l.length := by simpa [turnL] using h1
  have ht := fun e => h _ ⟨k, hk, allI_type e⟩
  have hr := fun e => h _ ⟨k, hk, allI_res e⟩
  simp only [turnL, List.getElem_map]
  rw [nthI_lt _ _ hk] at ht hr
  generalize l[k] = x at *
  unfold turnX
  simp only [Prod.mk.injEq, true_and, List.map_map]
  refine ⟨?_, ?_, ?_⟩
  · unfold tN
    by_cases e : x.2.1 = 0
    · simp [e]
    · simp [e, ht e]
  · unfold tN
    by_cases e : x.2.2.1 = 0
    · simp [e]
    · simp [e, hr e]
  · refine List.map_congr_left fun a _ => ?_
    simp only [Function.comp]
    unfold tA
    by_cases e : a.1 = 1
    · simp [e]
    · simp [e]
theorem mem_pairB {l m : List InstT} {x : Int × Int} : ∀ n, x ∈ pairTo l m n ↔ ∃ k, k < n ∧ x ∈ (allI (nthI l k)).zip (allI (nthI m k)) := by
  intro n
  induction n with
  | zero => simp [pairTo]
  | succ n ih =>
    rw [pairTo, List.mem_append, ih]
    constructor
    · rintro (⟨k, hk, h⟩ | h)
      · exact ⟨k, by omega, h⟩
      · exact ⟨n, by omega, h⟩
    · rintro ⟨k, hk, h⟩
      by_cases e : k = n
      · subst e; exact .inr h
      · exact .inl ⟨k, by omega, h⟩
theorem zip_mapB {g : Int → Int} : ∀ {p : List Int} {z : Int × Int}, z ∈ p.zip (p.map g) ↔ z.1 ∈ p ∧ z.2 = g z.1
  | [], z => by simp
  | x :: p, z => by
    rw [List.map_cons, List.zip_cons_cons, List.mem_cons, zip_mapB (p := p), List.mem_cons]
    constructor
    · rintro (rfl | h)
      · exact ⟨.inl rfl, rfl⟩
      · exact ⟨.inr h.1, h.2⟩
    · rintro ⟨rfl | h, h2⟩
      · exact .inl (Prod.ext rfl h2)
      · exact .inr ⟨h, h2⟩
/-- It is alike. -/
theorem alike_turn {l : List InstT} {b b' : Int} {f : Int → Int} (g : Int) (hs : (shapeE b l).1 = 0) (hw : WayF l b' f) (h0 : b' ≠ 0) (h1 : b' ≤ 65536) : AlikeC g b g b' l (turnL f l) := by
  have hal : ∀ k, k < l.length → allI (nthI (turnL f l) k) = (allI (nthI l k)).map f := fun k hk => by rw [turnL_at f l k hk]; exact allI_turn (hw.type hk) (hw.res hk)
  have hmem : ∀ z, z ∈ pairTo l (turnL f l) l.length ↔ Occ l z.1 ∧ z.2 = f z.1 := fun z => by
    rw [mem_pairB]
    constructor
    · rintro ⟨k, hk, h⟩
      rw [hal k hk, zip_mapB] at h
      exact ⟨⟨k, hk, h.1⟩, h.2⟩
    · rintro ⟨⟨k, hk, h⟩, h2⟩
      exact ⟨k, hk, by rw [hal k hk, zip_mapB]; exact ⟨h, h2⟩⟩
  have hB : Bij (pairTo l (turnL f l) l.length) := fun p hp q hq => by
    obtain ⟨p1, p2⟩ := (hmem p).1 hp
    obtain ⟨q1, q2⟩ := (hmem q).1 hq
    exact ⟨fun e => by rw [p2, q2, e], fun e => hw.inj _ _ p1 q1 (by rw [← p2, ← q2]; exact e)⟩
  refine ⟨hs, by rw [shape_turn hs hw h0 h1], (turnL_len f l).symm, ⟨fun k hk => by rw [hal k hk, List.length_map], hB⟩, rfl, ?_⟩
  refine turnL_same fun i hi => ?_
  unfold besF
  rw [thF_mem hB ((hmem (i, f i)).2 ⟨hi, rfl⟩)]
  rfl

end Go.Proofs.Ytjckgnpbjekhbaa

/-
  A way and its way back: in plain mathematics.
-/
namespace Go.Proofs.Ytjckgnpbjekhbaa
open Go.RowKit
set_option linter.unusedVariables false
set_option linter.unusedSimpArgs false
set_option maxRecDepth 10000

/-- The way back, as it is written number by number. -/
def bkL (zs : List Int) (n : Nat) : Nat → List Int
  | 0 => List.replicate n 0
  | k + 1 => (bkL zs n k).set (nth zs k).toNat (k : Int)
theorem bkL_len (zs : List Int) (n : Nat) : ∀ k, (bkL zs n k).length = n
  | 0 => by simp [bkL]
  | k + 1 => by rw [bkL, List.length_set, bkL_len zs n k]
theorem nth_setB {l : List Int} {i : Nat} {v : Int} (h : i < l.length) (j : Nat) : nth (l.set i v) j = if i = j then v else nth l j := by
  unfold nth
  rw [List.getD_eq_getElem?_getD, List.getD_eq_getElem?_getD, List.getElem?_set]
  by_cases e : i = j
  · subst e; simp [h]
  · simp [e]
theorem nth_getB {l : List Int} {i : Nat} (h : i < l.length) : l[i] = nth l i := by simp [nth, List.getD, h]
theorem nth_memB {l : List Int} {i : Nat} (h : i < l.length) : nth l i ∈ l := by rw [← nth_getB h]; exact List.getElem_mem h
theorem nodup_atB {l : List Int} (h : l.Nodup) {i j : Nat} (hi : i < l.length) (hj : j < l.length) (e : nth l i = nth l j) : i = j := by
  have hp := List.pairwise_iff_getElem.1 h
  rcases Nat.lt_trichotomy i j with hlt | he | hlt
  · exact absurd (by rw [nth_getB hi, nth_getB hj]; exact e) (hp i j hi hj hlt)
  · exact he
  · exact absurd (by rw [nth_getB hi, nth_getB hj]; exact e.symm) (hp j i hj hi hlt)
theorem nodup_of {l : List Int} (h : ∀ i j, i < l.length → j < l.length → nth l i = nth l j → i = j) : l.Nodup := by
  refine List.pairwise_iff_getElem.2 fun i j hi hj hlt e => ?_
  rw [nth_getB hi, nth_getB hj] at e
  have := h i j hi hj e
  omega
theorem way_at {zs : List Int} {n : Nat} (hw : Within 4294967296 zs) (h : IsWay zs (n : Int)) {i : Nat} (hi : i < n) : 0 ≤ nth zs i ∧ nth zs i < (n : Int) ∧ (nth zs i).toNat < n := by
  have hl : zs.length = n := by have := h.1; omega
  have h1 := hw.at (k := i) (by omega)
  have h2 := h.2.2.1 _ (nth_memB (by omega : i < zs.length))
  omega
theorem way_all {zs : List Int} {n : Nat} (hw : Within 4294967296 zs) (h : IsWay zs (n : Int)) {j : Nat} (hj : j < n) : ∃ i, i < n ∧ nth zs i = (j : Int) := by
  have hl : zs.length = n := by have := h.1; omega
  by_cases hm : (j : Int) ∈ zs
  · obtain ⟨i, hi, e⟩ := List.getElem_of_mem hm
    exact ⟨i, by omega, by rw [← nth_getB hi]; exact e⟩
  · exfalso
    have h1 : ((j : Int) :: zs).Nodup := List.nodup_cons.2 ⟨hm, h.2.2.2⟩
    have h2 := nodup_len _ ((List.range n).map fun (k : Nat) => (k : Int)) h1 (fun x hx => by
      have : 0 ≤ x ∧ x < (n : Int) := by
        rcases List.mem_cons.1 hx with rfl | hx
        · omega
        · exact ⟨(hw x hx).1, h.2.2.1 x hx⟩
      exact List.mem_map.2 ⟨x.toNat, List.mem_range.2 (by omega), by omega⟩)
    simp at h2
    omega
theorem bk_done {zs : List Int} {n : Nat} (hw : Within 4294967296 zs) (h : IsWay zs (n : Int)) : ∀ k, k ≤ n → ∀ i, i < k → nth (bkL zs n k) (nth zs i).toNat = (i : Int)
  | 0, _, i, hi => by omega
  | k + 1, hk, i, hi => by
    have hl : zs.length = n := by have := h.1; omega
    have a1 := way_at hw h (show k < n by omega)
    have a2 := way_at hw h (show i < n by omega)
    rw [bkL, nth_setB (by rw [bkL_len]; exact a1.2.2)]
    by_cases e : i = k
    · subst e; rw [if_pos rfl]
    · rw [if_neg (fun e2 => e (nodup_atB h.2.2.2 (by omega) (by omega) (by omega)).symm.symm)]
      exact bk_done hw h k (by omega) i (by omega)
theorem bk_within {zs : List Int} {n : Nat} (hn : 0 < n) (hb : n < 4294967296) : ∀ k, k ≤ n → ∀ z ∈ bkL zs n k, 0 ≤ z ∧ z < (n : Int)
  | 0, _, z, hz => by rw [bkL] at hz; have := List.eq_of_mem_replicate hz; omega
  | k + 1, hk, z, hz => by
    rw [bkL] at hz
    rcases List.mem_or_eq_of_mem_set hz with h | rfl
    · exact bk_within hn hb k (by omega) z h
    · omega
theorem bk_way {zs : List Int} {n : Nat} (hw : Within 4294967296 zs) (h : IsWay zs (n : Int)) (hn : 0 < n) (hb : n < 4294967296) : IsWay (bkL zs n n) (n : Int) := by
  have hd := bk_done hw h n (Nat.le_refl _)
  refine ⟨by rw [bkL_len], ?_, fun z hz => (bk_within hn hb n (Nat.le_refl _) z hz).2, nodup_of fun i j hi hj e => ?_⟩
  · have := hd 0 hn
    rw [h.2.1] at this
    exact this
  · rw [bkL_len] at hi hj
    obtain ⟨p, hp, e1⟩ := way_all hw h hi
    obtain ⟨q, hq, e2⟩ := way_all hw h hj
    have d1 := hd p hp
    have d2 := hd q hq
    rw [e1] at d1
    rw [e2] at d2
    have d1' : nth (bkL zs n n) i = (p : Int) := d1
    have d2' : nth (bkL zs n n) j = (q : Int) := d2
    have : (p : Int) = (q : Int) := by rw [← d1', ← d2', e]
    have : p = q := by omega
    subst this
    omega
theorem bk_back {zs : List Int} {n : Nat} (hw : Within 4294967296 zs) (h : IsWay zs (n : Int)) {i : Int} (h0 : 0 ≤ i) (h1 : i < (n : Int)) : fW (bkL zs n n) (fW zs i) = i := by
  have := bk_done hw h n (Nat.le_refl _) i.toNat (by omega)
  unfold fW
  rw [this]
  omega
theorem occ_in {l : List InstT} {b i : Int} (hok : InstsOk l) (h : (shapeE b l).1 = 0) (hi : Occ l i) : InB b i := by
  obtain ⟨k, hk, hm⟩ := hi
  have hin := ids_in (hok k hk) (shape_each h k hk)
  unfold allI at hm
  rcases List.mem_append.1 hm with hm | hm
  · rcases mem_idsI hm with ⟨h1, rfl⟩ | ⟨j, hj, h2, rfl⟩
    · exact hin.1 h1
    · exact hin.2.2 j hj h2
  · by_cases e : (nthI l k).2.2.1 = 0
    · rw [if_pos e] at hm; cases hm
    · rw [if_neg e] at hm
      obtain rfl := List.mem_singleton.1 hm
      exact hin.2.1 e
/-- A way is other ids, one to one. -/
theorem way_wayF {l : List InstT} {n : Nat} {zs : List Int} (hok : InstsOk l) (hs : (shapeE (n : Int) l).1 = 0) (hw : Within 4294967296 zs) (h : IsWay zs (n : Int)) : WayF l (n : Int) (fW zs) := by
  have hl : zs.length = n := by have := h.1; omega
  constructor
  · intro i hi
    have hb := occ_in hok hs hi
    unfold InB at hb ⊢
    have ha := way_at hw h (show i.toNat < n by omega)
    unfold fW
    have hne : nth zs i.toNat ≠ 0 := fun e => by
      have := nodup_atB h.2.2.2 (i := i.toNat) (j := 0) (by omega) (by omega) (by rw [e, h.2.1])
      omega
    omega
  · intro i j hi hj e
    have hb := occ_in hok hs hi
    have hc := occ_in hok hs hj
    unfold InB at hb hc
    have := nodup_atB h.2.2.2 (i := i.toNat) (j := j.toNat) (by omega) (by omega) e
    omega
/-- There and back. -/
theorem turn_back {l : List InstT} {n : Nat} {zs : List Int} (hok : InstsOk l) (hs : (shapeE (n : Int) l).1 = 0) (hw : Within 4294967296 zs) (h : IsWay zs (n : Int)) : turnL (fW (bkL zs n n)) (turnL (fW zs) l) = l := by
  have hW := way_wayF hok hs hw h
  rw [turnL_turn (fun i hi => hW.ne hi)]
  have : turnL (fun i => fW (bkL zs n n) (fW zs i)) l = turnL (fun i => i) l := turnL_same fun i hi => by
    have hb := occ_in hok hs hi
    unfold InB at hb
    exact bk_back hw h (by omega) (by omega)
  rw [this, turnL_id]
/-- The renamed one and what it was, the other way. -/
theorem alike_back {l : List InstT} {n : Nat} {zs : List Int} (g : Int) (hok : InstsOk l) (hs : (shapeE (n : Int) l).1 = 0) (hw : Within 4294967296 zs) (h : IsWay zs (n : Int)) : AlikeC g (n : Int) g (n : Int) (turnL (fW zs) l) l := by
  have hW := way_wayF hok hs hw h
  have hb := shape_bound hs
  have hn : 0 < n := by omega
  have hb2 : n < 4294967296 := by omega
  have hs2 := shape_turn hs hW (by omega) (by omega)
  have hok2 : InstsOk (turnL (fW zs) l) := turnL_ok (fW_range hw) hok
  have hw2 : Within 4294967296 (bkL zs n n) := fun z hz => by have := bk_within hn hb2 n (Nat.le_refl _) z hz; omega
  have hB := way_wayF hok2 (by rw [hs2]) hw2 (bk_way hw h hn hb2)
  have := alike_turn g (by rw [hs2] : (shapeE (n : Int) (turnL (fW zs) l)).1 = 0) hB (by omega) (by omega)
  rw [turn_back hok hs hw h] at this
  exact this

end Go.Proofs.Ytjckgnpbjekhbaa
