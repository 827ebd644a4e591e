/-
  Texts laid together in one: IdsAlike, Ref09All, IdsMakers, IdsMade, Ref09Made.
-/
import Derived.WalkSpells
import Derived.WalkMore
import Derived.BigRegion
import Derived.Deep.RegionWith
import Derived.Test.YtjckgnpbjekhbaaProg
import Derived.Test.YtjckgnpbjekhbaaB13
import Derived.Test.YtjckgnpbjekhbaaB15
import Derived.Test.YtjckgnpbjekhbaaB09
import Derived.Deep.AppendLies
import Derived.Test.YtjckgnpbjekhbaaB12
import Derived.Maps.OwnSet
import Derived.Test.YtjckgnpbjekhbaaB11
import Derived.Test.YtjckgnpbjekhbaaB10
/-
  Alike of the package ids.
-/
namespace Go.Proofs.Ytjckgnpbjekhbaa
open Go.RowKit Go.Maps
set_option linter.unusedVariables false
set_option linter.unusedSimpArgs false
set_option maxRecDepth 10000

set_option maxHeartbeats 2000000 in
/-- The closure: what stands beside an id. -/
theorem alike1_any (cb T K : Nat) (l : List (Int × Int)) (id : Int) (w : World) (hp : w.heap[cb]? = some (.cells #[.map (some T), .map (some K)] 48 (0, 0))) (hm : PrM w T K l) (h0 : 0 ≤ id) (h1 : id < 4294967296) :
    Calls Try.prog 20 #[.int .u32 id, .pointer (some ⟨cb, 0, none⟩)] w fun e w' => e = .returned (.int .u32 ((thF l id).getD 0)) ∧ w = w' := by
  have HM := hide hm.there
  have HTT := hide Try.underlying46
  have HTE := hide Try.underlying22
  have c0 := (one_block hp).1 0
  clear hm hp
  go_enter Try.func20, Try.ntmps20
  go_wp2_with (at_lookup; refine wpList_lookU rfl _ _ 46 rfl 22 .u32 HTT.out HTE.out (zeroU32P _) T l.length (thF l) rfl HM.out id rfl h0 h1 ?_)
  go_ret
  exact ⟨rfl, rfl⟩

/-- What stands beside an id of l in m, 0 if nothing does. -/
def besF (l m : List InstT) (id : Int) : Int := (thF (pairTo l m l.length) id).getD 0
/-- What Alike tells. -/
def AlikeC (ga ba gb bb : Int) (l m : List InstT) : Prop := (shapeE ba l).1 = 0 ∧ (shapeE bb m).1 = 0 ∧ l.length = m.length ∧ (LenP l m l.length ∧ Bij (pairTo l m l.length)) ∧ ga = gb ∧ turnL (besF l m) l = m

theorem allI_len {x : InstT} (h : InstOk x) : (allI x).length ≤ 5864062014636 := by
  have h1 := h.2.2.2.2.2.2.2
  have h2 := idsTo_len x.2.1 x.2.2.2 x.2.2.2.length
  unfold allI idsI
  rw [List.length_append]
  split <;> simp <;> omega
theorem allI_lens {l : List InstT} (h : InstsOk l) (j : Nat) : (allI (nthI l j)).length ≤ 5864062014636 := by
  by_cases hj : j < l.length
  · exact allI_len (h j hj)
  · have : nthI l j = (0, 0, 0, []) := by unfold nthI; rw [List.getD_eq_getElem?_getD, List.getElem?_eq_none (by omega)]; rfl
    rw [this]; decide
theorem mem_idsI {x : InstT} {id : Int} (h : id ∈ idsI x) : (x.2.1 ≠ 0 ∧ id = x.2.1) ∨ ∃ j, j < x.2.2.2.length ∧ (nthA x.2.2.2 j).1 = 1 ∧ id = (nthA x.2.2.2 j).2.1 := by
  unfold idsI idsTo at h
  rw [List.take_length] at h
  rcases List.mem_append.1 h with h | h
  · left
    by_cases e : x.2.1 = 0
    · simp [e] at h
    · simp [e] at h; exact ⟨e, h⟩
  · right
    obtain ⟨z, hz, hi⟩ := List.mem_flatMap.1 h
    obtain ⟨j, hj, rfl⟩ := List.mem_iff_getElem.1 hz
    refine ⟨j, hj, ?_⟩
    rw [nthA_lt _ _ hj]
    unfold idsA at hi
    split at hi
    · rename_i h1; simp at hi; exact ⟨h1, hi⟩
    · simp at hi
theorem allI_in {x : InstT} {b : Int} (hok : InstOk x) (h : rawE x b = 0) : ∀ id ∈ allI x, 0 < id ∧ id < 4294967296 := by
  obtain ⟨i1, i2, i3⟩ := ids_in hok h
  obtain ⟨_, _, a3, a4, a5, a6, a7, _⟩ := hok
  intro id hid
  unfold allI at hid
  rcases List.mem_append.1 hid with h | h
  · rcases mem_idsI h with ⟨h1, rfl⟩ | ⟨j, hj, h1, rfl⟩
    · exact ⟨by omega, a4⟩
    · have := i3 j hj h1
      exact ⟨by have := this.1; omega, (a7 j hj).2.2.2.1⟩
  · by_cases e : x.2.2.1 = 0
    · simp [e] at h
    · simp [e] at h; subst h; exact ⟨by omega, a6⟩
theorem besF_range {l m : List InstT} (hp : ∀ j, j < l.length → ∀ id ∈ allI (nthI m j), 0 < id ∧ id < 4294967296) (id : Int) : 0 ≤ besF l m id ∧ besF l m id < 4294967296 := by
  unfold besF
  cases hf : thF (pairTo l m l.length) id with
  | none => simp
  | some z =>
    have h1 := thF_some hf
    have : ∀ k, k ≤ l.length → ∀ x y, (x, y) ∈ pairTo l m k → 0 < y ∧ y < 4294967296 := by
      intro k
      induction k with
      | zero => intro _ x y h; simp [pairTo] at h
      | succ k ih =>
        intro hk x y h
        rw [pairTo] at h
        rcases List.mem_append.1 h with h | h
        · exact ih (by omega) x y h
        · exact hp k (by omega) y (List.of_mem_zip h).2
    have := this _ (Nat.le_refl _) _ _ h1
    simp only [Option.getD_some]
    omega

theorem field_zeroL (x y : Value) (w : World) : (Instr.field 31 (.agg #[x, y]) 0).run Try.prog w = .ok x w := by
  have hu := Try.underlying31
  have hi := Try.underlying29
  simp [Instr.field, run_underlying hu, asAgg, part, isAgg, run_underlying hi, go_sem]
/-- The boxes of Alike: both modules. -/
structure AlB (w W : World) (ga ba gb bb : Int) (aa ab : Option Addr) (na nb ca cb : Nat) : Prop where
  abox : W.heap[w.heap.size]? = some (.cells #[.int .u32 ga, .int .u32 ba, .slice aa na ca] 25 (0, 0))
  bbox : W.heap[w.heap.size + 1]? = some (.cells #[.int .u32 gb, .int .u32 bb, .slice ab nb cb] 25 (0, 0))
  bel : Below w.heap.size w W
theorem AlB.size {w W : World} {ga ba gb bb : Int} {aa ab : Option Addr} {na nb ca cb : Nat} (h : AlB w W ga ba gb bb aa ab na nb ca cb) : w.heap.size + 1 < W.heap.size := (Array.getElem?_eq_some_iff.1 h.bbox).1
theorem AlB.below {w W W' : World} {ga ba gb bb : Int} {aa ab : Option Addr} {na nb ca cb : Nat} (h : AlB w W ga ba gb bb aa ab na nb ca cb) (hb : Below W.heap.size W W') : AlB w W' ga ba gb bb aa ab na nb ca cb := by
  have hs := h.size
  exact ⟨(hb.block _ (by omega)).trans h.abox, (hb.block _ (by omega)).trans h.bbox, h.bel.trans (hb.mono h.bel.size)⟩

set_option maxHeartbeats 8000000 in
theorem idsAlike_any (ga ba gb bb : Int) (l m : List InstT) (aa ab : Option Addr) (na nb ca cb : Nat) (w : World) (hva : InstsV w aa l) (hvb : InstsV w ab m) (hoa : InstsOk l) (hob : InstsOk m) (hla : l.length = na) (hlb : m.length = nb) (hna : 40 * na ≤ 140737488351232) (hnb : 40 * nb ≤ 140737488351232)
    (ga0 : 0 ≤ ga) (ga1 : ga < 4294967296) (ba0 : 0 ≤ ba) (ba1 : ba < 4294967296) (gb0 : 0 ≤ gb) (gb1 : gb < 4294967296) (bb0 : 0 ≤ bb) (bb1 : bb < 4294967296) (r : Bool) (hr : r = true ↔ AlikeC ga ba gb bb l m) :
    Calls Try.prog 6 #[modV ga ba aa na ca, modV gb bb ab nb cb] w fun e w' => e = .returned (.bool r) ∧ Below w.heap.size w w' := by
  have HSA := hide fun wx (hb : Below w.heap.size w wx) => codeShape_any ga ba aa na ca l wx ga0 ga1 ba0 ba1 (hva.below hb) hoa hla hna
  have HSB := hide fun wx (hb : Below w.heap.size w wx) => codeShape_any gb bb ab nb cb m wx gb0 gb1 bb0 bb1 (hvb.below hb) hob hlb hnb
  have HPO : Hid (∀ wx, Below w.heap.size w wx → (shapeE ba l).1 = 0 → (shapeE bb m).1 = 0 → na = nb → Calls Try.prog 17 #[.slice aa na ca, .slice ab nb cb] wx fun e w' => ∃ (v : Value) (r : Bool), e = .returned (.tuple #[v, .bool r]) ∧ (r = true ↔ LenP l m na ∧ Bij (pairTo l m na)) ∧ (r = true → ∃ T K, v = .agg #[.map (some T), .map (some K)] ∧ PrM w' T K (pairTo l m na)) ∧ (r = false → v = .agg #[.map none, .map none]) ∧ Below wx.heap.size wx w') := fun wx hb e1 e2 e3 => by
    subst e3
    exact pairsOf_any l m aa ab na ca cb wx (hva.below hb) (hvb.below hb) hoa hob hla hlb hna (fun j hj => allI_in (hoa j (by omega)) (shape_each e1 j (by omega))) (fun j hj => allI_in (hob j (by omega)) (shape_each e2 j (by omega))) (allI_lens hoa) (by rw [← hla]; exact (shape_few e1).1)
  have HWI : Hid (∀ wx (cp T K : Nat), Below w.heap.size w wx → (shapeE ba l).1 = 0 → wx.heap[cp]? = some (.cells #[.map (some T), .map (some K)] 48 (0, 0)) → PrM wx T K (pairTo l m na) → Calls Try.prog 19 #[modV ga ba aa na ca, .int .u32 bb, .func (.func 20) #[] #[.pointer (some ⟨cp, 0, none⟩)]] wx fun e w' => ∃ g, e = .returned (modV ga bb (some ⟨g, 0, none⟩) na na) ∧ wx.heap.size ≤ g ∧ RowT w' wx.heap.size g na na (turnL (besF l m) l) ∧ Below wx.heap.size wx w') := fun wx cp T K hb e1 hp hM => by
    refine withIdsA_any (besF l m) (fun id => 0 ≤ id ∧ id < 4294967296) cp ga ba bb aa na ca l wx (hva.below hb) hoa hla hna (fun wy id hby hid => ?_) (fun k hk => ?_)
    · unfold besF
      rw [hla]
      exact alike1_any cp T K _ id wy ((hby.block cp (Array.getElem?_eq_some_iff.1 hp).1).trans hp) (hM.below hby) hid.1 hid.2
    · have h8 := hoa k (by omega)
      exact ⟨fun _ => ⟨h8.2.2.1, h8.2.2.2.1⟩, fun _ => ⟨h8.2.2.2.2.1, h8.2.2.2.2.2.1⟩, fun j hj _ => ⟨(h8.2.2.2.2.2.2.1 j hj).2.2.1, (h8.2.2.2.2.2.2.1 j hj).2.2.2.1⟩⟩
  have HRG : Hid ((shapeE bb m).1 = 0 → na = nb → InstsOk (turnL (besF l m) l)) := fun e2 e3 => turnL_ok (fun i => besF_range (fun j hj => allI_in (hob j (by omega)) (shape_each e2 j (by omega))) i) hoa
  have HVB := hide hvb
  have HOB := hide hob
  have HLA := hide hla
  have HLB := hide hlb
  have HNB := hide hnb
  have HR0 : Hid (r = true ↔ ((shapeE ba l).1 = 0 ∧ (shapeE bb m).1 = 0 ∧ na = nb ∧ (LenP l m na ∧ Bij (pairTo l m na)) ∧ ga = gb ∧ turnL (besF l m) l = m)) := by
    show _ ↔ _
    rw [hr]; unfold AlikeC; rw [hla, hlb]
  have HA0 : Hid (AlB w ((w.alloc (.cells #[.int .u32 ga, .int .u32 ba, .slice aa na ca] 25)).alloc (.cells #[.int .u32 gb, .int .u32 bb, .slice ab nb cb] 25)) ga ba gb bb aa ab na nb ca cb) := by
    refine ⟨?_, ?_, ((Below.refl _ w).alloc (Nat.le_refl _) _).alloc (by simp) _⟩
    · rw [Below.heap_alloc _ _ _ (by simp)]; exact heap_alloc_new _ _
    · have := heap_alloc_new (w.alloc (.cells #[.int .u32 ga, .int .u32 ba, .slice aa na ca] 25)) (.cells #[.int .u32 gb, .int .u32 bb, .slice ab nb cb] 25); simpa using this
  clear hr hva hvb hoa hob hla hlb
  generalize (shapeE ba l).1 = E1 at *
  generalize (shapeE ba l).2 = F1 at *
  generalize (shapeE bb m).1 = E2 at *
  generalize (shapeE bb m).2 = F2 at *
  have h1 := HSA.out _ HA0.out.bel
  unfold modV at *
  have HNI : Hid ((na : Int) < 140737488351232 ∧ (nb : Int) < 140737488351232) := ⟨by omega, by omega⟩
  have hF := fun x y wx => field_zeroL x y wx
  go_enter Try.func6, Try.ntmps6
  go_wp2_with fail
  generalize (w.alloc (.cells #[.int .u32 ga, .int .u32 ba, .slice aa na ca] 25)).alloc (.cells #[.int .u32 gb, .int .u32 bb, .slice ab nb cb] 25) = W0 at *
  refine h1.mono ?_
  rintro e w1 ⟨rfl, hb1⟩
  have HA1 := hide (HA0.out.below hb1)
  clear h1 hb1 HA0
  by_cases hE1 : E1 = 0
  · subst hE1
    obtain ⟨bq, _⟩ := one_block HA1.out.bbox
    have b0 := bq 0
    have b1 := bq 1
    have b2 := bq 2
    have h2 := HSB.out _ HA1.out.bel
    clear bq
    go_wp2_with fail
    refine h2.mono ?_
    rintro e w2 ⟨rfl, hb2⟩
    have HA2 := hide (HA1.out.below hb2)
    clear h2 hb2 HA1 b0 b1 b2
    by_cases hE2 : E2 = 0
    · subst hE2
      obtain ⟨aq, _⟩ := one_block HA2.out.abox
      have a0 := aq 0
      have a1 := aq 1
      have a2 := aq 2
      obtain ⟨bq, _⟩ := one_block HA2.out.bbox
      have b0 := bq 0
      have b1 := bq 1
      have b2 := bq 2
      have hni := HNI.out
      obtain ⟨hn1, hn2⟩ := hni
      clear aq bq
      by_cases hN : na = nb
      · have HNE := hide hN
        have hnn : ((na : Int) != (nb : Int)) = false := by rw [hN]; simp
        have h3 := HPO.out _ HA2.out.bel (by first | rfl | trivial) (by first | rfl | trivial) hN
        clear hN
        go_wp2_with fail
        refine h3.mono ?_
        rintro e w3 ⟨v, q, rfl, hq1, hq2, hq3, hb3⟩
        have HA3 := hide (HA2.out.below hb3)
        have HQ1 := hide hq1
        clear h3 hb3 HA2 a0 a1 a2 b0 b1 b2 hq1
        cases q with
        | false =>
          obtain rfl := hq3 rfl
          clear hq2 hq3
          have HRF : Hid (r = false) := by
            cases r with
            | false => rfl
            | true => have := HQ1.out.2 (HR0.out.1 rfl).2.2.2.1; cases this
          have HBE := hide (HA3.out.bel.alloc HA3.out.bel.size (.cells #[.map none, .map none] 48))
          go_wp2_with fail
          go_ret
          exact ⟨by rw [HRF.out]; rfl, HBE.out⟩
        | true =>
          obtain ⟨T, K, rfl, hM⟩ := hq2 rfl
          have HPM := hide hM
          clear hq2 hq3 hM
          have hba : Below w3.heap.size w3 (w3.alloc (.cells #[.map (some T), .map (some K)] 48)) := (Below.refl _ w3).alloc (Nat.le_refl _) _
          have HA4 := hide (HA3.out.below hba)
          have HP4 := hide (heap_alloc_new w3 (.cells #[.map (some T), .map (some K)] 48))
          have HM4 := hide (HPM.out.below hba)
          clear hba
          go_wp2_with fail
          generalize w3.alloc (.cells #[.map (some T), .map (some K)] 48) = W4 at *
          have LC : Hid (∀ w', Below W4.heap.size W4 w' → w'.cell? ⟨w.heap.size, 0, none⟩ = some (.int .u32 ga) ∧ w'.cell? ⟨w.heap.size, 1, none⟩ = some (.int .u32 ba) ∧ w'.cell? ⟨w.heap.size, 2, none⟩ = some (.slice aa na ca) ∧ w'.cell? ⟨w.heap.size + 1, 0, none⟩ = some (.int .u32 gb) ∧ w'.cell? ⟨w.heap.size + 1, 1, none⟩ = some (.int .u32 bb) ∧ w'.cell? ⟨w.heap.size + 1, 2, none⟩ = some (.slice ab nb cb)) := fun w' h => by
            have hh := HA4.out.below h
            exact ⟨(one_block hh.abox).1 0, (one_block hh.abox).1 1, (one_block hh.abox).1 2, (one_block hh.bbox).1 0, (one_block hh.bbox).1 1, (one_block hh.bbox).1 2⟩
          have hC0 : Below W4.heap.size W4 W4.drew := below_drew W4
          have hmix : Try.prog.follows .mixedOrders = true := by kernel_rfl
          refine (wpIn_wide (n := 0)).1 ?_
          refine wpIn_normal (wpIn_region_any hmix (wpAnyE_sound (C := Below W4.heap.size W4) (E := fun _ => false) _ _ _ _ ?_))
          change wpAnyE _ _ _ _ _ _ _ _ _ _ _ (World.drew _)
          refine wpAnyE_takeD (i := 0) (some 36) (v := (.agg #[.int .u32 ga, .int .u32 ba, .slice aa na ca])) (fun _ => trivial) (by kernel_rfl) rfl rfl (by kernel_rfl) (by kernel_rfl) (by kernel_rfl) (by kernel_rfl) (fun _ _ _ h => by cases h.1) hC0 (Or.inl ⟨by rfl, fun w' hC => by obtain ⟨e1, e2, e3, e4, e5, e6⟩ := LC.out w' hC; clear hC; go_simp⟩) ?_
          simp only [Act.put, List.setIfInBounds_toArray, List.set_cons_succ, List.set_cons_zero]
          refine wpAnyE_takeD (i := 1) (some 37) (v := (.pointer (some ⟨w.heap.size + 1, 1, none⟩))) (fun _ => trivial) (by kernel_rfl) rfl rfl (by kernel_rfl) (by kernel_rfl) (by kernel_rfl) (by kernel_rfl) (fun _ _ _ h => by cases h.1) hC0 (Or.inl ⟨by rfl, fun w' hC => by obtain ⟨e1, e2, e3, e4, e5, e6⟩ := LC.out w' hC; clear hC; go_simp⟩) ?_
          simp only [Act.put, List.setIfInBounds_toArray, List.set_cons_succ, List.set_cons_zero]
          refine wpAnyE_takeD (i := 2) (some 38) (v := (.int .u32 bb)) (fun _ => trivial) (by kernel_rfl) rfl rfl (by kernel_rfl) (by kernel_rfl) (by kernel_rfl) (by kernel_rfl) (fun _ _ _ h => by cases h.1) hC0 (Or.inl ⟨by rfl, fun w' hC => by obtain ⟨e1, e2, e3, e4, e5, e6⟩ := LC.out w' hC; clear hC; go_simp⟩) ?_
          simp only [Act.put, List.setIfInBounds_toArray, List.set_cons_succ, List.set_cons_zero]
          refine wpAnyE_takeD (i := 3) (some 39) (v := (.func (.func 20) #[] #[.pointer (some ⟨w3.heap.size, 0, none⟩)])) (fun _ => trivial) (by kernel_rfl) rfl rfl (by kernel_rfl) (by kernel_rfl) (by kernel_rfl) (by kernel_rfl) (fun _ _ _ h => by cases h.1) hC0 (Or.inl ⟨by rfl, fun w' hC => by obtain ⟨e1, e2, e3, e4, e5, e6⟩ := LC.out w' hC; clear hC; go_simp⟩) ?_
          simp only [Act.put, List.setIfInBounds_toArray, List.set_cons_succ, List.set_cons_zero]
          refine wpAnyE_takeD (i := 5) (some 41) (v := (.agg #[.int .u32 gb, .int .u32 bb, .slice ab nb cb])) (fun _ => trivial) (by kernel_rfl) rfl rfl (by kernel_rfl) (by kernel_rfl) (by kernel_rfl) (by kernel_rfl) (fun _ _ _ h => by cases h.1) hC0 (Or.inl ⟨by rfl, fun w' hC => by obtain ⟨e1, e2, e3, e4, e5, e6⟩ := LC.out w' hC; clear hC; go_simp⟩) ?_
          simp only [Act.put, List.setIfInBounds_toArray, List.set_cons_succ, List.set_cons_zero]
          refine wpAnyE_ready (rs := [4]) (by kernel_rfl) (by simp) ?_
          refine AllE.cons rfl (fun Kk hK => ?_) AllE.nil
          go_simp
          refine ⟨trivial, rfl, (callsIn_wide.2 (HWI.out W4.drew w3.heap.size T K HA4.out.bel.drew (by first | rfl | trivial) HP4.out (HM4.out.below (below_drew W4)))).mono ?_⟩
          rintro e w5 ⟨g, rfl, hg, hrow, hb5⟩
          dsimp only
          have hC5 : Below W4.heap.size W4 w5 := (below_drew W4).trans (show Below W4.heap.size W4.drew w5 from hb5)
          refine hK _ _ (.inr hC5) ?_
          clear hK Kk
          have hS := same_any ga bb gb bb (turnL (besF l m) l) m (some ⟨g, 0, none⟩) ab na nb na cb w5 (hrow.view (by rw [turnL, List.length_map, HLA.out])) (HVB.out.below (HA4.out.below hC5).bel) (by rw [turnL, List.length_map, HLA.out]) HLB.out (HRG.out (by first | rfl | trivial) HNE.out) HOB.out (by omega) (by omega) r (by
            have h := HR0.out
            have hq := HQ1.out
            constructor
            · intro hr
              have h := h.1 hr
              exact ⟨h.2.2.2.2.1, rfl, h.2.2.2.2.2⟩
            · rintro ⟨h1, _, h2⟩
              exact h.2 ⟨by first | rfl | trivial, by first | rfl | trivial, HNE.out, hq.1 (by first | rfl | trivial), h1, h2⟩)
          unfold modV at hS
          have HS := hide hS
          clear hS
          refine wpAnyE_ready (rs := [6]) (by kernel_rfl) (by simp) ?_
          refine AllE.cons rfl (fun Kk hK => ?_) AllE.nil
          go_simp
          refine ⟨trivial, rfl, (callsIn_wide.2 HS.out).mono ?_⟩
          rintro e w6 ⟨rfl, hb6⟩
          dsimp only
          have hC6 : Below W4.heap.size W4 w6 := hC5.trans (hb6.mono hC5.size)
          refine hK _ _ (.inr hC6) ?_
          clear hK Kk
          refine wpAnyE_ready (rs := [7]) (by kernel_rfl) (by simp) ?_
          refine AllE.cons rfl (fun Kk hK => ?_) AllE.nil
          go_simp
          refine hK _ _ (.inr hC6) ?_
          clear hK Kk
          refine wpAnyE_done (by kernel_rfl) ⟨rfl, ?_⟩ _
          have HBE := hide (HA4.out.below hC6).bel
          clear hC0 hC5 hC6 hb5 hb6 hrow LC HS HWI
          rw [then_normalP]
          go_wp2_with fail
          go_ret
          exact ⟨rfl, HBE.out⟩
      · have hnn : ((na : Int) != (nb : Int)) = true := by simp; omega
        have HRF : Hid (r = false) := by
          cases r with
          | false => rfl
          | true => exact absurd (HR0.out.1 rfl).2.2.1 hN
        have HBE := hide HA2.out.bel
        clear hN
        go_wp2_with fail
        go_ret
        exact ⟨by rw [HRF.out]; rfl, HBE.out⟩
    · have hE2' : (E2 != 0) = true := by simpa using hE2
      have HRF : Hid (r = false) := by
        cases r with
        | false => rfl
        | true => exact absurd (HR0.out.1 rfl).2.1 hE2
      have HBE := hide HA2.out.bel
      clear hE2
      go_wp2_with fail
      go_ret
      exact ⟨by rw [HRF.out]; rfl, HBE.out⟩
  · have hE1' : (E1 != 0) = true := by simpa using hE1
    have HRF : Hid (r = false) := by
      cases r with
      | false => rfl
      | true => exact absurd (HR0.out.1 rfl).1 hE1
    have HBE := hide HA1.out.bel
    clear hE1
    go_wp2_with fail
    go_ret
    exact ⟨by rw [HRF.out]; rfl, HBE.out⟩

end Go.Proofs.Ytjckgnpbjekhbaa

/-
  The document's all: all ids of a module, 0 among them.
-/
namespace Go.Proofs.Ytjckgnpbjekhbaa
open Go.RowKit
set_option linter.unusedVariables false
set_option linter.unusedSimpArgs false
set_option maxRecDepth 10000

/-- All ids of an instruction, 0 among them; up to an argument; of the first k instructions. -/
def allK (x : InstT) (j : Nat) : List Int := [x.2.1, x.2.2.1] ++ (x.2.2.2.take j).flatMap idsA
def allD (x : InstT) : List Int := allK x x.2.2.2.length
def allTo (l : List InstT) (k : Nat) : List Int := (l.take k).flatMap allD
theorem allK_succ (x : InstT) (j : Nat) (h : j < x.2.2.2.length) : allK x (j + 1) = allK x j ++ idsA (nthA x.2.2.2 j) := by
  unfold allK
  rw [List.take_add_one, List.getElem?_eq_getElem h, nthA_lt _ _ h, Option.toList_some, List.flatMap_append]
  simp [List.append_assoc]
theorem allK_len (x : InstT) (j : Nat) (h : j ≤ x.2.2.2.length) : (allK x j).length ≤ (allD x).length := by
  unfold allD
  obtain ⟨d, hd⟩ : ∃ d, x.2.2.2.length = j + d := ⟨x.2.2.2.length - j, by omega⟩
  unfold allK
  rw [List.length_append, List.length_append]
  have : ((x.2.2.2.take j).flatMap idsA).length ≤ ((x.2.2.2.take x.2.2.2.length).flatMap idsA).length := by
    rw [List.take_length]
    conv => rhs; rw [← List.take_append_drop j x.2.2.2, List.flatMap_append, List.length_append]
    omega
  omega
theorem allTo_succ (l : List InstT) (k : Nat) (h : k < l.length) : allTo l (k + 1) = allTo l k ++ allD (nthI l k) := by
  unfold allTo
  rw [List.take_add_one, List.getElem?_eq_getElem h, nthI_lt _ _ h, Option.toList_some, List.flatMap_append]
  simp

/-- The row of all while it is built. -/
structure AdB (w wr : World) (gen bnd : Int) (a : Option Addr) (n c : Nat) (v : Value) (zs : List Int) : Prop where
  own : wr.ownsRow (w.heap.size + 1) 22 1 v zs.length (zs.map (Value.int .u32))
  mbox : wr.heap[w.heap.size]? = some (.cells #[.int .u32 gen, .int .u32 bnd, .slice a n c] 25 (0, 0))
  bel : Below w.heap.size w wr
theorem AdB.size {w wr : World} {gen bnd : Int} {a : Option Addr} {n c : Nat} {v : Value} {zs : List Int} (h : AdB w wr gen bnd a n c v zs) : w.heap.size < wr.heap.size := (Array.getElem?_eq_some_iff.1 h.mbox).1
theorem AdB.below {w wr wr' : World} {gen bnd : Int} {a : Option Addr} {n c : Nat} {v : Value} {zs : List Int} (h : AdB w wr gen bnd a n c v zs) (hb : Below wr.heap.size wr wr') : AdB w wr' gen bnd a n c v zs :=
  ⟨own_below h.own hb, (hb.block _ h.size).trans h.mbox, h.bel.trans (hb.mono h.bel.size)⟩
theorem AdB.push {w wr w5 : World} {gen bnd : Int} {a : Option Addr} {n c : Nat} {v v' : Value} {zs ys : List Int} {m : Nat} (h : AdB w wr gen bnd a n c v zs) (hg : wr.grownBy w5 v.ownBlock) (hm : ys.length = m) (hown : w5.ownsRow (w.heap.size + 1) 22 1 v' (zs.length + m) (zs.map (Value.int .u32) ++ ys.map (Value.int .u32))) : AdB w w5 gen bnd a n c v' (zs ++ ys) := by
  have hlo : ∀ g, v.ownBlock = some g → w.heap.size + 1 ≤ g := fun g e => (h.own.lt g e).1
  refine ⟨by rw [List.length_append, List.map_append, hm]; exact hown, (hg.block _ h.size (fun e => by have := hlo _ e.symm; omega)).trans h.mbox, h.bel.grown hg h.bel.size (fun k e => by have := hlo k e; omega)⟩
theorem U32A.info : (Try.prog.info? 22).map (fun i => (i.zero, i.size, i.bytes)) = some (some (.int .u32 0), 1, 4) := by kernel_rfl

set_option maxHeartbeats 8000000 in
theorem refAll9_any (gen bnd : Int) (l : List InstT) (a : Option Addr) (n c : Nat) (w : World) (hv : InstsV w a l) (hok : InstsOk l) (hl : l.length = n) (hn : 40 * n ≤ 140737488351232) (hfew : ∀ k, k ≤ n → (allTo l k).length ≤ 2097152) :
    Calls Try.prog 23 #[modV gen bnd a n c] w fun e w' => ∃ v, e = .returned v ∧ w'.ownsRow (w.heap.size + 1) 22 1 v (allTo l n).length ((allTo l n).map (Value.int .u32)) ∧ Below w.heap.size w w' := by
  have HV := hide hv
  have HOK := hide hok
  have HL := hide hl
  have HN := hide hn
  have HFW := hide hfew
  have HTS : Hid (∀ k, k < n → allTo l (k + 1) = allTo l k ++ allD (nthI l k)) := fun k hk => allTo_succ l k (by omega)
  obtain ⟨i0, hi, hz0, hz1, hz2⟩ := info_parts U32A.info
  have HI : Hid (Try.prog.info? 22 = some i0 ∧ i0.zero = some (.int .u32 0) ∧ i0.size = 1 ∧ i0.bytes = 4) := ⟨hi, hz0, hz1, hz2⟩
  have HS0 : Hid (AdB w (w.alloc (.cells #[.int .u32 gen, .int .u32 bnd, .slice a n c] 25)) gen bnd a n c (.slice none 0 0) []) := ⟨World.ownsRow_nil _ _ _ _, heap_alloc_new w _, (Below.refl _ w).alloc (Nat.le_refl _) _⟩
  clear hi hz0 hz1 hz2 hv hok hl hn hfew
  unfold modV at *
  go_enter Try.func23, Try.ntmps23
  go_wp2_with fail
  generalize w.alloc (.cells #[.int .u32 gen, .int .u32 bnd, .slice a n c] 25) = W0 at *
  go_loopw [3, 4] (fun v i wr => ∃ k : Nat, k ≤ n ∧ i = .int .i64 k ∧ AdB w wr gen bnd a n c v (allTo l k)) (fun _ i _ => n - (intOf i).toNat)
  case atStart => exact ⟨0, Nat.zero_le _, rfl, by simpa [allTo] using HS0.out⟩
  case round =>
    obtain ⟨k, hk, rfl, hS⟩ := hrel
    clear HS0
    have m2 := (one_block hS.mbox).1 2
    have hkb : (k : Int) < 140737488351232 := by have := HN.out; omega
    obtain ⟨a', c', rfl⟩ := own_shapeU hS.own
    by_cases hlt : k < n
    · have hki : (k : Int) < (n : Int) := by omega
      have hk0 : (0 : Int) ≤ (k : Int) := by omega
      obtain ⟨g1, o1, aj, cj, nj, rfl, hg1, p1, p2, p3, p4, p5, p6, p7⟩ := HV.out k (by rw [HL.out]; exact hlt)
      have hcl := fun i => hS.bel.cell (p := ⟨g1, i, none⟩) hg1
      have p1 := (hcl _).trans p1
      have p2 := (hcl _).trans p2
      have p3 := (hcl _).trans p3
      have p4 := (hcl _).trans p4
      clear hcl
      have hzz := HOK.out k (by rw [HL.out]; exact hlt)
      have hnj : 24 * nj ≤ 140737488351232 := by have := hzz.2.2.2.2.2.2.2; omega
      have HT1 := hide (HTS.out k hlt)
      have hf1 := HFW.out (k + 1) (by omega)
      rw [HT1.out, List.length_append] at hf1
      have HK0 : Hid (allK (nthI l k) 0 = [(nthI l k).2.1, (nthI l k).2.2.1]) := by show _ = _; simp [allK]
      have HKS : Hid (∀ j, j < nj → allK (nthI l k) (j + 1) = allK (nthI l k) j ++ idsA (nthA (nthI l k).2.2.2 j)) := fun j hj => allK_succ _ j (by omega)
      have HKL : Hid (∀ j, j ≤ nj → (allK (nthI l k) j).length ≤ (allD (nthI l k)).length) := fun j hj => allK_len _ j (by omega)
      have HKD : Hid (allD (nthI l k) = allK (nthI l k) nj) := by show _ = _; unfold allD; rw [p5]
      have hl0 := HKL.out 0 (by omega)
      rw [HK0.out] at hl0
      simp only [List.length_cons, List.length_nil] at hl0
      have HHF := hide hf1
      have HP6 := hide p6
      have HP5 := hide p5
      generalize nthI l k = z at *
      obtain ⟨zo, zt, zr, zl⟩ := z
      simp only at p1 p2 p3 p4 HK0 HKS HP6 HP5
      generalize allTo l k = zs at *
      have hba : Below wr.heap.size wr (wr.alloc (.cells #[.int .u16 zo, .int .u32 zt, .int .u32 zr, .slice aj nj cj] 38)) := (Below.refl _ wr).alloc (Nat.le_refl _) _
      have hbb : Below (wr.alloc (.cells #[.int .u16 zo, .int .u32 zt, .int .u32 zr, .slice aj nj cj] 38)).heap.size (wr.alloc (.cells #[.int .u16 zo, .int .u32 zt, .int .u32 zr, .slice aj nj cj] 38)) ((wr.alloc (.cells #[.int .u16 zo, .int .u32 zt, .int .u32 zr, .slice aj nj cj] 38)).alloc (.cells #[.int .u32 zt, .int .u32 zr] 22)) := (Below.refl _ _).alloc (Nat.le_refl _) _
      have HIX := hide (heap_alloc_new wr (.cells #[.int .u16 zo, .int .u32 zt, .int .u32 zr, .slice aj nj cj] 38))
      obtain ⟨ix, _⟩ := one_block HIX.out
      have x1 := ix 1
      have x2 := ix 2
      have HSA := hide ((hS.below hba).below hbb)
      have HIY := hide ((hbb.block wr.heap.size (by simp)).trans HIX.out)
      have N1 := hide HSA.out.own
      have N2 : Hid (∀ (j : Nat) (u : Value), ([.int .u32 zt, .int .u32 zr] : List Value)[j]? = some u → ((wr.alloc (.cells #[.int .u16 zo, .int .u32 zt, .int .u32 zr, .slice aj nj cj] 38)).alloc (.cells #[.int .u32 zt, .int .u32 zr] 22)).cell? ((⟨wr.heap.size + 1, 0, none⟩ : Addr).add j) = some u) := World.news_of_block (cs := #[.int .u32 zt, .int .u32 zr]) (t := 22) (fr := (0, 0)) (by have := heap_alloc_new (wr.alloc (.cells #[.int .u16 zo, .int .u32 zt, .int .u32 zr, .slice aj nj cj] 38)) (.cells #[.int .u32 zt, .int .u32 zr] 22); rw [World.size_alloc] at this; exact this)
      have N3 : Hid (∀ u : Value, u ∈ ([.int .u32 zt, .int .u32 zr] : List Value) → u.oneCell' = true) := by intro u hu; simp at hu; rcases hu with rfl | rfl <;> rfl
      have N4 : Hid (zs.length + 2 ≤ maxLen) := by show _ ≤ _; unfold maxLen; omega
      have N5 : Hid ((zs.length + 2) * 4 ≤ 140737488355328) := by show _ ≤ _; omega
      have N6 : Hid (w.heap.size + 1 ≤ ((wr.alloc (.cells #[.int .u16 zo, .int .u32 zt, .int .u32 zr, .slice aj nj cj] 38)).alloc (.cells #[.int .u32 zt, .int .u32 zr] 22)).heap.size) := by show _ ≤ _; have := HSA.out.size; omega
      have HFA : Hid (∀ g, Value.ownBlock (.slice a' zs.length c') = some g → g < wr.heap.size) := fun g e => (hS.own.lt g e).2
      have HSZ : Hid (((wr.alloc (.cells #[.int .u16 zo, .int .u32 zt, .int .u32 zr, .slice aj nj cj] 38)).alloc (.cells #[.int .u32 zt, .int .u32 zr] 22)).heap.size = wr.heap.size + 2) := by show _ = _; simp
      clear hba hbb ix hS hzz p5 p6 p7 hf1 hl0
      go_wp2_with (at_builtin; refine wpList_append_lies _ rfl (.tmp 19) (.tmp 24) 28 rfl (w.heap.size + 1) 22 i0 (.int .u32 0) 1 4 Try.underlying28 HI.out.1 HI.out.2.1 HI.out.2.2.1 HI.out.2.2.2 rfl (by decide) (.slice a' zs.length c') zs.length (zs.map (Value.int .u32)) rfl N1.out ⟨wr.heap.size + 1, 0, none⟩ 2 2 [.int .u32 zt, .int .u32 zr] rfl rfl N2.out N3.out (by decide) N4.out N5.out N6.out _ rfl ?_)
      intro g7 cap7 w7 hown7 hgr7 hat7 hlt7
      have HF7 : Hid (AdB w w7 gen bnd (some ⟨g1, o1, none⟩) n c (.slice (some ⟨g7, 0, none⟩) (zs.length + 2) cap7) (zs ++ allK (zo, zt, zr, zl) 0)) := by show AdB _ _ _ _ _ _ _ _ _; rw [HK0.out]; exact HSA.out.push hgr7 rfl hown7
      have HI7 : Hid (w7.heap[wr.heap.size]? = some (.cells #[.int .u16 zo, .int .u32 zt, .int .u32 zr, .slice aj nj cj] 38 (0, 0))) := (hgr7.block _ (by rw [HSZ.out]; omega) (fun e => by have := HFA.out _ e.symm; omega)).trans HIY.out
      have HG7 : Hid (g7 ≠ wr.heap.size) := by
        rcases hat7 with h | h
        · have := HFA.out _ h; show _ ≠ _; omega
        · show _ ≠ _; omega
      clear hown7 hgr7 hat7 hlt7 N1 N2 N3 N4 N5 N6 HSA HIX HIY HFA HSZ x1 x2 p1 p2 p3 p4 m2
      generalize wr.heap.size = I at *
      go_wp2_with fail
      go_loopw [3, 6] (fun v i wz => ∃ j : Nat, j ≤ nj ∧ i = .int .i64 j ∧ AdB w wz gen bnd (some ⟨g1, o1, none⟩) n c v (zs ++ allK (zo, zt, zr, zl) j) ∧ wz.heap[I]? = some (.cells #[.int .u16 zo, .int .u32 zt, .int .u32 zr, .slice aj nj cj] 38 (0, 0)) ∧ ∀ g, v.ownBlock = some g → g ≠ I) (fun _ i _ => nj - (intOf i).toNat)
      case atStart => exact ⟨0, Nat.zero_le _, rfl, HF7.out, HI7.out, fun g e => by simp [Value.ownBlock] at e; rw [← e]; exact HG7.out⟩
      case round =>
        obtain ⟨j, hj, rfl, hS2, hI2, hG2⟩ := hrel
        clear HF7 HI7 HG7
        have hIl := (Array.getElem?_eq_some_iff.1 hI2).1
        obtain ⟨ix, _⟩ := one_block hI2
        have x3 := ix 3
        have hjb : (j : Int) < 140737488351232 := by omega
        have hj0 : (0 : Int) ≤ (j : Int) := by omega
        obtain ⟨a8, c8, rfl⟩ := own_shapeU hS2.own
        by_cases hjl : j < nj
        · have hji : (j : Int) < (nj : Int) := by omega
          obtain ⟨b1, o2, rfl, hb1, r1, r2, r3⟩ := (HP6.out.below hS2.bel) j (by rw [HP5.out]; exact hjl)
          have HK1 := hide (HKS.out j hjl)
          have hkl1 := HKL.out (j + 1) (by omega)
          have hhf := HHF.out
          rw [HK1.out, List.length_append] at hkl1
          generalize nthA zl j = y at *
          generalize allK (zo, zt, zr, zl) j = ks at *
          obtain ⟨y1, y2, y3⟩ := y
          simp only at *
          by_cases h1 : y1 = 1
          · subst h1
            have hA1 : idsA (1, y2, y3) = [y2] := by simp [idsA]
            rw [hA1] at hkl1
            simp only [List.length_cons, List.length_nil] at hkl1
            have hll : (zs ++ ks).length = zs.length + ks.length := List.length_append
            have hbn : Below wr.heap.size wr (wr.alloc (.cells #[.int .u32 y2] 22)) := (Below.refl _ wr).alloc (Nat.le_refl _) _
            have HSA := hide (hS2.below hbn)
            have HIY := hide ((hbn.block I hIl).trans hI2)
            have N1 := hide HSA.out.own
            have N2 : Hid (∀ (j : Nat) (u : Value), ([.int .u32 y2] : List Value)[j]? = some u → (wr.alloc (.cells #[.int .u32 y2] 22)).cell? ((⟨wr.heap.size, 0, none⟩ : Addr).add j) = some u) := World.news_of_block (cs := #[.int .u32 y2]) (t := 22) (fr := (0, 0)) (heap_alloc_new wr _)
            have N3 : Hid (∀ u : Value, u ∈ ([.int .u32 y2] : List Value) → u.oneCell' = true) := by intro u hu; simp at hu; subst hu; rfl
            have N4 : Hid ((zs ++ ks).length + 1 ≤ maxLen) := by show _ ≤ _; unfold maxLen; omega
            have N5 : Hid (((zs ++ ks).length + 1) * 4 ≤ 140737488355328) := by show _ ≤ _; omega
            have N6 : Hid (w.heap.size + 1 ≤ (wr.alloc (.cells #[.int .u32 y2] 22)).heap.size) := by show _ ≤ _; have := HSA.out.size; omega
            have HG2 := hide hG2
            have HIL : Hid (I < (wr.alloc (.cells #[.int .u32 y2] 22)).heap.size ∧ I < wr.heap.size) := by refine ⟨?_, hIl⟩; rw [World.size_alloc]; omega
            clear hbn hS2 hG2 hI2 hll hkl1 hhf ix
            have HQS : Hid (zs ++ (ks ++ [y2]) = (zs ++ ks) ++ [y2]) := (List.append_assoc _ _ _).symm
            generalize zs ++ ks = qs at *
            go_wp2_with (at_builtin; refine wpList_append_lies _ rfl (.tmp 40) (.tmp 47) 28 rfl (w.heap.size + 1) 22 i0 (.int .u32 0) 1 4 Try.underlying28 HI.out.1 HI.out.2.1 HI.out.2.2.1 HI.out.2.2.2 rfl (by decide) (.slice a8 qs.length c8) qs.length (qs.map (Value.int .u32)) rfl N1.out ⟨wr.heap.size, 0, none⟩ 1 1 [.int .u32 y2] rfl rfl N2.out N3.out (by decide) N4.out N5.out N6.out _ rfl ?_)
            intro g9 cap9 w9 hown9 hgr9 hat9 hlt9
            have HF9 : Hid (AdB w w9 gen bnd (some ⟨g1, o1, none⟩) n c (.slice (some ⟨g9, 0, none⟩) (qs.length + 1) cap9) (qs ++ [y2])) := HSA.out.push hgr9 rfl hown9
            have HI9 := hide ((hgr9.block I HIL.out.1 (fun e => HG2.out _ e.symm rfl)).trans HIY.out)
            have HG9 : Hid (g9 ≠ I) := by
              rcases hat9 with h | h
              · exact HG2.out _ h
              · have := HIL.out.2; show _ ≠ _; omega
            clear hown9 hgr9 hat9 hlt9 N1 N2 N3 N4 N5 N6
            go_wp2_with fail
            go_roundw
            case rel => exact ⟨j + 1, by omega, by go_num, by rw [HK1.out, hA1, HQS.out]; exact HF9.out, HI9.out, fun g e => by simp [Value.ownBlock] at e; rw [← e]; exact HG9.out⟩
            case measure => simp [intOf]; omega
          · have hA1 : idsA (y1, y2, y3) = [] := by simp [idsA, h1]
            have hy1 : (y1 == 1) = false := by simpa using h1
            have HS2 := hide hS2
            have HI2 := hide hI2
            have HG2 := hide hG2
            clear hS2 hI2 hG2 ix hkl1 hhf h1
            go_wp2_with fail
            go_roundw
            case rel => exact ⟨j + 1, by omega, by go_num, by rw [HK1.out, hA1, List.append_nil]; exact HS2.out, HI2.out, HG2.out⟩
            case measure => simp [intOf]; omega
        · obtain rfl : j = nj := by omega
          have HFI : Hid (AdB w wr gen bnd (some ⟨g1, o1, none⟩) n c (.slice a8 (zs ++ allK (zo, zt, zr, zl) j).length c8) (allTo l (k + 1))) := by show AdB _ _ _ _ _ _ _ _ _; rw [HT1.out, HKD.out]; exact hS2
          clear hS2 hI2 hG2 ix
          go_wp2_with fail
          go_roundw
          case rel => exact ⟨k + 1, by omega, by go_num, HFI.out⟩
          case measure => simp [intOf]; omega
    · obtain rfl : k = n := by omega
      have HO := hide hS.own
      have HB := hide hS.bel
      clear hS
      go_wp2_with fail
      go_ret
      exact ⟨_, rfl, HO.out, HB.out⟩

end Go.Proofs.Ytjckgnpbjekhbaa

/-
  makersOf of the package ids: a map from each id that is made to the least place at which it is made; the document's Maker.
-/
namespace Go.Proofs.Ytjckgnpbjekhbaa
open Go.RowKit Go.Maps
set_option linter.unusedVariables false
set_option linter.unusedSimpArgs false
set_option maxRecDepth 10000

end Go.Proofs.Ytjckgnpbjekhbaa

/-
  Made of the package ids.
-/
namespace Go.Proofs.Ytjckgnpbjekhbaa
open Go.RowKit Go.Maps
set_option linter.unusedVariables false
set_option linter.unusedSimpArgs false
set_option maxRecDepth 10000

end Go.Proofs.Ytjckgnpbjekhbaa

/-
  The document's Made.
-/
namespace Go.Proofs.Ytjckgnpbjekhbaa
open Go.RowKit Go.Maps
set_option linter.unusedVariables false
set_option linter.unusedSimpArgs false
set_option maxRecDepth 10000

end Go.Proofs.Ytjckgnpbjekhbaa
