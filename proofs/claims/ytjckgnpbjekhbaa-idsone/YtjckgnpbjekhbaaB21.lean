/-
  Texts laid together in one: IdsAlike, IdsMade, MathRb.
-/
import Derived.WalkSpells
import Derived.WalkMore
import Derived.BigRegion
import Derived.Deep.RegionWith
import Derived.Test.YtjckgnpbjekhbaaProg
import Derived.Test.YtjckgnpbjekhbaaB18
import Derived.Test.YtjckgnpbjekhbaaB20
import Derived.Test.YtjckgnpbjekhbaaB09
import Derived.Test.YtjckgnpbjekhbaaB10
import Derived.Maps.OwnSet
import Derived.Test.YtjckgnpbjekhbaaB17
import Derived.Test.YtjckgnpbjekhbaaB16
/-
  Alike of the package ids.
-/
namespace Go.Proofs.Ytjckgnpbjekhbaa
open Go.RowKit Go.Maps
set_option linter.unusedVariables false
set_option linter.unusedSimpArgs false
set_option maxRecDepth 10000

set_option maxHeartbeats 2000000 in
/-- The closure: what stands beside an id. -/
theorem alike1_any (cb T K : Nat) (l : List (Int × Int)) (id : Int) (w : World) (hp : w.heap[cb]? = some (.cells #[.map (some T), .map (some K)] 48 (0, 0))) (hm : PrM w T K l) (h0 : 0 ≤ id) (h1 : id < 4294967296) :
    Calls Try.prog 20 #[.int .u32 id, .pointer (some ⟨cb, 0, none⟩)] w fun e w' => e = .returned (.int .u32 ((thF l id).getD 0)) ∧ w = w' := by
  have HM := hide hm.there
  have HTT := hide Try.underlying46
  have HTE := hide Try.underlying22
  have c0 := (one_block hp).1 0
  clear hm hp
  go_enter Try.func20, Try.ntmps20
  go_wp2_with (at_lookup; refine wpList_lookU rfl _ _ 46 rfl 22 .u32 HTT.out HTE.out (zeroU32P _) T l.length (thF l) rfl HM.out id rfl h0 h1 ?_)
  go_ret
  exact ⟨rfl, rfl⟩

/-- What stands beside an id of l in m, 0 if nothing does. -/
def besF (l m : List InstT) (id : Int) : Int := (thF (pairTo l m l.length) id).getD 0
/-- What Alike tells. -/
def AlikeC (ga ba gb bb : Int) (l m : List InstT) : Prop := (shapeE ba l).1 = 0 ∧ (shapeE bb m).1 = 0 ∧ l.length = m.length ∧ (LenP l m l.length ∧ Bij (pairTo l m l.length)) ∧ ga = gb ∧ turnL (besF l m) l = m

theorem allI_len {x : InstT} (h : InstOk x) : (allI x).length ≤ 5864062014636 := by
  have h1 := h.2.2.2.2.2.2.2
  have h2 := idsTo_len x.2.1 x.2.2.2 x.2.2.2.length
  unfold allI idsI
  rw [List.length_append]
  split <;> simp <;> omega
theorem allI_lens {l : List InstT} (h : InstsOk l) (j : Nat) : (allI (nthI l j)).length ≤ 5864062014636 := by
  by_cases hj : j < l.length
  · exact allI_len (h j hj)
  · have : nthI l j = (0, 0, 0, []) := by unfold nthI; rw [List.getD_eq_getElem?_getD, List.getElem?_eq_none (by omega)]; rfl
    rw [this]; decide
theorem mem_idsI {x : InstT} {id : Int} (h : id ∈ idsI x) : (x.2.1 ≠ 0 ∧ id = x.2.1) ∨ ∃ j, j < x.2.2.2.length ∧ (nthA x.2.2.2 j).1 = 1 ∧ id = (nthA x.2.2.2 j).2.1 := by
  unfold idsI idsTo at h
  rw [List.take_length] at h
  rcases List.mem_append.1 h with h | h
  · left
    by_cases e : x.2.1 = 0
    · simp [e] at h
    · simp [e] at h; exact ⟨e, h⟩
  · right
    obtain ⟨z, hz, hi⟩ := List.mem_flatMap.1 h
    obtain ⟨j, hj, rfl⟩ := List.mem_iff_getElem.1 hz
    refine ⟨j, hj, ?_⟩
    rw [nthA_lt _ _ hj]
    unfold idsA at hi
    split at hi
    · rename_i h1; simp at hi; exact ⟨h1, hi⟩
    · simp at hi
theorem allI_in {x : InstT} {b : Int} (hok : InstOk x) (h : rawE x b = 0) : ∀ id ∈ allI x, 0 < id ∧ id < 4294967296 := by
  obtain ⟨i1, i2, i3⟩ := ids_in hok h
  obtain ⟨_, _, a3, a4, a5, a6, a7, _⟩ := hok
  intro id hid
  unfold allI at hid
  rcases List.mem_append.1 hid with h | h
  · rcases mem_idsI h with ⟨h1, rfl⟩ | ⟨j, hj, h1, rfl⟩
    · exact ⟨by omega, a4⟩
    · have := i3 j hj h1
      exact ⟨by have := this.1; omega, (a7 j hj).2.2.2.1⟩
  · by_cases e : x.2.2.1 = 0
    · simp [e] at h
    · simp [e] at h; subst h; exact ⟨by omega, a6⟩
theorem besF_range {l m : List InstT} (hp : ∀ j, j < l.length → ∀ id ∈ allI (nthI m j), 0 < id ∧ id < 4294967296) (id : Int) : 0 ≤ besF l m id ∧ besF l m id < 4294967296 := by
  unfold besF
  cases hf : thF (pairTo l m l.length) id with
  | none => simp
  | some z =>
    have h1 := thF_some hf
    have : ∀ k, k ≤ l.length → ∀ x y, (x, y) ∈ pairTo l m k → 0 < y ∧ y < 4294967296 := by
      intro k
      induction k with
      | zero => intro _ x y h; simp [pairTo] at h
      | succ k ih =>
        intro hk x y h
        rw [pairTo] at h
        rcases List.mem_append.1 h with h | h
        · exact ih (by omega) x y h
        · exact hp k (by omega) y (List.of_mem_zip h).2
    have := this _ (Nat.le_refl _) _ _ h1
    simp only [Option.getD_some]
    omega

theorem field_zeroL (x y : Value) (w : World) : (Instr.field 31 (.agg #[x, y]) 0).run Try.prog w = .ok x w := by
  have hu := Try.underlying31
  have hi := Try.underlying29
  simp [Instr.field, run_underlying hu, asAgg, part, isAgg, run_underlying hi, go_sem]
/-- The boxes of Alike: both modules. -/
structure AlB (w W : World) (ga ba gb bb : Int) (aa ab : Option Addr) (na nb ca cb : Nat) : Prop where
  abox : W.heap[w.heap.size]? = some (.cells #[.int .u32 ga, .int .u32 ba, .slice aa na ca] 25 (0, 0))
  bbox : W.heap[w.heap.size + 1]? = some (.cells #[.int .u32 gb, .int .u32 bb, .slice ab nb cb] 25 (0, 0))
  bel : Below w.heap.size w W
theorem AlB.size {w W : World} {ga ba gb bb : Int} {aa ab : Option Addr} {na nb ca cb : Nat} (h : AlB w W ga ba gb bb aa ab na nb ca cb) : w.heap.size + 1 < W.heap.size := (Array.getElem?_eq_some_iff.1 h.bbox).1
theorem AlB.below {w W W' : World} {ga ba gb bb : Int} {aa ab : Option Addr} {na nb ca cb : Nat} (h : AlB w W ga ba gb bb aa ab na nb ca cb) (hb : Below W.heap.size W W') : AlB w W' ga ba gb bb aa ab na nb ca cb := by
  have hs := h.size
  exact ⟨(hb.block _ (by omega)).trans h.abox, (hb.block _ (by omega)).trans h.bbox, h.bel.trans (hb.mono h.bel.size)⟩

set_option maxHeartbeats 8000000 in
theorem idsAlike_any (ga ba gb bb : Int) (l m : List InstT) (aa ab : Option Addr) (na nb ca cb : Nat) (w : World) (hva : InstsV w aa l) (hvb : InstsV w ab m) (hoa : InstsOk l) (hob : InstsOk m) (hla : l.length = na) (hlb : m.length = nb) (hna : 40 * na ≤ 140737488351232) (hnb : 40 * nb ≤ 140737488351232)
    (ga0 : 0 ≤ ga) (ga1 : ga < 4294967296) (ba0 : 0 ≤ ba) (ba1 : ba < 4294967296) (gb0 : 0 ≤ gb) (gb1 : gb < 4294967296) (bb0 : 0 ≤ bb) (bb1 : bb < 4294967296) (r : Bool) (hr : r = true ↔ AlikeC ga ba gb bb l m) :
    Calls Try.prog 6 #[modV ga ba aa na ca, modV gb bb ab nb cb] w fun e w' => e = .returned (.bool r) ∧ Below w.heap.size w w' := by
  have HSA := hide fun wx (hb : Below w.heap.size w wx) => codeShape_any ga ba aa na ca l wx ga0 ga1 ba0 ba1 (hva.below hb) hoa hla hna
  have HSB := hide fun wx (hb : Below w.heap.size w wx) => codeShape_any gb bb ab nb cb m wx gb0 gb1 bb0 bb1 (hvb.below hb) hob hlb hnb
  have HPO : Hid (∀ wx, Below w.heap.size w wx → (shapeE ba l).1 = 0 → (shapeE bb m).1 = 0 → na = nb → Calls Try.prog 17 #[.slice aa na ca, .slice ab nb cb] wx fun e w' => ∃ (v : Value) (r : Bool), e = .returned (.tuple #[v, .bool r]) ∧ (r = true ↔ LenP l m na ∧ Bij (pairTo l m na)) ∧ (r = true → ∃ T K, v = .agg #[.map (some T), .map (some K)] ∧ PrM w' T K (pairTo l m na)) ∧ (r = false → v = .agg #[.map none, .map none]) ∧ Below wx.heap.size wx w') := fun wx hb e1 e2 e3 => by
    subst e3
    exact pairsOf_any l m aa ab na ca cb wx (hva.below hb) (hvb.below hb) hoa hob hla hlb hna (fun j hj => allI_in (hoa j (by omega)) (shape_each e1 j (by omega))) (fun j hj => allI_in (hob j (by omega)) (shape_each e2 j (by omega))) (allI_lens hoa) (by rw [← hla]; exact (shape_few e1).1)
  have HWI : Hid (∀ wx (cp T K : Nat), Below w.heap.size w wx → (shapeE ba l).1 = 0 → wx.heap[cp]? = some (.cells #[.map (some T), .map (some K)] 48 (0, 0)) → PrM wx T K (pairTo l m na) → Calls Try.prog 19 #[modV ga ba aa na ca, .int .u32 bb, .func (.func 20) #[] #[.pointer (some ⟨cp, 0, none⟩)]] wx fun e w' => ∃ g, e = .returned (modV ga bb (some ⟨g, 0, none⟩) na na) ∧ wx.heap.size ≤ g ∧ RowT w' wx.heap.size g na na (turnL (besF l m) l) ∧ Below wx.heap.size wx w') := fun wx cp T K hb e1 hp hM => by
    refine withIdsA_any (besF l m) (fun id => 0 ≤ id ∧ id < 4294967296) cp ga ba bb aa na ca l wx (hva.below hb) hoa hla hna (fun wy id hby hid => ?_) (fun k hk => ?_)
    · unfold besF
      rw [hla]
      exact alike1_any cp T K _ id wy ((hby.block cp (Array.getElem?_eq_some_iff.1 hp).1).trans hp) (hM.below hby) hid.1 hid.2
    · have h8 := hoa k (by omega)
      exact ⟨fun _ => ⟨h8.2.2.1, h8.2.2.2.1⟩, fun _ => ⟨h8.2.2.2.2.1, h8.2.2.2.2.2.1⟩, fun j hj _ => ⟨(h8.2.2.2.2.2.2.1 j hj).2.2.1, (h8.2.2.2.2.2.2.1 j hj).2.2.2.1⟩⟩
  have HRG : Hid ((shapeE bb m).1 = 0 → na = nb → InstsOk (turnL (besF l m) l)) := fun e2 e3 => turnL_ok (fun i => besF_range (fun j hj => allI_in (hob j (by omega)) (shape_each e2 j (by omega))) i) hoa
  have HVB := hide hvb
  have HOB := hide hob
  have HLA := hide hla
  have HLB := hide hlb
  have HNB := hide hnb
  have HR0 : Hid (r = true ↔ ((shapeE ba l).1 = 0 ∧ (shapeE bb m).1 = 0 ∧ na = nb ∧ (LenP l m na ∧ Bij (pairTo l m na)) ∧ ga = gb ∧ turnL (besF l m) l = m)) := by
    show _ ↔ _
    rw [hr]; unfold AlikeC; rw [hla, hlb]
  have HA0 : Hid (AlB w ((w.alloc (.cells #[.int .u32 ga, .int .u32 ba, .slice aa na ca] 25)).alloc (.cells #[.int .u32 gb, .int .u32 bb, .slice ab nb cb] 25)) ga ba gb bb aa ab na nb ca cb) := by
    refine ⟨?_, ?_, ((Below.refl _ w).alloc (Nat.le_refl _) _).alloc (by simp) _⟩
    · rw [Below.heap_alloc _ _ _ (by simp)]; exact heap_alloc_new _ _
    · have := heap_alloc_new (w.alloc (.cells #[.int .u32 ga, .int .u32 ba, .slice aa na ca] 25)) (.cells #[.int .u32 gb, .int .u32 bb, .slice ab nb cb] 25); simpa using this
  clear hr hva hvb hoa hob hla hlb
  generalize (shapeE ba l).1 = E1 at *
  generalize (shapeE ba l).2 = F1 at *
  generalize (shapeE bb m).1 = E2 at *
  generalize (shapeE bb m).2 = F2 at *
  have h1 := HSA.out _ HA0.out.bel
  unfold modV at *
  have HNI : Hid ((na : Int) < 140737488351232 ∧ (nb : Int) < 140737488351232) := ⟨by omega, by omega⟩
  have hF := fun x y wx => field_zeroL x y wx
  go_enter Try.func6, Try.ntmps6
  go_wp2_with fail
  generalize (w.alloc (.cells #[.int .u32 ga, .int .u32 ba, .slice aa na ca] 25)).alloc (.cells #[.int .u32 gb, .int .u32 bb, .slice ab nb cb] 25) = W0 at *
  refine h1.mono ?_
  rintro e w1 ⟨rfl, hb1⟩
  have HA1 := hide (HA0.out.below hb1)
  clear h1 hb1 HA0
  by_cases hE1 : E1 = 0
  · subst hE1
    obtain ⟨bq, _⟩ := one_block HA1.out.bbox
    have b0 := bq 0
    have b1 := bq 1
    have b2 := bq 2
    have h2 := HSB.out _ HA1.out.bel
    clear bq
    go_wp2_with fail
    refine h2.mono ?_
    rintro e w2 ⟨rfl, hb2⟩
    have HA2 := hide (HA1.out.below hb2)
    clear h2 hb2 HA1 b0 b1 b2
    by_cases hE2 : E2 = 0
    · subst hE2
      obtain ⟨aq, _⟩ := one_block HA2.out.abox
      have a0 := aq 0
      have a1 := aq 1
      have a2 := aq 2
      obtain ⟨bq, _⟩ := one_block HA2.out.bbox
      have b0 := bq 0
      have b1 := bq 1
      have b2 := bq 2
      have hni := HNI.out
      obtain ⟨hn1, hn2⟩ := hni
      clear aq bq
      by_cases hN : na = nb
      · have HNE := hide hN
        have hnn : ((na : Int) != (nb : Int)) = false := by rw [hN]; simp
        have h3 := HPO.out _ HA2.out.bel (by first | rfl | trivial) (by first | rfl | trivial) hN
        clear hN
        go_wp2_with fail
        refine h3.mono ?_
        rintro e w3 ⟨v, q, rfl, hq1, hq2, hq3, hb3⟩
        have HA3 := hide (HA2.out.below hb3)
        have HQ1 := hide hq1
        clear h3 hb3 HA2 a0 a1 a2 b0 b1 b2 hq1
        cases q with
        | false =>
          obtain rfl := hq3 rfl
          clear hq2 hq3
          have HRF : Hid (r = false) := by
            cases r with
            | false => rfl
            | true => have := HQ1.out.2 (HR0.out.1 rfl).2.2.2.1; cases this
          have HBE := hide (HA3.out.bel.alloc HA3.out.bel.size (.cells #[.map none, .map none] 48))
          go_wp2_with fail
          go_ret
          exact ⟨by rw [HRF.out]; rfl, HBE.out⟩
        | true =>
          obtain ⟨T, K, rfl, hM⟩ := hq2 rfl
          have HPM := hide hM
          clear hq2 hq3 hM
          have hba : Below w3.heap.size w3 (w3.alloc (.cells #[.map (some T), .map (some K)] 48)) := (Below.refl _ w3).alloc (Nat.le_refl _) _
          have HA4 := hide (HA3.out.below hba)
          have HP4 := hide (heap_alloc_new w3 (.cells #[.map (some T), .map (some K)] 48))
          have HM4 := hide (HPM.out.below hba)
          clear hba
          go_wp2_with fail
          generalize w3.alloc (.cells #[.map (some T), .map (some K)] 48) = W4 at *
          have LC : Hid (∀ w', Below W4.heap.size W4 w' → w'.cell? ⟨w.heap.size, 0, none⟩ = some (.int .u32 ga) ∧ w'.cell? ⟨w.heap.size, 1, none⟩ = some (.int .u32 ba) ∧ w'.cell? ⟨w.heap.size, 2, none⟩ = some (.slice aa na ca) ∧ w'.cell? ⟨w.heap.size + 1, 0, none⟩ = some (.int .u32 gb) ∧ w'.cell? ⟨w.heap.size + 1, 1, none⟩ = some (.int .u32 bb) ∧ w'.cell? ⟨w.heap.size + 1, 2, none⟩ = some (.slice ab nb cb)) := fun w' h => by
            have hh := HA4.out.below h
            exact ⟨(one_block hh.abox).1 0, (one_block hh.abox).1 1, (one_block hh.abox).1 2, (one_block hh.bbox).1 0, (one_block hh.bbox).1 1, (one_block hh.bbox).1 2⟩
          have hC0 : Below W4.heap.size W4 W4.drew := below_drew W4
          have hmix : Try.prog.follows .mixedOrders = true := by kernel_rfl
          refine (wpIn_wide (n := 0)).1 ?_
          refine wpIn_normal (wpIn_region_any hmix (wpAnyE_sound (C := Below W4.heap.size W4) (E := fun _ => false) _ _ _ _ ?_))
          change wpAnyE _ _ _ _ _ _ _ _ _ _ _ (World.drew _)
          refine wpAnyE_takeD (i := 0) (some 36) (v := (.agg #[.int .u32 ga, .int .u32 ba, .slice aa na ca])) (fun _ => trivial) (by kernel_rfl) rfl rfl (by kernel_rfl) (by kernel_rfl) (by kernel_rfl) (by kernel_rfl) (fun _ _ _ h => by cases h.1) hC0 (Or.inl ⟨by rfl, fun w' hC => by obtain ⟨e1, e2, e3, e4, e5, e6⟩ := LC.out w' hC; clear hC; go_simp⟩) ?_
          simp only [Act.put, List.setIfInBounds_toArray, List.set_cons_succ, List.set_cons_zero]
          refine wpAnyE_takeD (i := 1) (some 37) (v := (.pointer (some ⟨w.heap.size + 1, 1, none⟩))) (fun _ => trivial) (by kernel_rfl) rfl rfl (by kernel_rfl) (by kernel_rfl) (by kernel_rfl) (by kernel_rfl) (fun _ _ _ h => by cases h.1) hC0 (Or.inl ⟨by rfl, fun w' hC => by obtain ⟨e1, e2, e3, e4, e5, e6⟩ := LC.out w' hC; clear hC; go_simp⟩) ?_
          simp only [Act.put, List.setIfInBounds_toArray, List.set_cons_succ, List.set_cons_zero]
          refine wpAnyE_takeD (i := 2) (some 38) (v := (.int .u32 bb)) (fun _ => trivial) (by kernel_rfl) rfl rfl (by kernel_rfl) (by kernel_rfl) (by kernel_rfl) (by kernel_rfl) (fun _ _ _ h => by cases h.1) hC0 (Or.inl ⟨by rfl, fun w' hC => by obtain ⟨e1, e2, e3, e4, e5, e6⟩ := LC.out w' hC; clear hC; go_simp⟩) ?_
          simp only [Act.put, List.setIfInBounds_toArray, List.set_cons_succ, List.set_cons_zero]
          refine wpAnyE_takeD (i := 3) (some 39) (v := (.func (.func 20) #[] #[.pointer (some ⟨w3.heap.size, 0, none⟩)])) (fun _ => trivial) (by kernel_rfl) rfl rfl (by kernel_rfl) (by kernel_rfl) (by kernel_rfl) (by kernel_rfl) (fun _ _ _ h => by cases h.1) hC0 (Or.inl ⟨by rfl, fun w' hC => by obtain ⟨e1, e2, e3, e4, e5, e6⟩ := LC.out w' hC; clear hC; go_simp⟩) ?_
          simp only [Act.put, List.setIfInBounds_toArray, List.set_cons_succ, List.set_cons_zero]
          refine wpAnyE_takeD (i := 5) (some 41) (v := (.agg #[.int .u32 gb, .int .u32 bb, .slice ab nb cb])) (fun _ => trivial) (by kernel_rfl) rfl rfl (by kernel_rfl) (by kernel_rfl) (by kernel_rfl) (by kernel_rfl) (fun _ _ _ h => by cases h.1) hC0 (Or.inl ⟨by rfl, fun w' hC => by obtain ⟨e1, e2, e3, e4, e5, e6⟩ := LC.out w' hC; clear hC; go_simp⟩) ?_
          simp only [Act.put, List.setIfInBounds_toArray, List.set_cons_succ, List.set_cons_zero]
          refine wpAnyE_ready (rs := [4]) (by kernel_rfl) (by simp) ?_
          refine AllE.cons rfl (fun Kk hK => ?_) AllE.nil
          go_simp
          refine ⟨trivial, rfl, (callsIn_wide.2 (HWI.out W4.drew w3.heap.size T K HA4.out.bel.drew (by first | rfl | trivial) HP4.out (HM4.out.below (below_drew W4)))).mono ?_⟩
          rintro e w5 ⟨g, rfl, hg, hrow, hb5⟩
          dsimp only
          have hC5 : Below W4.heap.size W4 w5 := (below_drew W4).trans (show Below W4.heap.size W4.drew w5 from hb5)
          refine hK _ _ (.inr hC5) ?_
          clear hK Kk
          have hS := same_any ga bb gb bb (turnL (besF l m) l) m (some ⟨g, 0, none⟩) ab na nb na cb w5 (hrow.view (by rw [turnL, List.length_map, HLA.out])) (HVB.out.below (HA4.out.below hC5).bel) (by rw [turnL, List.length_map, HLA.out]) HLB.out (HRG.out (by first | rfl | trivial) HNE.out) HOB.out (by omega) (by omega) r (by
            have h := HR0.out
            have hq := HQ1.out
            constructor
            · intro hr
              have h := h.1 hr
              exact ⟨h.2.2.2.2.1, rfl, h.2.2.2.2.2⟩
            · rintro ⟨h1, _, h2⟩
              exact h.2 ⟨by first | rfl | trivial, by first | rfl | trivial, HNE.out, hq.1 (by first | rfl | trivial), h1, h2⟩)
          unfold modV at hS
          have HS := hide hS
          clear hS
          refine wpAnyE_ready (rs := [6]) (by kernel_rfl) (by simp) ?_
          refine AllE.cons rfl (fun Kk hK => ?_) AllE.nil
          go_simp
          refine ⟨trivial, rfl, (callsIn_wide.2 HS.out).mono ?_⟩
          rintro e w6 ⟨rfl, hb6⟩
          dsimp only
          have hC6 : Below W4.heap.size W4 w6 := hC5.trans (hb6.mono hC5.size)
          refine hK _ _ (.inr hC6) ?_
          clear hK Kk
          refine wpAnyE_ready (rs := [7]) (by kernel_rfl) (by simp) ?_
          refine AllE.cons rfl (fun Kk hK => ?_) AllE.nil
          go_simp
          refine hK _ _ (.inr hC6) ?_
          clear hK Kk
          refine wpAnyE_done (by kernel_rfl) ⟨rfl, ?_⟩ _
          have HBE := hide (HA4.out.below hC6).bel
          clear hC0 hC5 hC6 hb5 hb6 hrow LC HS HWI
          rw [then_normalP]
          go_wp2_with fail
          go_ret
          exact ⟨rfl, HBE.out⟩
      · have hnn : ((na : Int) != (nb : Int)) = true := by simp; omega
        have HRF : Hid (r = false) := by
          cases r with
          | false => rfl
          | true => exact absurd (HR0.out.1 rfl).2.2.1 hN
        have HBE := hide HA2.out.bel
        clear hN
        go_wp2_with fail
        go_ret
        exact ⟨by rw [HRF.out]; rfl, HBE.out⟩
    · have hE2' : (E2 != 0) = true := by simpa using hE2
      have HRF : Hid (r = false) := by
        cases r with
        | false => rfl
        | true => exact absurd (HR0.out.1 rfl).2.1 hE2
      have HBE := hide HA2.out.bel
      clear hE2
      go_wp2_with fail
      go_ret
      exact ⟨by rw [HRF.out]; rfl, HBE.out⟩
  · have hE1' : (E1 != 0) = true := by simpa using hE1
    have HRF : Hid (r = false) := by
      cases r with
      | false => rfl
      | true => exact absurd (HR0.out.1 rfl).1 hE1
    have HBE := hide HA1.out.bel
    clear hE1
    go_wp2_with fail
    go_ret
    exact ⟨by rw [HRF.out]; rfl, HBE.out⟩

end Go.Proofs.Ytjckgnpbjekhbaa

/-
  Made of the package ids.
-/
namespace Go.Proofs.Ytjckgnpbjekhbaa
open Go.RowKit Go.Maps
set_option linter.unusedVariables false
set_option linter.unusedSimpArgs false
set_option maxRecDepth 10000

/-- By ids, the places at which they are made. -/
def madeZ (l : List InstT) (N : Nat) : List Int := (List.range N).map fun (id : Nat) => makV l l.length (id : Int)
def madeL (b : Int) (l : List InstT) : List Int := if (shapeE b l).1 = 0 then madeZ l b.toNat else []
theorem madeZ_len (l : List InstT) (N : Nat) : (madeZ l N).length = N := by simp [madeZ]
theorem madeZ_at (l : List InstT) (N k : Nat) (h : k < N) : nth (madeZ l N) k = makV l l.length (k : Int) := by simp [nth, madeZ, List.getD, h]
theorem shape_maxU {b : Int} {l : List InstT} (h : (shapeE b l).1 = 0) : b ≠ 0 ∧ b ≤ 65536 := by
  unfold shapeE at h
  split at h
  · cases h
  · omega

set_option maxHeartbeats 8000000 in
theorem idsMade_any (gen bnd : Int) (a : Option Addr) (n c : Nat) (l : List InstT) (w : World) (hv : InstsV w a l) (hok : InstsOk l) (hl : l.length = n) (hn : 40 * n ≤ 140737488351232) (g0 : 0 ≤ gen) (g1 : gen < 4294967296) (b0 : 0 ≤ bnd) (b1 : bnd < 4294967296) :
    Calls Try.prog 15 #[modV gen bnd a n c] w fun e w' => UsesQ w w' (madeL bnd l) (shapeE bnd l) e := by
  obtain ⟨i0, hi, hz0, hz1, hz2⟩ := info_parts IntsU.info
  have HI : Hid (Try.prog.info? 3 = some i0 ∧ i0.zero = some (.int .i64 0) ∧ i0.size = 1 ∧ i0.bytes = 8) := ⟨hi, hz0, hz1, hz2⟩
  clear hi hz0 hz1 hz2
  have hb0 : Below w.heap.size w ((w.alloc (.cells #[.int .u32 gen, .int .u32 bnd, .slice a n c] 25)).alloc (.cells #[.int .i64 0, .int .i64 0] 31)) := ((Below.refl _ w).alloc (Nat.le_refl _) _).alloc (by simp) _
  have hSh := codeShape_any gen bnd a n c l _ g0 g1 b0 b1 (hv.below hb0) hok hl hn
  have k0 : ((w.alloc (.cells #[.int .u32 gen, .int .u32 bnd, .slice a n c] 25)).alloc (.cells #[.int .i64 0, .int .i64 0] 31)).heap[w.heap.size]? = some (.cells #[.int .u32 gen, .int .u32 bnd, .slice a n c] 25 (0, 0)) := by rw [Below.heap_alloc _ _ _ (by simp)]; exact heap_alloc_new _ _
  have k1 : ((w.alloc (.cells #[.int .u32 gen, .int .u32 bnd, .slice a n c] 25)).alloc (.cells #[.int .i64 0, .int .i64 0] 31)).heap[w.heap.size + 1]? = some (.cells #[.int .i64 0, .int .i64 0] 31 (0, 0)) := by have := heap_alloc_new (w.alloc (.cells #[.int .u32 gen, .int .u32 bnd, .slice a n c] 25)) (.cells #[.int .i64 0, .int .i64 0] 31); simpa using this
  have HS1 := hide (And.intro k0 k1)
  have hs1 : ((w.alloc (.cells #[.int .u32 gen, .int .u32 bnd, .slice a n c] 25)).alloc (.cells #[.int .i64 0, .int .i64 0] 31)).heap.size = w.heap.size + 2 := by simp
  have HZ := hide hs1
  have HB0 := hide hb0
  have HV := hide hv
  have HOK := hide hok
  have HL := hide hl
  have HN : Hid (40 * n ≤ 140737488351232) := hn
  unfold madeL
  rcases shapeE_any bnd l with hE | hE
  · rw [if_pos (by rw [hE]), hE]
    have hbm := shape_maxU (b := bnd) (l := l) (by rw [hE])
    obtain ⟨N, rfl⟩ : ∃ N : Nat, bnd = (N : Int) := ⟨bnd.toNat, by omega⟩
    rw [show ((N : Int).toNat) = N from rfl]
    have hN1 : N ≤ 65536 := by omega
    have HZL := hide (madeZ_len l N)
    have HZA : Hid (∀ k, k < N → nth (madeZ l N) k = makV l n (k : Int)) := fun k hk => by rw [madeZ_at l N k hk, hl]
    generalize madeZ l N = zs at *
    rw [hE] at hSh
    unfold modV at *
    clear hE hb0 hv hok hl k0 k1 hs1 hn hbm
    go_enter Try.func15, Try.ntmps15
    go_wp2_with fail
    generalize (w.alloc (.cells #[.int .u32 gen, .int .u32 (N : Int), .slice a n c] 25)).alloc (.cells #[.int .i64 0, .int .i64 0] 31) = W0 at *
    refine hSh.mono ?_
    rintro e w1 ⟨rfl, hb1⟩
    have hba : Below w1.heap.size w1 (w1.alloc (.cells #[.int .i64 0, .int .i64 0] 31)) := (Below.refl _ w1).alloc (Nat.le_refl _) _
    have hbx := hb1.trans (hba.mono hb1.size)
    have q0 := (hbx.block _ (by rw [HZ.out]; omega)).trans HS1.out.1
    have q1 := (hbx.block _ (by rw [HZ.out]; omega)).trans HS1.out.2
    have HQ := hide (And.intro q0 q1)
    have HBX := hide (HB0.out.trans (hbx.mono HB0.out.size))
    have HW1 : Hid (w.heap.size + 2 ≤ w1.heap.size) := by show _ ≤ _; rw [← HZ.out]; exact hb1.size
    have HT := hide (heap_alloc_new w1 (.cells #[.int .i64 0, .int .i64 0] 31))
    clear hSh hb1 hba hbx q0 q1 HS1 HB0
    have m1 := (one_block HQ.out.1).1 1
    have m2 := (one_block HQ.out.1).1 2
    have hMk := makersOf_any a n c l _ (HV.out.below HBX.out) HOK.out HL.out HN.out
    go_wp2_with fail
    generalize w1.alloc (.cells #[.int .i64 0, .int .i64 0] 31) = W1 at *
    generalize w1.heap.size = B at *
    refine hMk.mono ?_
    rintro e w2 ⟨mb, rfl, hmb, hM, hb2⟩
    have HLS : Hid (w.heap.size + 1 < W1.heap.size) := (Array.getElem?_eq_some_iff.1 HQ.out.2).1
    have HQ2 := hide (And.intro ((hb2.block _ (Nat.lt_of_succ_lt HLS.out)).trans HQ.out.1) ((hb2.block _ HLS.out).trans HQ.out.2))
    have HM := hide hM
    have HBX2 := hide (HBX.out.trans (hb2.mono HBX.out.size))
    have HS2 : Hid (w.heap.size + 1 < w2.heap.size) := Nat.lt_of_lt_of_le HLS.out hb2.size
    have m1' := (one_block HQ2.out.1).1 1
    have HTT := hide Try.underlying66
    have HTE := hide Try.underlying3
    clear hMk hM hb2 HQ HBX m1 m2 HT
    go_wp2_with (at_make; refine wpList_make_full _ rfl _ _ 43 rfl w2.heap.size 3 i0 (.int .i64 0) 1 Try.underlying43 HI.out.1 HI.out.2.1 HI.out.2.2.1 _ _ _ _ N rfl rfl (by omega) (by omega) (by rw [HI.out.2.2.2]; omega) (by unfold maxLen; omega) (Nat.le_refl _) ?_)
    intro w3 hown3 hgrow3
    have hb3 : Below w2.heap.size w2 w3 := (Below.refl _ w2).grown hgrow3 (Nat.le_refl _) (by simp)
    have HR3 := hide (made_row zs hown3)
    have HB3 := hide hb3
    clear hown3 hgrow3 hb3 m1'
    go_wp2_with fail
    go_loopw [24] (fun i wr => ∃ k : Nat, k ≤ N ∧ i = .int .i64 k ∧ wr.ownsRow w2.heap.size 3 1 (.slice (some ⟨w2.heap.size, 0, none⟩) N N) N ((filled zs k N).map (Value.int .i64)) ∧ Below w2.heap.size w2 wr) (fun i _ => N - (intOf i).toNat)
    case atStart => exact ⟨0, Nat.zero_le _, rfl, HR3.out, HB3.out⟩
    case round =>
      obtain ⟨k, hk, rfl, hO, hB⟩ := hrel
      clear HR3 HB3
      by_cases hlt : k < N
      · have hki : (k : Int) < (N : Int) := by omega
        have hk0 : (0 : Int) ≤ (k : Int) := by omega
        have hwr : IntKind.u32.wrap (k : Int) = (k : Int) := by rw [IntKind.wrap_u32]; omega
        have hzk := HZA.out k hlt
        have hzl : k < zs.length := by rw [HZL.out]; exact hlt
        obtain ⟨d1, d2, d3⟩ := fill_step hO hlt hzl
        have hst := (hO.stored k (.int .i64 (-1))).1
        have e1 := hst.cellAt k (by omega)
        have e2 : (wr.setCell ⟨w2.heap.size, k, none⟩ (.int .i64 (-1))).frozen? ⟨w2.heap.size, k, none⟩ = false := hst.frozenAt k
        have hbel1 := hB.setCell (p := ⟨w2.heap.size, k, none⟩) (Nat.le_refl _) (.int .i64 (-1))
        have HMk := hide (HM.out.below hbel1)
        have hst2 := fun v => (hst.stored k (.int .i64 v)).1
        have HD3 := hide d3
        have HST := hide hst
        have HST2 := hide hst2
        have HFS : Hid (((filled zs k N).set k (nth zs k)).map (Value.int .i64) = (filled zs (k + 1) N).map (Value.int .i64)) := by show _ = _; rw [filled_set zs k N hlt hzl]
        have HBE := hide hB
        have e1' : (wr.setCell ⟨w2.heap.size, k, none⟩ (.int .i64 (-1))).cell? ⟨w2.heap.size, k, none⟩ = some (.int .i64 (-1)) := by rw [e1]; exact List.getElem?_set_self (by rw [List.length_map, filled_len zs k N (by omega) (by omega)]; exact hlt)
        unfold makV at hzk
        by_cases hs : (makT l n (k : Int)).isSome = true
        · obtain ⟨p, hp⟩ := Option.isSome_iff_exists.1 hs
          rw [hp] at hzk
          simp only [Option.getD_some] at hzk
          have HRW : Hid (((wr.setCell ⟨w2.heap.size, k, none⟩ (.int .i64 (-1))).setCell ⟨w2.heap.size, k, none⟩ (.int .i64 p)).ownsRow w2.heap.size 3 1 (.slice (some ⟨w2.heap.size, 0, none⟩) N N) N ((filled zs (k + 1) N).map (Value.int .i64))) := by
            have h := HST2.out p
            rw [List.set_set, ← List.map_set, ← hzk, HFS.out] at h
            rw [← hzk]; exact h
          clear d3 hst hst2 hO hB hbel1 e1 hs hzk HFS HST HST2
          go_wp2_with (at_lookup; refine wpList_lookU_ok rfl _ _ 66 rfl 3 .i64 HTT.out HTE.out (zeroI64 _) mb n (makT l n) rfl HMk.out (k : Int) (by first | rfl | simp [hwr]) (by omega) (by omega) ?_; rw [hp, Option.getD_some, Option.isSome_some])
          go_roundw
          case rel => exact ⟨k + 1, by omega, by go_num, HRW.out, (HBE.out.setCell (p := ⟨w2.heap.size, k, none⟩) (Nat.le_refl _) _).setCell (p := ⟨w2.heap.size, k, none⟩) (Nat.le_refl _) _⟩
          case measure => simp [intOf]; omega
        · have hn' : makT l n (k : Int) = none := by simpa using hs
          rw [hn'] at hzk
          simp only [Option.getD_none] at hzk
          have HRW : Hid ((wr.setCell ⟨w2.heap.size, k, none⟩ (.int .i64 (-1))).ownsRow w2.heap.size 3 1 (.slice (some ⟨w2.heap.size, 0, none⟩) N N) N ((filled zs (k + 1) N).map (Value.int .i64))) := by
            have h := HST.out
            rw [← List.map_set, ← hzk, HFS.out] at h
            rw [← hzk]; exact h
          clear d3 hst hst2 hO hB hbel1 e1 hs hzk HFS HST HST2
          go_wp2_with (at_lookup; refine wpList_lookU_ok rfl _ _ 66 rfl 3 .i64 HTT.out HTE.out (zeroI64 _) mb n (makT l n) rfl HMk.out (k : Int) (by first | rfl | simp [hwr]) (by omega) (by omega) ?_; rw [hn', Option.getD_none, Option.isSome_none])
          go_roundw
          case rel => exact ⟨k + 1, by omega, by go_num, HRW.out, HBE.out.setCell (p := ⟨w2.heap.size, k, none⟩) (Nat.le_refl _) _⟩
          case measure => simp [intOf]; omega
      · obtain rfl : k = N := by omega
        have hq := (hB.block (w.heap.size + 1) HS2.out).trans HQ2.out.2
        obtain ⟨d0, d1, dF⟩ := cell_of_two hq
        have f0 : wr.frozen? ⟨w.heap.size + 1, 0, none⟩ = false := by simp [World.frozen?, hq]
        rw [filled_whole zs k HZL.out] at hO
        have HK2 := hide (two_put2 hq (.int .i64 0) (.int .i64 0))
        have HVX := hide (View.ofOwn (ownsRow_setCell_below (ownsRow_setCell_below hO (a := ⟨w.heap.size + 1, 0, none⟩) (by simp; have := HS2.out; omega) (.int .i64 0)) (a := ⟨w.heap.size + 1, 1, none⟩) (by simp; have := HS2.out; omega) (.int .i64 0)) HZL.out)
        have hbw : Below w.heap.size w wr := HBX2.out.trans (hB.mono HBX2.out.size)
        have HBX3 := hide ((hbw.setCell (p := ⟨w.heap.size + 1, 0, none⟩) (by simp) (.int .i64 0)).setCell (p := ⟨w.heap.size + 1, 1, none⟩) (by simp) (.int .i64 0))
        clear hq hO hB hbw
        go_wp2_with fail
        generalize (wr.setCell ⟨w.heap.size + 1, 0, none⟩ (.int .i64 0)).setCell ⟨w.heap.size + 1, 1, none⟩ (.int .i64 0) = Y at *
        obtain ⟨r0, r1, _⟩ := cell_of_two HK2.out
        refine bodyPost_ret (v := .tuple #[.slice (some ⟨w2.heap.size, 0, none⟩) k k, .agg #[.int .i64 0, .int .i64 0]]) (by simp [results, Try.results15, go_sem, r0, r1]) rfl ?_
        exact ⟨_, k, k, by simp, HZL.out, HVX.out, HBX3.out⟩

  · rw [if_neg hE]
    generalize shapeE bnd l = E at *
    obtain ⟨E1, E2⟩ := E
    simp only at hE hSh
    have hE' : (E1 != 0) = true := by simpa using hE
    unfold modV at *
    clear hb0 hv hok hl k0 k1 hs1 hn hE
    go_enter Try.func15, Try.ntmps15
    go_wp2_with fail
    generalize (w.alloc (.cells #[.int .u32 gen, .int .u32 bnd, .slice a n c] 25)).alloc (.cells #[.int .i64 0, .int .i64 0] 31) = W0 at *
    refine hSh.mono ?_
    rintro e w1 ⟨rfl, hb1⟩
    have hba : Below w1.heap.size w1 (w1.alloc (.cells #[.int .i64 E1, .int .i64 E2] 31)) := (Below.refl _ w1).alloc (Nat.le_refl _) _
    have hbx := hb1.trans (hba.mono hb1.size)
    have q1 := (hbx.block _ (by rw [HZ.out]; omega)).trans HS1.out.2
    have HBX := hide (HB0.out.trans (hbx.mono HB0.out.size))
    have HW1 : Hid (w.heap.size + 2 ≤ w1.heap.size) := by show _ ≤ _; rw [← HZ.out]; exact hb1.size
    have HT := hide (heap_alloc_new w1 (.cells #[.int .i64 E1, .int .i64 E2] 31))
    have HQ := hide q1
    clear hSh hb1 hba hbx q1 HS1 HB0
    go_wp2_with fail
    generalize w1.alloc (.cells #[.int .i64 E1, .int .i64 E2] 31) = W1 at *
    generalize w1.heap.size = B at *
    obtain ⟨t0, t1, _⟩ := cell_of_two HT.out
    obtain ⟨d0, d1, dF⟩ := cell_of_two HQ.out
    have f0 : W1.frozen? ⟨w.heap.size + 1, 0, none⟩ = false := by simp [World.frozen?, HQ.out]
    have hne : B ≠ w.heap.size + 1 := by have := HW1.out; omega
    refine wp_norm ?_
    go_region
    all_goals
      rw [onNormal_normal]
      go_wp2_with fail
      have k2 := two_put2 HQ.out (.int .i64 E1) (.int .i64 E2)
      have hb2 := (HBX.out.setCell (p := ⟨w.heap.size + 1, 0, none⟩) (by simp) (.int .i64 E1)).setCell (p := ⟨w.heap.size + 1, 1, none⟩) (by simp) (.int .i64 E2)
      obtain ⟨r0, r1, _⟩ := cell_of_two k2
      refine bodyPost_ret (v := .tuple #[.slice none 0 0, .agg #[.int .i64 E1, .int .i64 E2]]) (by first | (simp [results, Try.results15, go_sem, r0, r1]; done) | (simp [results, Try.results15, go_sem, World.drew] at *; simp [r0, r1])) rfl ?_
      exact ⟨none, 0, 0, by simp, rfl, fun j hj => by simp at hj, by first | exact hb2 | exact hb2.drew⟩

end Go.Proofs.Ytjckgnpbjekhbaa

/-
  A module with other ids: its shape, its order, what is wrong with its ids, that it is alike, how it is numbered: in plain mathematics.
-/
namespace Go.Proofs.Ytjckgnpbjekhbaa
open Go.RowKit
set_option linter.unusedVariables false
set_option linter.unusedSimpArgs false
set_option maxRecDepth 10000

/-- An id that stands in l. -/
def Occ (l : List InstT) (id : Int) : Prop := ∃ k, k < l.length ∧ id ∈ allI (nthI l k)
/-- Other ids, below b, one to one. -/
structure WayF (l : List InstT) (b : Int) (f : Int → Int) : Prop where
  inb : ∀ i, Occ l i → InB b (f i)
  inj : ∀ i j, Occ l i → Occ l j → f i = f j → i = j
theorem nthA_mapB {g : ArgT → ArgT} {l : List ArgT} {j : Nat} (h : j < l.length) : nthA (l.map g) j = g (nthA l j) := by simp [nthA, List.getD, h]
theorem allI_type {x : InstT} (h : x.2.1 ≠ 0) : x.2.1 ∈ allI x := by
  unfold allI idsI idsTo
  simp [h]
theorem allI_res {x : InstT} (h : x.2.2.1 ≠ 0) : x.2.2.1 ∈ allI x := by
  unfold allI
  simp [h]
theorem idsI_arg {x : InstT} {j : Nat} (hj : j < x.2.2.2.length) (h : (nthA x.2.2.2 j).1 = 1) : (nthA x.2.2.2 j).2.1 ∈ idsI x := by
  unfold idsI idsTo
  rw [List.take_length]
  refine List.mem_append_right _ (List.mem_flatMap.2 ⟨nthA x.2.2.2 j, ?_, by simp [idsA, h]⟩)
  rw [nthA_lt _ _ hj]; exact List.getElem_mem hj
theorem allI_arg {x : InstT} {j : Nat} (hj : j < x.2.2.2.length) (h : (nthA x.2.2.2 j).1 = 1) : (nthA x.2.2.2 j).2.1 ∈ allI x := List.mem_append_left _ (idsI_arg hj h)

theorem idE_turn {must : Bool} {n b b' e : Int} {f : Int → Int} (he : e ≠ 0) (h : idE must n b e = 0) (hf : n ≠ 0 → InB b' (f n)) : idE must (tN f n) b' e = 0 := by
  unfold idE at h ⊢
  by_cases hn : n = 0
  · subst hn
    have e0 : tN f 0 = 0 := rfl
    rw [e0]
    cases must
    · rfl
    · exact absurd h he
  · have hI := hf hn
    have e0 : tN f n = f n := by unfold tN; rw [if_neg hn]
    rw [e0]
    have h1 : f n ≠ 0 := by have := hI.1; omega
    have h2 : ¬ b' ≤ f n := by have := hI.2; omega
    cases must
    · simp [hn] at h; exact absurd h he
    · simp [h1, h2]
theorem wrongA_turn {c : Int} {x : ArgT} {b b' : Int} {f : Int → Int} (h : wrongA c x b = 0) (hf : x.1 = 1 → InB b' (f x.2.1)) : wrongA c (tA f x) b' = 0 := by
  have hk := wrongA_kind h
  by_cases h1 : x.1 = 1
  · have hI := hf h1
    have e0 : tA f x = (x.1, f x.2.1, x.2.2) := by unfold tA; rw [if_pos h1]
    rw [e0]
    unfold wrongA at h ⊢
    have hm : mayStandB c (x.1, f x.2.1, x.2.2) = mayStandB c x := by unfold mayStandB; rw [h1]; rfl
    rw [hm]
    split at h
    · cases h
    · next h2 =>
      rw [if_neg h2]
      simp only
      rw [if_neg (by rw [h1]; decide)]
      unfold faultW
      rw [if_pos (by rw [← hk.2]; exact h1), if_neg]
      unfold noneB
      have := hI.1
      have := hI.2
      simp; omega
  · have e0 : tA f x = x := by unfold tA; rw [if_neg h1]
    rw [e0]
    unfold wrongA at h ⊢
    split at h
    · cases h
    · next h2 =>
      rw [if_neg h2]
      split at h
      · next h3 => rw [if_pos h3]; exact h
      · next h3 =>
        rw [if_neg h3]
        unfold faultW at h ⊢
        have hn1 : ¬ kindI c = 1 := by rw [← hk.2]; exact h1
        rw [if_neg hn1] at h ⊢
        exact h
theorem wordsA_turn {f : Int → Int} (x : ArgT) : (wordsA (tA f x)).length = (wordsA x).length := by
  rw [wordsA_len, wordsA_len]
  unfold tA
  split <;> rfl
theorem wordsL_turn {f : Int → Int} : ∀ (l : List ArgT), (wordsL (l.map (tA f))).length = (wordsL l).length
  | [] => rfl
  | x :: l => by
    have ih := wordsL_turn (f := f) l
    unfold wordsL at *
    rw [List.map_cons, List.flatMap_cons, List.flatMap_cons, List.length_append, List.length_append, ih, wordsA_turn]
theorem rawL_turn {f : Int → Int} (F : Frm) (x : InstT) : (rawL F (turnX f x)).length = (rawL F x).length := by
  unfold rawL headW turnX
  simp only [List.length_append]
  rw [wordsL_turn]
  congr 1
  cases F.2.1 <;> cases F.2.2.1 <;> rfl
/-- An instruction that can be written can be written with other ids. -/
theorem raw_turn {f : Int → Int} {x : InstT} {b b' : Int} (h : rawE x b = 0) (hi : ∀ i ∈ allI x, InB b' (f i)) : rawE (turnX f x) b' = 0 ∧ (rawWs (turnX f x) b').length = (rawWs x b).length := by
  obtain ⟨h1, h2, h3⟩ := rawWs_ok h
  obtain ⟨i1, i2, i3, i4, i5⟩ := faultI_zero h2
  have e0 : rawE (turnX f x) b' = 0 := by
    unfold rawE
    show (if (lookF refT x.1).2 = true then faultI (lookF refT x.1).1 (turnX f x) b' else 30) = 0
    rw [if_pos h1]
    have j1 : idE (lookF refT x.1).1.2.1 (turnX f x).2.1 b' 40 = 0 := idE_turn (by decide) i1 (fun hn => hi _ (allI_type hn))
    have j2 : idE (lookF refT x.1).1.2.2.1 (turnX f x).2.2.1 b' 41 = 0 := idE_turn (by decide) i2 (fun hn => hi _ (allI_res hn))
    have j3 : wrongL (lookF refT x.1).1 b' 0 (turnX f x).2.2.2 = 0 := by
      refine wrongL_none fun j hj => ?_
      have hj' : j < x.2.2.2.length := by simpa [turnX] using hj
      have := wrongL_zero i3 j hj'
      show wrongA _ (nthA (x.2.2.2.map (tA f)) j) b' = 0
      rw [nthA_mapB hj']
      exact wrongA_turn this (fun hk => hi _ (allI_arg hj' hk))
    have j4 : wholeN (lookF refT x.1).1 (turnX f x).2.2.2.length = true := by
      have e : (turnX f x).2.2.2.length = x.2.2.2.length := by simp [turnX]
      rw [e]; exact i4
    have j5 : 1 + (rawL (lookF refT x.1).1 (turnX f x)).length ≤ 65535 := by rw [rawL_turn]; exact i5
    unfold faultI
    rw [if_neg (by rw [j1]; simp), if_neg (by rw [j2]; simp), if_neg (by rw [j3]; simp), if_neg (by rw [j4]; simp), if_neg (by omega)]
  refine ⟨e0, ?_⟩
  rw [h3, (rawWs_ok e0).2.2]
  exact rawL_turn _ x

theorem shapeF_turn {f : Int → Int} {b b' : Int} : ∀ (l : List InstT) (k c : Nat), (∀ x ∈ l, ∀ i ∈ allI x, InB b' (f i)) → (shapeF b k c l).1 = 0 → shapeF b' k c (turnL f l) = (0, 0)
  | [], _, _, _, _ => rfl
  | x :: l, k, c, hi, h => by
    rw [shapeF] at h
    by_cases h1 : rawE x b = 0
    · rw [if_neg (by rw [h1]; simp)] at h
      obtain ⟨r1, r2⟩ := raw_turn (f := f) (b' := b') h1 (hi x (by simp))
      by_cases h2 : 1048576 < c + 1 + (rawWs x b).length
      · rw [if_pos h2] at h; cases h
      · rw [if_neg h2] at h
        show shapeF b' k c (turnX f x :: turnL f l) = _
        rw [shapeF, if_neg (by rw [r1]; simp), r2, if_neg h2]
        exact shapeF_turn l _ _ (fun y hy => hi y (by simp [hy])) h
    · rw [if_pos h1] at h; exact absurd h h1
theorem occ_mem {l : List InstT} {x : InstT} {i : Int} (hx : x ∈ l) (hi : i ∈ allI x) : Occ l i := by
  obtain ⟨k, hk, rfl⟩ := List.getElem_of_mem hx
  exact ⟨k, hk, by rw [nthI_lt _ _ hk]; exact hi⟩
/-- Its shape. -/
theorem shape_turn {f : Int → Int} {b b' : Int} {l : List InstT} (h : (shapeE b l).1 = 0) (hw : WayF l b' f) (h0 : b' ≠ 0) (h1 : b' ≤ 65536) : shapeE b' (turnL f l) = (0, 0) := by
  unfold shapeE at h ⊢
  split at h
  · cases h
  · rw [if_neg (by omega)]
    exact shapeF_turn l 0 5 (fun x hx i hi => hw.inb i (occ_mem hx hi)) h

theorem var_letter : kindI (letterI (lookF refT 59).1 0) = 4 := by decide +kernel
theorem part_turn {f : Int → Int} {x : InstT} {b : Int} (h : rawE x b = 0) : partI (turnX f x) = partI x := by
  unfold partI
  show (if x.1 = 59 ∧ (nthA (x.2.2.2.map (tA f)) 0).2.1 = 7 then 8 else partO x.1) = _
  by_cases h5 : x.1 = 59
  · have hl := var_args h h5
    obtain ⟨_, h2, _⟩ := rawWs_ok h
    have hk := wrongA_kind (wrongL_zero (faultI_zero h2).2.2.1 0 (by omega))
    rw [h5] at hk
    have hk2 : (nthA x.2.2.2 0).1 = 4 := hk.2.trans var_letter
    rw [nthA_mapB (by omega)]
    have : tA f (nthA x.2.2.2 0) = nthA x.2.2.2 0 := by unfold tA; rw [if_neg (by rw [hk2]; decide)]
    rw [this]
  · rw [if_neg (fun e => h5 e.1), if_neg (fun e => h5 e.1)]
theorem turnL_out (f : Int → Int) (l : List InstT) (k : Nat) (hk : ¬ k < l.length) : nthI (turnL f l) k = nthI l k := by
  unfold nthI
  rw [List.getD_eq_getElem?_getD, List.getD_eq_getElem?_getD, List.getElem?_eq_none (by rw [turnL_len]; omega), List.getElem?_eq_none (by omega)]
/-- What the order of instructions hangs on. -/
def SameP (l m : List InstT) : Prop := l.length = m.length ∧ ∀ k, (nthI m k).1 = (nthI l k).1 ∧ partI (nthI m k) = partI (nthI l k)
theorem sameP_turn {f : Int → Int} {l : List InstT} {b : Int} (h : (shapeE b l).1 = 0) : SameP l (turnL f l) := by
  refine ⟨(turnL_len f l).symm, fun k => ?_⟩
  by_cases hk : k < l.length
  · rw [turnL_at f l k hk]; exact ⟨rfl, part_turn (shape_each h k hk)⟩
  · rw [turnL_out f l k hk]; exact ⟨rfl, rfl⟩
theorem SameP.over {l m : List InstT} (h : SameP l m) (p : Int) : ∀ k, overP m p k = overP l p k
  | 0 => rfl
  | k + 1 => by rw [overP, overP, h.over p k, (h.2 k).2]
theorem SameP.models {l m : List InstT} (h : SameP l m) : ∀ k, modelsN m k = modelsN l k
  | 0 => rfl
  | k + 1 => by rw [modelsN, modelsN, h.models k, (h.2 k).2]
theorem SameP.ahead {l m : List InstT} (h : SameP l m) (k : Nat) : aheadO m k = aheadO l k := by
  unfold aheadO; rw [(h.2 _).1, (h.2 _).2]
theorem SameP.block {l m : List InstT} (h : SameP l m) : ∀ k, blockAt m k = blockAt l k
  | 0 => rfl
  | k + 1 => by rw [blockAt, blockAt, h.block k, (h.2 _).1]
theorem SameP.first {l m : List InstT} (h : SameP l m) (k : Nat) : firstB m k = firstB l k := by
  unfold firstB; rw [h.block k, (h.2 _).1]
theorem SameP.may {l m : List InstT} (h : SameP l m) (k : Nat) : mayL m k = mayL l k := by
  unfold mayL; rw [h.over, h.models, h.ahead, h.first, (h.2 _).1, (h.2 _).2]
theorem SameP.lay {l m : List InstT} (h : SameP l m) : ∀ n k, layF m n k = layF l n k
  | 0, k => by rw [layF, layF]; unfold openE; rw [← h.1, h.models, h.ahead]
  | n + 1, k => by rw [layF, layF, h.may, h.lay n (k + 1)]
/-- Its order. -/
theorem lay_turn {f : Int → Int} {b b' : Int} {l : List InstT} (h : (shapeE b l).1 = 0) (hw : WayF l b' f) (h0 : b' ≠ 0) (h1 : b' ≤ 65536) : layE b' (turnL f l) = layE b l := by
  unfold layE
  rw [shape_turn h hw h0 h1, if_neg (by simp), if_neg (by simpa using h), turnL_len]
  exact (sameP_turn h).lay _ _

theorem WayF.ne {l : List InstT} {b : Int} {f : Int → Int} (h : WayF l b f) {i : Int} (hi : Occ l i) : f i ≠ 0 := by have := (h.inb i hi).1; omega
theorem occ_ne {l : List InstT} {b i : Int} (hok : InstsOk l) (h : (shapeE b l).1 = 0) (hi : Occ l i) : i ≠ 0 := by
  obtain ⟨k, hk, h1⟩ := hi
  have := (allI_in (hok k hk) (shape_each h k hk) i h1).1
  omega
theorem occ_res {l : List InstT} {k : Nat} (hk : k < l.length) (h : (nthI l k).2.2.1 ≠ 0) : Occ l (nthI l k).2.2.1 := ⟨k, hk, allI_res h⟩
theorem res_turn {l : List InstT} {b : Int} {f : Int → Int} (hw : WayF l b f) {k : Nat} (hk : k < l.length) : ((nthI (turnL f l) k).2.2.1 = 0 ↔ (nthI l k).2.2.1 = 0) ∧ ((nthI l k).2.2.1 ≠ 0 → (nthI (turnL f l) k).2.2.1 = f (nthI l k).2.2.1) := by
  rw [turnL_at f l k hk]
  show (tN f (nthI l k).2.2.1 = 0 ↔ _) ∧ (_ → tN f (nthI l k).2.2.1 = _)
  unfold tN
  by_cases h : (nthI l k).2.2.1 = 0
  · rw [if_pos h]; exact ⟨⟨fun _ => h, fun _ => rfl⟩, fun e => absurd h e⟩
  · rw [if_neg h]; exact ⟨⟨fun e => absurd e (hw.ne (occ_res hk h)), fun e => absurd e h⟩, fun _ => rfl⟩
/-- Who makes an id. -/
theorem mak_turn {l : List InstT} {b b' : Int} {f : Int → Int} (hok : InstsOk l) (hs : (shapeE b l).1 = 0) (hw : WayF l b' f) {i : Int} (hi : Occ l i) : ∀ k, k ≤ l.length → makT (turnL f l) k (f i) = makT l k i
  | 0, _ => rfl
  | k + 1, hk => by
    have ih := mak_turn hok hs hw hi k (by omega)
    obtain ⟨r1, r2⟩ := res_turn hw (show k < l.length by omega)
    rw [makT, makT, ih]
    have hni := occ_ne hok hs hi
    have hnf := hw.ne hi
    have e : ((nthI (turnL f l) k).2.2.1 = f i ∧ f i ≠ 0) ↔ ((nthI l k).2.2.1 = i ∧ i ≠ 0) := by
      constructor
      · rintro ⟨e1, e2⟩
        refine ⟨?_, hni⟩
        have hr : (nthI l k).2.2.1 ≠ 0 := fun e0 => by rw [r1.2 e0] at e1; exact e2 e1.symm
        rw [r2 hr] at e1
        exact hw.inj _ _ (occ_res (by omega) hr) hi e1
      · rintro ⟨e1, e2⟩
        refine ⟨?_, hnf⟩
        rw [r2 (by rw [e1]; exact hni), e1]
    by_cases h2 : (nthI l k).2.2.1 = i ∧ i ≠ 0
    · rw [if_pos h2, if_pos (e.2 h2)]
    · rw [if_neg h2, if_neg (fun h => h2 (e.1 h))]
theorem args_turnB {f : Int → Int} : ∀ (a : List ArgT), (a.map (tA f)).flatMap idsA = (a.flatMap idsA).map f
  | [] => rfl
  | x :: a => by
    have ih := args_turnB (f := f) a
    rw [List.map_cons, List.flatMap_cons, List.flatMap_cons, List.map_append, ih]
    congr 1
    by_cases e : x.1 = 1
    · simp [tA, idsA, e]
    · simp [tA, idsA, e]
theorem idsI_turn {f : Int → Int} {x : InstT} (h : x.2.1 ≠ 0 → f x.2.1 ≠ 0) : idsI (turnX f x) = (idsI x).map f := by
  unfold idsI idsTo turnX
  simp only
  rw [List.take_length, List.take_length, List.map_append, args_turnB]
  congr 1
  unfold tN
  by_cases e : x.2.1 = 0
  · simp [e]
  · simp [e, h e]
theorem allI_turn {f : Int → Int} {x : InstT} (h : x.2.1 ≠ 0 → f x.2.1 ≠ 0) (hr : x.2.2.1 ≠ 0 → f x.2.2.1 ≠ 0) : allI (turnX f x) = (allI x).map f := by
  unfold allI
  rw [idsI_turn h, List.map_append]
  congr 1
  show (if tN f x.2.2.1 = 0 then [] else [tN f x.2.2.1]) = _
  unfold tN
  by_cases e : x.2.2.1 = 0
  · simp [e]
  · simp [e, hr e]
theorem WayF.type {l : List InstT} {b : Int} {f : Int → Int} (h : WayF l b f) {k : Nat} (hk : k < l.length) : (nthI l k).2.1 ≠ 0 → f (nthI l k).2.1 ≠ 0 := fun e => h.ne ⟨k, hk, allI_type e⟩
theorem WayF.res {l : List InstT} {b : Int} {f : Int → Int} (h : WayF l b f) {k : Nat} (hk : k < l.length) : (nthI l k).2.2.1 ≠ 0 → f (nthI l k).2.2.1 ≠ 0 := fun e => h.ne ⟨k, hk, allI_res e⟩
theorem made_turn {l : List InstT} {b b' : Int} {f : Int → Int} (hok : InstsOk l) (hs : (shapeE b l).1 = 0) (hw : WayF l b' f) {k : Nat} (hk : k ≤ l.length) : ∀ (zs : List Int), (∀ i ∈ zs, Occ l i) → allMade (turnL f l) k (zs.map f) = allMade l k zs
  | [], _ => rfl
  | z :: zs, h => by
    have ih := made_turn hok hs hw hk zs (fun i hi => h i (by simp [hi]))
    unfold allMade at *
    rw [List.map_cons, List.all_cons, List.all_cons, ih, mak_turn hok hs hw (h z (by simp)) k hk]
theorem fault_turn {l : List InstT} {b b' : Int} {f : Int → Int} (hok : InstsOk l) (hs : (shapeE b l).1 = 0) (hw : WayF l b' f) {k : Nat} (hk : k < l.length) : faultAt (turnL f l) k = faultAt l k := by
  have hoc : ∀ i ∈ idsI (nthI l k), Occ l i := fun i hi => ⟨k, hk, List.mem_append_left _ hi⟩
  have e1 : idsI (nthI (turnL f l) k) = (idsI (nthI l k)).map f := by rw [turnL_at f l k hk]; exact idsI_turn (hw.type hk)
  have e2 : (makT (turnL f l) k (nthI (turnL f l) k).2.2.1) = makT l k (nthI l k).2.2.1 := by
    obtain ⟨r1, r2⟩ := res_turn hw hk
    by_cases h : (nthI l k).2.2.1 = 0
    · rw [r1.2 h, h, makT_zero, makT_zero]
    · rw [r2 h]; exact mak_turn hok hs hw (occ_res hk h) k (by omega)
  unfold faultAt
  rw [e1, e2, turnL_len, made_turn hok hs hw (Nat.le_refl _) _ hoc, made_turn hok hs hw (by omega) _ hoc, ((sameP_turn hs).2 k).2]
/-- What is wrong with its ids. -/
theorem ids_turn {l : List InstT} {b b' : Int} {f : Int → Int} (hok : InstsOk l) (hs : (shapeE b l).1 = 0) (hw : WayF l b' f) (h0 : b' ≠ 0) (h1 : b' ≤ 65536) : idsE b' (turnL f l) = idsE b l := by
  have hF : ∀ n k, k + n = l.length → idsF (turnL f l) n k = idsF l n k := by
    intro n
    induction n with
    | zero => intro k _; rfl
    | succ n ih =>
      intro k hk
      rw [idsF, idsF, fault_turn hok hs hw (by omega), ih (k + 1) (by omega)]
  unfold idsE
  rw [lay_turn hs hw h0 h1, turnL_len, hF _ 0 (by omega)]

theorem turnL_same {f g : Int → Int} {l : List InstT} (h : ∀ i, Occ l i → f i = g i) : turnL f l = turnL g l :=
  turnL_congr fun k hk => turnX_congr (fun e => h _ ⟨k, hk, allI_type e⟩) (fun e => h _ ⟨k, hk, allI_res e⟩) (fun j hj e => h _ ⟨k, hk, allI_arg hj e⟩)
theorem turnL_turn {f g : Int → Int} {l : List InstT} (h : ∀ i, Occ l i → f i ≠ 0) : turnL g (turnL f l) = turnL (fun i => g (f i)) l := by
  apply List.ext_getElem (by simp [turnL])
  intro k h1 h2
  have hk : k < l.length := by simpa [turnL] using h1
  have ht := fun e => h _ ⟨k, hk, allI_type e⟩
  have hr := fun e => h _ ⟨k, hk, allI_res e⟩
  simp only [turnL, List.getElem_map]
  rw [nthI_lt _ _ hk] at ht hr
  generalize l[k] = x at *
  unfold turnX
  simp only [Prod.mk.injEq, true_and, List.map_map]
  refine ⟨?_, ?_, ?_⟩
  · unfold tN
    by_cases e : x.2.1 = 0
    · simp [e]
    · simp [e, ht e]
  · unfold tN
    by_cases e : x.2.2.1 = 0
    · simp [e]
    · simp [e, hr e]
  · refine List.map_congr_left fun a _ => ?_
    simp only [Function.comp]
    unfold tA
    by_cases e : a.1 = 1
    · simp [e]
    · simp [e]
theorem mem_pairB {l m : List InstT} {x : Int × Int} : ∀ n, x ∈ pairTo l m n ↔ ∃ k, k < n ∧ x ∈ (allI (nthI l k)).zip (allI (nthI m k)) := by
  intro n
  induction n with
  | zero => simp [pairTo]
  | succ n ih =>
    rw [pairTo, List.mem_append, ih]
    constructor
    · rintro (⟨k, hk, h⟩ | h)
      · exact ⟨k, by omega, h⟩
      · exact ⟨n, by omega, h⟩
    · rintro ⟨k, hk, h⟩
      by_cases e : k = n
      · subst e; exact .inr h
      · exact .inl ⟨k, by omega, h⟩
theorem zip_mapB {g : Int → Int} : ∀ {p : List Int} {z : Int × Int}, z ∈ p.zip (p.map g) ↔ z.1 ∈ p ∧ z.2 = g z.1
  | [], z => by simp
  | x :: p, z => by
    rw [List.map_cons, List.zip_cons_cons, List.mem_cons, zip_mapB (p := p), List.mem_cons]
    constructor
    · rintro (rfl | h)
      · exact ⟨.inl rfl, rfl⟩
      · exact ⟨.inr h.1, h.2⟩
    · rintro ⟨rfl | h, h2⟩
      · exact .inl (Prod.ext rfl h2)
      · exact .inr ⟨h, h2⟩
/-- It is alike. -/
theorem alike_turn {l : List InstT} {b b' : Int} {f : Int → Int} (g : Int) (hs : (shapeE b l).1 = 0) (hw : WayF l b' f) (h0 : b' ≠ 0) (h1 : b' ≤ 65536) : AlikeC g b g b' l (turnL f l) := by
  have hal : ∀ k, k < l.length → allI (nthI (turnL f l) k) = (allI (nthI l k)).map f := fun k hk => by rw [turnL_at f l k hk]; exact allI_turn (hw.type hk) (hw.res hk)
  have hmem : ∀ z, z ∈ pairTo l (turnL f l) l.length ↔ Occ l z.1 ∧ z.2 = f z.1 := fun z => by
    rw [mem_pairB]
    constructor
    · rintro ⟨k, hk, h⟩
      rw [hal k hk, zip_mapB] at h
      exact ⟨⟨k, hk, h.1⟩, h.2⟩
    · rintro ⟨⟨k, hk, h⟩, h2⟩
      exact ⟨k, hk, by rw [hal k hk, zip_mapB]; exact ⟨h, h2⟩⟩
  have hB : Bij (pairTo l (turnL f l) l.length) := fun p hp q hq => by
    obtain ⟨p1, p2⟩ := (hmem p).1 hp
    obtain ⟨q1, q2⟩ := (hmem q).1 hq
    exact ⟨fun e => by rw [p2, q2, e], fun e => hw.inj _ _ p1 q1 (by rw [← p2, ← q2]; exact e)⟩
  refine ⟨hs, by rw [shape_turn hs hw h0 h1], (turnL_len f l).symm, ⟨fun k hk => by rw [hal k hk, List.length_map], hB⟩, rfl, ?_⟩
  refine turnL_same fun i hi => ?_
  unfold besF
  rw [thF_mem hB ((hmem (i, f i)).2 ⟨hi, rfl⟩)]
  rfl

/-- How it is numbered. -/
theorem cnt_turn {l : List InstT} {b' : Int} {f : Int → Int} (hw : WayF l b' f) : ∀ k, k ≤ l.length → cntR (turnL f l) k = cntR l k
  | 0, _ => rfl
  | k + 1, hk => by
    have ih := cnt_turn hw k (by omega)
    have r := (res_turn hw (show k < l.length by omega)).1
    rw [cntR, cntR, ih]
    by_cases h : (nthI l k).2.2.1 = 0
    · rw [if_pos h, if_pos (r.2 h)]
    · rw [if_neg h, if_neg (fun e => h (r.1 e))]
theorem rn_turn {l : List InstT} {b b' : Int} {f : Int → Int} (hok : InstsOk l) (hs : (shapeE b l).1 = 0) (hw : WayF l b' f) {i : Int} (hi : Occ l i) : rnF (turnL f l) (f i) = rnF l i := by
  unfold rnF rnT
  rw [turnL_len, mak_turn hok hs hw hi _ (Nat.le_refl _)]
  cases hm : makT l l.length i with
  | none => rfl
  | some p =>
    have hp := makT_some l i _ p hm
    simp only [Option.map_some, Option.getD_some]
    rw [cnt_turn hw _ (by omega)]
theorem renum_turn {l : List InstT} {b b' : Int} {f : Int → Int} (hok : InstsOk l) (hs : (shapeE b l).1 = 0) (hw : WayF l b' f) : turnL (rnF (turnL f l)) (turnL f l) = turnL (rnF l) l := by
  rw [turnL_turn (fun i hi => hw.ne hi)]
  exact turnL_same fun i hi => rn_turn hok hs hw hi

/-- Of a module whose ids are sound: who makes each. -/
theorem sound_made {l : List InstT} {b i : Int} (h : (idsE b l).1 = 0) (hi : Occ l i) : ∃ p : Nat, p < l.length ∧ makT l l.length i = some (p : Int) ∧ (nthI l p).2.2.1 = i ∧ i ≠ 0 := by
  obtain ⟨k, hk, hm⟩ := hi
  have h1 : (makT l l.length i).isSome = true := by
    unfold allI at hm
    rcases List.mem_append.1 hm with hm | hm
    · have hf := (ids_sound h).2.2 k hk
      unfold faultAt at hf
      by_cases e1 : (makT l k (nthI l k).2.2.1).isSome = true
      · rw [if_pos e1] at hf; cases hf
      · rw [if_neg e1] at hf
        by_cases e2 : allMade l l.length (idsI (nthI l k)) = false
        · rw [if_pos e2] at hf; cases hf
        · rw [Bool.not_eq_false] at e2
          unfold allMade at e2
          exact List.all_eq_true.1 e2 i hm
    · by_cases e : (nthI l k).2.2.1 = 0
      · simp [e] at hm
      · simp [e] at hm
        obtain ⟨p, hp⟩ := makT_own hk e
        rw [hm, hp]; rfl
  obtain ⟨p, hp⟩ := Option.isSome_iff_exists.1 h1
  have hr := makT_some l i _ p hp
  have ha := maker_at hp
  exact ⟨p.toNat, by omega, by rw [hp]; congr 1; omega, ha.1, ha.2⟩
theorem cnt_at {l : List InstT} {p : Nat} (h : (nthI l p).2.2.1 ≠ 0) : cntR l (p + 1) = cntR l p + 1 := by rw [cntR, if_neg h]
theorem rn_at {l : List InstT} {i : Int} {p : Nat} (h : makT l l.length i = some (p : Int)) : rnF l i = ((cntR l p + 1 : Nat) : Int) := by
  unfold rnF rnT
  rw [h]
  simp
/-- Numbered as they are made. -/
theorem rn_way {l : List InstT} {b : Int} (h : (idsE b l).1 = 0) : WayF l ((cntR l l.length + 1 : Nat) : Int) (rnF l) := by
  constructor
  · intro i hi
    obtain ⟨p, hp, hm, hr, hn⟩ := sound_made h hi
    rw [rn_at hm]
    have := cnt_at (l := l) (p := p) (by rw [hr]; exact hn)
    have := cntR_mono l (show p + 1 ≤ l.length by omega)
    exact ⟨by omega, by omega⟩
  · intro i j hi hj e
    obtain ⟨p, hp, hm, hr, hn⟩ := sound_made h hi
    obtain ⟨q, hq, hm2, hr2, hn2⟩ := sound_made h hj
    rw [rn_at hm, rn_at hm2] at e
    have c1 := cnt_at (l := l) (p := p) (by rw [hr]; exact hn)
    have c2 := cnt_at (l := l) (p := q) (by rw [hr2]; exact hn2)
    have : p = q := by
      rcases Nat.lt_trichotomy p q with h | h | h
      · have := cntR_mono l (show p + 1 ≤ q by omega); omega
      · exact h
      · have := cntR_mono l (show q + 1 ≤ p by omega); omega
    rw [← hr, ← hr2, this]
/-- What is made by the first k. -/
def resTo (l : List InstT) : Nat → List Int
  | 0 => []
  | k + 1 => if (nthI l k).2.2.1 = 0 then resTo l k else (nthI l k).2.2.1 :: resTo l k
theorem resTo_len (l : List InstT) : ∀ k, (resTo l k).length = cntR l k
  | 0 => rfl
  | k + 1 => by
    rw [resTo, cntR]
    split
    · rw [resTo_len l k]; rfl
    · rw [List.length_cons, resTo_len l k]
theorem resTo_made {l : List InstT} {i : Int} : ∀ k, i ∈ resTo l k → (makT l k i).isSome = true
  | 0, h => by cases h
  | k + 1, h => by
    rw [resTo] at h
    rw [makT]
    by_cases e : (nthI l k).2.2.1 = 0
    · rw [if_pos e] at h
      have := resTo_made k h
      rw [if_pos this]; exact this
    · rw [if_neg e] at h
      rcases List.mem_cons.1 h with rfl | h
      · split
        · assumption
        · rw [if_pos ⟨rfl, e⟩]; rfl
      · have := resTo_made k h
        rw [if_pos this]; exact this
theorem cnt_bound {l : List InstT} {b : Int} (hok : InstsOk l) (b0 : 0 ≤ b) (h : (idsE b l).1 = 0) : (cntR l l.length : Int) + 1 ≤ b := by
  obtain ⟨hl, _, hf⟩ := ids_sound h
  have hs := (layE_ok hl).2.1
  have hb := shape_bound hs
  have key : ∀ k, k ≤ l.length → (resTo l k).Nodup ∧ ∀ i ∈ resTo l k, InB b i := by
    intro k
    induction k with
    | zero => intro _; exact ⟨List.nodup_nil, fun i hi => by cases hi⟩
    | succ k ih =>
      intro hk
      obtain ⟨n1, n2⟩ := ih (by omega)
      rw [resTo]
      by_cases e : (nthI l k).2.2.1 = 0
      · rw [if_pos e]; exact ⟨n1, n2⟩
      · rw [if_neg e]
        refine ⟨List.nodup_cons.2 ⟨fun hm => ?_, n1⟩, fun i hi => ?_⟩
        · have h1 := resTo_made k hm
          rw [fresh_at (hf k (by omega))] at h1; cases h1
        · rcases List.mem_cons.1 hi with rfl | hi
          · exact (ids_in (hok k (by omega)) (shape_each hs k (by omega))).2.1 e
          · exact n2 i hi
  obtain ⟨n1, n2⟩ := key l.length (Nat.le_refl _)
  have hpos : 1 ≤ b := by have := hb.1; omega
  have := nodup_len (resTo l l.length) (upTo (b - 1).toNat) n1 (fun i hi => (upTo_mem _ _).2 (by have := n2 i hi; unfold InB at this; omega))
  rw [resTo_len, upTo_len] at this
  omega
theorem cnt_find {l : List InstT} : ∀ (n i : Nat), 1 ≤ i → i ≤ cntR l n → ∃ p, p < n ∧ cntR l p + 1 = i ∧ (nthI l p).2.2.1 ≠ 0
  | 0, i, h1, h2 => by rw [cntR] at h2; omega
  | n + 1, i, h1, h2 => by
    rw [cntR] at h2
    by_cases e : (nthI l n).2.2.1 = 0
    · rw [if_pos e] at h2
      obtain ⟨p, hp, r⟩ := cnt_find n i h1 h2
      exact ⟨p, by omega, r⟩
    · rw [if_neg e] at h2
      by_cases e2 : i ≤ cntR l n
      · obtain ⟨p, hp, r⟩ := cnt_find n i h1 e2
        exact ⟨p, by omega, r⟩
      · exact ⟨n, by omega, by omega, e⟩
/-- Who makes each number, in order. -/
theorem made_rn {l : List InstT} {b : Int} (hok : InstsOk l) (h : (idsE b l).1 = 0) (i : Nat) (h1 : 1 ≤ i) (h2 : i ≤ cntR l l.length) : ∃ p : Nat, p < l.length ∧ cntR l p + 1 = i ∧ makV (turnL (rnF l) l) l.length (i : Int) = (p : Int) := by
  obtain ⟨p, hp, hc, hr⟩ := cnt_find l.length i h1 h2
  have hs := (layE_ok (ids_sound h).1).2.1
  have hoc := occ_res hp hr
  have hfr := fresh_at ((ids_sound h).2.2 p hp)
  have hm1 : makT l (p + 1) (nthI l p).2.2.1 = some (p : Int) := by rw [makT, if_neg (by rw [hfr]; simp), if_pos ⟨rfl, hr⟩]
  have hm := makT_stays l _ (p + 1) (by rw [hm1]; rfl) (l.length - (p + 1))
  rw [show p + 1 + (l.length - (p + 1)) = l.length by omega, hm1] at hm
  refine ⟨p, hp, hc, ?_⟩
  have e := rn_at hm
  rw [hc] at e
  unfold makV
  rw [← e, mak_turn hok hs (rn_way h) hoc _ (Nat.le_refl _), hm]
  rfl
theorem made_up {l : List InstT} {p q : Nat} (h : cntR l p < cntR l q) : p < q := by
  rcases Nat.lt_or_ge p q with h1 | h1
  · exact h1
  · have := cntR_mono l h1; omega

end Go.Proofs.Ytjckgnpbjekhbaa
