/-
  Texts laid together in one: IdsPairsOf, SlicesCloneA.
-/
import Derived.WalkSpells
import Derived.WalkMore
import Derived.BigRegion
import Derived.Deep.RegionWith
import Derived.Test.YtjckgnpbjekhbaaProg
import Derived.Test.YtjckgnpbjekhbaaB17
import Derived.Test.YtjckgnpbjekhbaaB10
/-
  Pairs of the ids of two rows of instructions, of the package ids: pairsOf.
-/
namespace Go.Proofs.Ytjckgnpbjekhbaa
open Go.RowKit Go.Maps
set_option linter.unusedVariables false
set_option linter.unusedSimpArgs false
set_option maxRecDepth 10000

/-- The pairs of the ids of the first k instructions. -/
def pairTo (l m : List InstT) : Nat → List (Int × Int)
  | 0 => []
  | k + 1 => pairTo l m k ++ (allI (nthI l k)).zip (allI (nthI m k))
theorem pairTo_len {l m : List InstT} (h : ∀ j, (allI (nthI l j)).length ≤ 5864062014636) : ∀ k, (pairTo l m k).length ≤ 5864062014636 * k
  | 0 => by simp [pairTo]
  | k + 1 => by
    have h1 := pairTo_len (m := m) h k
    have h2 := h k
    simp only [pairTo, List.length_append, List.length_zip]
    omega
theorem pairTo_front {l m : List InstT} {k n : Nat} (h : k ≤ n) : ∃ r, pairTo l m n = pairTo l m k ++ r := by
  induction n with
  | zero => exact ⟨[], by rw [show k = 0 by omega]; simp⟩
  | succ n ih =>
    by_cases e : k = n + 1
    · exact ⟨[], by subst e; simp⟩
    · obtain ⟨r, hr⟩ := ih (by omega)
      exact ⟨r ++ _, by rw [pairTo, hr, List.append_assoc]⟩
theorem zip_take_succ {x y : List Int} (h : x.length = y.length) {k : Nat} (hk : k < x.length) : (x.zip y).take (k + 1) = (x.zip y).take k ++ [(nth x k, nth y k)] := by
  have hk2 : k < (x.zip y).length := by rw [List.length_zip]; omega
  rw [List.take_add_one, List.getElem?_eq_getElem hk2]
  congr 1
  simp [nth, List.getElem_zip, List.getD_eq_getElem?_getD, List.getElem?_eq_getElem hk, List.getElem?_eq_getElem (show k < y.length by omega)]
theorem nthP_mem {x : List Int} {k : Nat} (h : k < x.length) : nth x k ∈ x := by
  unfold nth
  rw [List.getD_eq_getElem?_getD, List.getElem?_eq_getElem h, Option.getD_some]
  exact List.getElem_mem h
/-- As many ids each. -/
def LenP (l m : List InstT) (k : Nat) : Prop := ∀ j, j < k → (allI (nthI l j)).length = (allI (nthI m j)).length

/-- The boxes of pairsOf: its result's at the bottom, two maps, and its pairs' box. -/
structure PoB (w wr : World) (l : List (Int × Int)) : Prop where
  rbox : wr.heap[w.heap.size]? = some (.cells #[.map none, .map none] 48 (0, 0))
  pbox : wr.heap[w.heap.size + 3]? = some (.cells #[.map (some (w.heap.size + 1)), .map (some (w.heap.size + 2))] 48 (0, 0))
  prm : PrM wr (w.heap.size + 1) (w.heap.size + 2) l
  bel : Below w.heap.size w wr
theorem PoB.size {w wr : World} {l : List (Int × Int)} (h : PoB w wr l) : w.heap.size + 3 < wr.heap.size := (Array.getElem?_eq_some_iff.1 h.pbox).1
theorem PoB.below {w wr wr' : World} {l : List (Int × Int)} (h : PoB w wr l) (hb : Below wr.heap.size wr wr') : PoB w wr' l := by
  have hs := h.size
  exact ⟨(hb.block _ (by omega)).trans h.rbox, (hb.block _ (by omega)).trans h.pbox, h.prm.below hb, h.bel.trans (hb.mono h.bel.size)⟩
theorem PoB.join {w wr wr' : World} {l l' : List (Int × Int)} (h : PoB w wr l) (hk : KeepP (w.heap.size + 1) (w.heap.size + 2) wr wr') (hp : PrM wr' (w.heap.size + 1) (w.heap.size + 2) l') : PoB w wr' l' := by
  have hs := h.size
  exact ⟨(hk.block _ (by omega) (by omega) (by omega)).trans h.rbox, (hk.block _ (by omega) (by omega) (by omega)).trans h.pbox, hp, hk.bel h.bel (by omega) (by omega)⟩
theorem KeepP.drew {T K : Nat} (w : World) : KeepP T K w w.drew := keepP_below (below_drew w)
theorem KeepP.cell {T K : Nat} {w w' : World} (h : KeepP T K w w') {p : Addr} (h1 : p.block < w.heap.size) (h2 : p.block ≠ T) (h3 : p.block ≠ K) : w'.cell? p = w.cell? p := by
  unfold World.cell?
  rw [h.block _ h1 h2 h3]
theorem two_nilP {W : World} {b T : Nat} {x y : Value} (h : W.heap[b]? = some (.cells #[x, y] T (0, 0))) (u v : Value) : ((W.setCell ⟨b, 0, none⟩ u).setCell ⟨b, 1, none⟩ v).heap[b]? = some (.cells #[u, v] T (0, 0)) := by
  simp [World.setCell, Array.getElem?_modify, h]

set_option maxHeartbeats 8000000 in
theorem pairsOf_any (l m : List InstT) (aa ab : Option Addr) (n ca cb : Nat) (w : World) (hva : InstsV w aa l) (hvb : InstsV w ab m) (hoa : InstsOk l) (hob : InstsOk m) (hla : l.length = n) (hlb : m.length = n) (hn : 40 * n ≤ 140737488351232)
    (hpa : ∀ j, j < n → ∀ id ∈ allI (nthI l j), 0 < id ∧ id < 4294967296) (hpb : ∀ j, j < n → ∀ id ∈ allI (nthI m j), 0 < id ∧ id < 4294967296) (hlen : ∀ j, (allI (nthI l j)).length ≤ 5864062014636) (hfew : n ≤ 1048576) :
    Calls Try.prog 17 #[.slice aa n ca, .slice ab n cb] w fun e w' => ∃ (v : Value) (r : Bool), e = .returned (.tuple #[v, .bool r]) ∧ (r = true ↔ LenP l m n ∧ Bij (pairTo l m n)) ∧ (r = true → ∃ T K, v = .agg #[.map (some T), .map (some K)] ∧ PrM w' T K (pairTo l m n)) ∧ (r = false → v = .agg #[.map none, .map none]) ∧ Below w.heap.size w w' := by
  have HVA := hide hva
  have HVB := hide hvb
  have HOA := hide hoa
  have HOB := hide hob
  have HLA := hide hla
  have HLB := hide hlb
  have HN := hide hn
  have HPA := hide hpa
  have HPB := hide hpb
  have HLE := hide hlen
  clear hva hvb hoa hob hla hlb hn hpa hpb hlen
  go_enter Try.func17, Try.ntmps17
  have hmm := @run_makeMap Try.prog
  have HMX : Hid (5864062014636 * (n + 1) < maxLen) := by show _ < _; unfold maxLen; omega
  have HST : Hid (PoB w ((((w.alloc (.cells #[.map none, .map none] 48)).alloc (.map #[] 0)).alloc (.map #[] 0)).alloc (.cells #[.map (some (w.heap.size + 1)), .map (some (w.heap.size + 1 + 1))] 48)) []) := by
    have b1 : Below (w.alloc (.cells #[.map none, .map none] 48)).heap.size (w.alloc (.cells #[.map none, .map none] 48)) ((((w.alloc (.cells #[.map none, .map none] 48)).alloc (.map #[] 0)).alloc (.map #[] 0)).alloc (.cells #[.map (some (w.heap.size + 1)), .map (some (w.heap.size + 1 + 1))] 48)) := (((Below.refl _ _).alloc (Nat.le_refl _) _).alloc (by simp) _).alloc (by simp) _
    have b2 : Below ((w.alloc (.cells #[.map none, .map none] 48)).alloc (.map #[] 0)).heap.size ((w.alloc (.cells #[.map none, .map none] 48)).alloc (.map #[] 0)) ((((w.alloc (.cells #[.map none, .map none] 48)).alloc (.map #[] 0)).alloc (.map #[] 0)).alloc (.cells #[.map (some (w.heap.size + 1)), .map (some (w.heap.size + 1 + 1))] 48)) := ((Below.refl _ _).alloc (Nat.le_refl _) _).alloc (by simp) _
    have b3 : Below (((w.alloc (.cells #[.map none, .map none] 48)).alloc (.map #[] 0)).alloc (.map #[] 0)).heap.size (((w.alloc (.cells #[.map none, .map none] 48)).alloc (.map #[] 0)).alloc (.map #[] 0)) ((((w.alloc (.cells #[.map none, .map none] 48)).alloc (.map #[] 0)).alloc (.map #[] 0)).alloc (.cells #[.map (some (w.heap.size + 1)), .map (some (w.heap.size + 1 + 1))] 48)) := (Below.refl _ _).alloc (Nat.le_refl _) _
    have m1 := (MapU.made (w.alloc (.cells #[.map none, .map none] 48)) 22 .u32).below b2
    have m2 := (MapU.made ((w.alloc (.cells #[.map none, .map none] 48)).alloc (.map #[] 0)) 22 .u32).below b3
    have p3 := heap_alloc_new (((w.alloc (.cells #[.map none, .map none] 48)).alloc (.map #[] 0)).alloc (.map #[] 0)) (.cells #[.map (some (w.heap.size + 1)), .map (some (w.heap.size + 1 + 1))] 48)
    simp only [World.size_alloc] at m1 m2 p3
    refine ⟨(b1.block _ (by simp)).trans (heap_alloc_new w _), p3, ⟨m1, m2, by omega⟩, ?_⟩
    exact ((Below.refl _ w).alloc (Nat.le_refl _) _).trans (b1.mono (by simp))
  go_wp2_with fail
  rw [show w.heap.size + 1 + 1 = w.heap.size + 2 from rfl, show w.heap.size + 2 + 1 = w.heap.size + 3 from rfl] at *
  generalize ((((w.alloc (.cells #[.map none, .map none] 48)).alloc (.map #[] 0)).alloc (.map #[] 0)).alloc (.cells #[.map (some (w.heap.size + 1)), .map (some (w.heap.size + 2))] 48)) = W1 at *
  clear hmm
  go_loopw [16] (fun i wr => ∃ k : Nat, k ≤ n ∧ i = .int .i64 k ∧ PoB w wr (pairTo l m k) ∧ Bij (pairTo l m k) ∧ LenP l m k) (fun i _ => n - (intOf i).toNat)
  case atStart => exact ⟨0, Nat.zero_le _, rfl, HST.out, bij_nil, fun j hj => by omega⟩
  case round =>
    obtain ⟨k, hk, rfl, hT, hB, hL⟩ := hrel
    clear HST
    have hkb : (k : Int) < 140737488351232 := by have := HN.out; omega
    have HT := hide hT
    have HBJ := hide hB
    have HLP := hide hL
    clear hT hB hL
    by_cases hlt : k < n
    · have hki : (k : Int) < (n : Int) := by omega
      have hk0 : (0 : Int) ≤ (k : Int) := by omega
      have hkl : k < l.length := by rw [HLA.out]; exact hlt
      have hkm : k < m.length := by rw [HLB.out]; exact hlt
      obtain ⟨g1, o1, aj, cj, nj, rfl, hg1, p1, p2, p3, p4, p5, p6, p7⟩ := HVA.out k hkl
      obtain ⟨g2, o2, ak, ck, nk, rfl, hg2, q1, q2, q3, q4, q5, q6, q7⟩ := HVB.out k hkm
      have hza := HOA.out k hkl
      have hzb := HOB.out k hkm
      have hnj : 24 * nj ≤ 140737488351232 := by have := hza.2.2.2.2.2.2.2; omega
      have hnk : 24 * nk ≤ 140737488351232 := by have := hzb.2.2.2.2.2.2.2; omega
      have hXd := fun wx (hb : Below w.heap.size w wx) => allIds_any (nthI l k) aj nj cj wx (p6.below hb) p5 hnj
      have hYd := fun wx (hb : Below w.heap.size w wx) => allIds_any (nthI m k) ak nk ck wx (q6.below hb) q5 hnk
      have HPX := hide (HPA.out k hlt)
      have HPY := hide (HPB.out k hlt)
      have HLX := hide (HLE.out k)
      have HPT : Hid (pairTo l m (k + 1) = pairTo l m k ++ (allI (nthI l k)).zip (allI (nthI m k))) := rfl
      have HLS : Hid ((allI (nthI l k)).length = (allI (nthI m k)).length → LenP l m (k + 1)) := fun e j hj => by
        by_cases hjk : j < k
        · exact HLP.out j hjk
        · obtain rfl : j = k := by omega
          exact e
      have HLN : Hid (LenP l m n → (allI (nthI l k)).length = (allI (nthI m k)).length) := fun h => h k hlt
      have HPL : Hid ((pairTo l m k).length ≤ 5864062014636 * k) := pairTo_len HLE.out k
      obtain ⟨rest, hrest⟩ := pairTo_front (l := l) (m := m) (show k + 1 ≤ n by omega)
      have HRE := hide hrest
      clear hrest
      have LC : Hid (∀ w', Below wr.heap.size wr w' → w'.cell? ⟨g1, o1 + k * 4, none⟩ = some (.int .u16 (nthI l k).1) ∧ w'.cell? ⟨g1, o1 + k * 4 + 1, none⟩ = some (.int .u32 (nthI l k).2.1) ∧ w'.cell? ⟨g1, o1 + k * 4 + 2, none⟩ = some (.int .u32 (nthI l k).2.2.1) ∧ w'.cell? ⟨g1, o1 + k * 4 + 3, none⟩ = some (.slice aj nj cj) ∧ w'.cell? ⟨g2, o2 + k * 4, none⟩ = some (.int .u16 (nthI m k).1) ∧ w'.cell? ⟨g2, o2 + k * 4 + 1, none⟩ = some (.int .u32 (nthI m k).2.1) ∧ w'.cell? ⟨g2, o2 + k * 4 + 2, none⟩ = some (.int .u32 (nthI m k).2.2.1) ∧ w'.cell? ⟨g2, o2 + k * 4 + 3, none⟩ = some (.slice ak nk ck)) := fun w' h => by
        have hs := HT.out.size
        have h1 := fun i => (h.cell (p := ⟨g1, i, none⟩) (show g1 < wr.heap.size by omega)).trans (HT.out.bel.cell (p := ⟨g1, i, none⟩) hg1)
        have h2 := fun i => (h.cell (p := ⟨g2, i, none⟩) (show g2 < wr.heap.size by omega)).trans (HT.out.bel.cell (p := ⟨g2, i, none⟩) hg2)
        exact ⟨(h1 _).trans p1, (h1 _).trans p2, (h1 _).trans p3, (h1 _).trans p4, (h2 _).trans q1, (h2 _).trans q2, (h2 _).trans q3, (h2 _).trans q4⟩
      have HXD := hide hXd
      have HYD := hide hYd
      clear hXd hYd hza hzb p1 p2 p3 p4 p5 p6 p7 q1 q2 q3 q4 q5 q6 q7 HLE
      generalize allI (nthI l k) = X at *
      generalize allI (nthI m k) = Y at *
      generalize nthI l k = x at *
      generalize nthI m k = y at *
      obtain ⟨xo, xt, xr, xl⟩ := x
      obtain ⟨yo, yt, yr, yl⟩ := y
      unfold instV at *
      simp only at HXD HYD LC
      go_wp2_with fail
      have hC0 : Below wr.heap.size wr wr.drew := below_drew wr
      have hmix : Try.prog.follows .mixedOrders = true := by kernel_rfl
      refine (wpIn_wide (n := 0)).1 ?_
      refine wpIn_normal (wpIn_region_any hmix (wpAnyE_sound (C := Below wr.heap.size wr) (E := fun _ => false) _ _ _ _ ?_))
      change wpAnyE _ _ _ _ _ _ _ _ _ _ _ (World.drew _)
      refine wpAnyE_takeD (i := 0) (some 19) (v := (.slice (some ⟨g1, o1, none⟩) n ca)) (fun _ => trivial) (by kernel_rfl) rfl rfl (by kernel_rfl) (by kernel_rfl) (by kernel_rfl) (by kernel_rfl) (fun _ _ _ h => by cases h.1) hC0 (Or.inl ⟨by rfl, fun w' hC => by obtain ⟨e1, e2, e3, e4, e5, e6, e7, e8⟩ := LC.out w' hC; clear hC; go_simp⟩) ?_
      simp only [Act.put, List.setIfInBounds_toArray, List.set_cons_succ, List.set_cons_zero]
      refine wpAnyE_takeD (i := 1) (some 20) (v := (.int .i64 (k : Int))) (fun _ => trivial) (by kernel_rfl) rfl rfl (by kernel_rfl) (by kernel_rfl) (by kernel_rfl) (by kernel_rfl) (fun _ _ _ h => by cases h.1) hC0 (Or.inl ⟨by rfl, fun w' hC => by obtain ⟨e1, e2, e3, e4, e5, e6, e7, e8⟩ := LC.out w' hC; clear hC; go_simp⟩) ?_
      simp only [Act.put, List.setIfInBounds_toArray, List.set_cons_succ, List.set_cons_zero]
      refine wpAnyE_takeD (i := 2) (some 21) (v := (.pointer (some ⟨g1, o1 + k * 4, none⟩))) (fun _ => trivial) (by kernel_rfl) rfl rfl (by kernel_rfl) (by kernel_rfl) (by kernel_rfl) (by kernel_rfl) (fun _ _ _ h => by cases h.1) hC0 (Or.inl ⟨by rfl, fun w' hC => by obtain ⟨e1, e2, e3, e4, e5, e6, e7, e8⟩ := LC.out w' hC; clear hC; go_simp⟩) ?_
      simp only [Act.put, List.setIfInBounds_toArray, List.set_cons_succ, List.set_cons_zero]
      refine wpAnyE_takeD (i := 3) (some 22) (v := (.agg #[.int .u16 xo, .int .u32 xt, .int .u32 xr, .slice aj nj cj])) (fun _ => trivial) (by kernel_rfl) rfl rfl (by kernel_rfl) (by kernel_rfl) (by kernel_rfl) (by kernel_rfl) (fun _ _ _ h => by cases h.1) hC0 (Or.inl ⟨by rfl, fun w' hC => by obtain ⟨e1, e2, e3, e4, e5, e6, e7, e8⟩ := LC.out w' hC; clear hC; go_simp⟩) ?_
      simp only [Act.put, List.setIfInBounds_toArray, List.set_cons_succ, List.set_cons_zero]
      refine wpAnyE_takeD (i := 5) (some 24) (v := (.slice (some ⟨g2, o2, none⟩) n cb)) (fun _ => trivial) (by kernel_rfl) rfl rfl (by kernel_rfl) (by kernel_rfl) (by kernel_rfl) (by kernel_rfl) (fun _ _ _ h => by cases h.1) hC0 (Or.inl ⟨by rfl, fun w' hC => by obtain ⟨e1, e2, e3, e4, e5, e6, e7, e8⟩ := LC.out w' hC; clear hC; go_simp⟩) ?_
      simp only [Act.put, List.setIfInBounds_toArray, List.set_cons_succ, List.set_cons_zero]
      refine wpAnyE_takeD (i := 6) (some 25) (v := (.int .i64 (k : Int))) (fun _ => trivial) (by kernel_rfl) rfl rfl (by kernel_rfl) (by kernel_rfl) (by kernel_rfl) (by kernel_rfl) (fun _ _ _ h => by cases h.1) hC0 (Or.inl ⟨by rfl, fun w' hC => by obtain ⟨e1, e2, e3, e4, e5, e6, e7, e8⟩ := LC.out w' hC; clear hC; go_simp⟩) ?_
      simp only [Act.put, List.setIfInBounds_toArray, List.set_cons_succ, List.set_cons_zero]
      refine wpAnyE_takeD (i := 7) (some 26) (v := (.pointer (some ⟨g2, o2 + k * 4, none⟩))) (fun _ => trivial) (by kernel_rfl) rfl rfl (by kernel_rfl) (by kernel_rfl) (by kernel_rfl) (by kernel_rfl) (fun _ _ _ h => by cases h.1) hC0 (Or.inl ⟨by rfl, fun w' hC => by obtain ⟨e1, e2, e3, e4, e5, e6, e7, e8⟩ := LC.out w' hC; clear hC; go_simp⟩) ?_
      simp only [Act.put, List.setIfInBounds_toArray, List.set_cons_succ, List.set_cons_zero]
      refine wpAnyE_takeD (i := 8) (some 27) (v := (.agg #[.int .u16 yo, .int .u32 yt, .int .u32 yr, .slice ak nk ck])) (fun _ => trivial) (by kernel_rfl) rfl rfl (by kernel_rfl) (by kernel_rfl) (by kernel_rfl) (by kernel_rfl) (fun _ _ _ h => by cases h.1) hC0 (Or.inl ⟨by rfl, fun w' hC => by obtain ⟨e1, e2, e3, e4, e5, e6, e7, e8⟩ := LC.out w' hC; clear hC; go_simp⟩) ?_
      simp only [Act.put, List.setIfInBounds_toArray, List.set_cons_succ, List.set_cons_zero]
      refine wpAnyE_ready (rs := [4]) (by kernel_rfl) (by simp) ?_
      refine AllE.cons rfl (fun Kk hK => ?_) AllE.nil
      go_simp
      refine ⟨trivial, rfl, (callsIn_wide.2 (HXD.out wr.drew HT.out.bel.drew)).mono ?_⟩
      rintro e w5 ⟨vx, rfl, hown5, hb5⟩
      dsimp only
      have hC5 : Below wr.heap.size wr w5 := (below_drew wr).trans (show Below wr.heap.size wr.drew w5 from hb5)
      refine hK _ _ (.inr hC5) ?_
      clear hK Kk
      refine wpAnyE_ready (rs := [9]) (by kernel_rfl) (by simp) ?_
      refine AllE.cons rfl (fun Kk hK => ?_) AllE.nil
      go_simp
      refine ⟨trivial, rfl, (callsIn_wide.2 (HYD.out w5 (HT.out.bel.trans (hC5.mono HT.out.bel.size)))).mono ?_⟩
      rintro e w6 ⟨vy, rfl, hown6, hb6⟩
      dsimp only
      have hC6 : Below wr.heap.size wr w6 := hC5.trans (hb6.mono hC5.size)
      refine hK _ _ (.inr hC6) ?_
      clear hK Kk
      obtain ⟨a5, c5, rfl⟩ := own_shapeU hown5
      obtain ⟨a6, c6, rfl⟩ := own_shapeU hown6
      have HO5 : Hid (w6.ownsRow (wr.heap.size + 1) 22 1 (.slice a5 X.length c5) X.length (X.map (Value.int .u32))) := own_below hown5 hb6
      have HO6 : Hid (w6.ownsRow (wr.heap.size + 1) 22 1 (.slice a6 Y.length c6) Y.length (Y.map (Value.int .u32))) := own_lowU hown6 (by have := hC5.size; omega)
      have HT6 := hide (HT.out.below hC6)
      refine wpAnyE_ready (rs := [10]) (by kernel_rfl) (by simp) ?_
      refine AllE.cons rfl (fun Kk hK => ?_) AllE.nil
      go_simp
      refine hK _ _ (.inr hC6) ?_
      clear hK Kk
      refine wpAnyE_ready (rs := [11]) (by kernel_rfl) (by simp) ?_
      refine AllE.cons rfl (fun Kk hK => ?_) AllE.nil
      go_simp
      refine hK _ _ (.inr hC6) ?_
      clear hK Kk
      refine wpAnyE_done (by kernel_rfl) ⟨rfl, ?_⟩ _
      have HWS : Hid (wr.heap.size ≤ w6.heap.size ∧ w.heap.size + 3 < wr.heap.size) := ⟨hC6.size, HT.out.size⟩
      clear hC0 hC5 hC6 hown5 hown6 hb5 hb6 LC HXD HYD HT
      rw [then_normalP]
      have hxb : (X.length : Int) ≤ 5864062014636 := by have := HLX.out; omega
      by_cases hXY : X.length = Y.length
      · have HXY := hide hXY
        have hxy : ((X.length : Int) != (Y.length : Int)) = false := by rw [hXY]; simp
        clear hXY
        go_wp2_with fail
        have hx0 : (X.length : Int) < 140737488351232 := by omega
        go_loopw [37] (fun i wz => ∃ j : Nat, j ≤ X.length ∧ i = .int .i64 j ∧ PoB w wz (pairTo l m k ++ (X.zip Y).take j) ∧ Bij (pairTo l m k ++ (X.zip Y).take j) ∧ KeepP (w.heap.size + 1) (w.heap.size + 2) w6 wz) (fun i _ => X.length - (intOf i).toNat)
        case atStart => exact ⟨0, Nat.zero_le _, rfl, by simpa using HT6.out, by simpa using HBJ.out, keepP_below (Below.refl _ _)⟩
        case round =>
          obtain ⟨j, hj, rfl, hT7, hB7, hK7⟩ := hrel
          have HT7 := hide hT7
          have HB7 := hide hB7
          have HK7 := hide hK7
          clear hT7 hB7 hK7
          have hj0 : (0 : Int) ≤ (j : Int) := by omega
          by_cases hjl : j < X.length
          · have hji : (j : Int) < (X.length : Int) := by omega
            have hjy : (j : Int) < (Y.length : Int) := by have := HXY.out; omega
            obtain ⟨b5, z5, rfl, s5, v5⟩ := View.ofOwn HO5.out rfl j hjl
            obtain ⟨b6, z6, rfl, s6, v6⟩ := View.ofOwn HO6.out rfl j (by rw [← HXY.out]; exact hjl)
            have l5 := (HO5.out.lt b5 rfl).1
            have l6 := (HO6.out.lt b6 rfl).1
            have hws := HWS.out
            obtain ⟨pb, _⟩ := one_block HT7.out.pbox
            have LC : Hid (∀ w', KeepP (w.heap.size + 1) (w.heap.size + 2) wr w' → w'.cell? ⟨b5, z5 + j, none⟩ = some (.int .u32 (nth X j)) ∧ w'.cell? ⟨b6, z6 + j, none⟩ = some (.int .u32 (nth Y j)) ∧ w'.cell? ⟨w.heap.size + 3, 0, none⟩ = some (.map (some (w.heap.size + 1))) ∧ w'.cell? ⟨w.heap.size + 3, 1, none⟩ = some (.map (some (w.heap.size + 2)))) := fun w' h => by
              have hz := HK7.out.size
              have hp := HT7.out.size
              exact ⟨(h.cell (p := ⟨b5, z5 + j, none⟩) (show b5 < _ by omega) (show b5 ≠ _ by omega) (show b5 ≠ _ by omega)).trans ((HK7.out.cell (p := ⟨b5, z5 + j, none⟩) (show b5 < _ by omega) (show b5 ≠ _ by omega) (show b5 ≠ _ by omega)).trans v5),
                (h.cell (p := ⟨b6, z6 + j, none⟩) (show b6 < _ by omega) (show b6 ≠ _ by omega) (show b6 ≠ _ by omega)).trans ((HK7.out.cell (p := ⟨b6, z6 + j, none⟩) (show b6 < _ by omega) (show b6 ≠ _ by omega) (show b6 ≠ _ by omega)).trans v6),
                (h.cell (p := ⟨w.heap.size + 3, 0, none⟩) (by show w.heap.size + 3 < _; omega) (by show w.heap.size + 3 ≠ _; omega) (by show w.heap.size + 3 ≠ _; omega)).trans (pb 0), (h.cell (p := ⟨w.heap.size + 3, 1, none⟩) (by show w.heap.size + 3 < _; omega) (by show w.heap.size + 3 ≠ _; omega) (by show w.heap.size + 3 ≠ _; omega)).trans (pb 1)⟩
            have hmx : nth X j ∈ X := nthP_mem hjl
            have hmy : nth Y j ∈ Y := nthP_mem (by rw [← HXY.out]; exact hjl)
            have hxp := HPX.out _ hmx
            have hyp := HPY.out _ hmy
            have hzl : (pairTo l m k ++ (X.zip Y).take j).length < maxLen := by
              have h1 := HPL.out
              have h2 := HLX.out
              have h3 := HMX.out
              rw [List.length_append, List.length_take]
              have : 5864062014636 * k + 5864062014636 ≤ 5864062014636 * (n + 1) := by omega
              omega
            have hJd := pairJoin_any (w.heap.size + 1) (w.heap.size + 2) (pairTo l m k ++ (X.zip Y).take j) (nth X j) (nth Y j) wr.drew ⟨HT7.out.prm.there.block rfl, HT7.out.prm.back.block rfl, by omega⟩ HB7.out hzl hxp.1 hxp.2 hyp.1 hyp.2
            have hzs := zip_take_succ HXY.out hjl
            rw [List.append_assoc, ← hzs] at hJd
            have HJD := hide hJd
            have HNB : Hid (Bij (pairTo l m n) → Bij (pairTo l m k ++ (X.zip Y).take (j + 1))) := fun h => by
              rw [HRE.out, HPT.out, ← List.take_append_drop (j + 1) (X.zip Y), ← List.append_assoc, List.append_assoc] at h
              exact h.front
            clear hJd hzs hzl hxp hyp hmx hmy v5 v6 l5 l6 s5 s6 pb hws
            generalize nth X j = xj at *
            generalize nth Y j = yj at *
            go_wp2_with fail
            have hC0 : KeepP (w.heap.size + 1) (w.heap.size + 2) wr wr.drew := KeepP.drew wr
            have hmix : Try.prog.follows .mixedOrders = true := by kernel_rfl
            refine (wpIn_wide (n := 0)).1 ?_
            refine wpIn_normal (wpIn_region_any hmix (wpAnyE_sound (C := KeepP (w.heap.size + 1) (w.heap.size + 2) wr) (E := fun _ => false) _ _ _ _ ?_))
            change wpAnyE _ _ _ _ _ _ _ _ _ _ _ (World.drew _)
            refine wpAnyE_takeD (i := 0) (some 40) (v := (.agg #[.map (some (w.heap.size + 1)), .map (some (w.heap.size + 2))])) (fun _ => trivial) (by kernel_rfl) rfl rfl (by kernel_rfl) (by kernel_rfl) (by kernel_rfl) (by kernel_rfl) (fun _ _ _ h => by cases h.1) hC0 (Or.inl ⟨by rfl, fun w' hC => by obtain ⟨e1, e2, e3, e4⟩ := LC.out w' hC; clear hC; go_simp⟩) ?_
            simp only [Act.put, List.setIfInBounds_toArray, List.set_cons_succ, List.set_cons_zero]
            refine wpAnyE_takeD (i := 1) (some 41) (v := (.slice (some ⟨b5, z5, none⟩) X.length c5)) (fun _ => trivial) (by kernel_rfl) rfl rfl (by kernel_rfl) (by kernel_rfl) (by kernel_rfl) (by kernel_rfl) (fun _ _ _ h => by cases h.1) hC0 (Or.inl ⟨by rfl, fun w' hC => by obtain ⟨e1, e2, e3, e4⟩ := LC.out w' hC; clear hC; go_simp⟩) ?_
            simp only [Act.put, List.setIfInBounds_toArray, List.set_cons_succ, List.set_cons_zero]
            refine wpAnyE_takeD (i := 2) (some 42) (v := (.int .i64 (j : Int))) (fun _ => trivial) (by kernel_rfl) rfl rfl (by kernel_rfl) (by kernel_rfl) (by kernel_rfl) (by kernel_rfl) (fun _ _ _ h => by cases h.1) hC0 (Or.inl ⟨by rfl, fun w' hC => by obtain ⟨e1, e2, e3, e4⟩ := LC.out w' hC; clear hC; go_simp⟩) ?_
            simp only [Act.put, List.setIfInBounds_toArray, List.set_cons_succ, List.set_cons_zero]
            refine wpAnyE_takeD (i := 3) (some 43) (v := (.pointer (some ⟨b5, z5 + j, none⟩))) (fun _ => trivial) (by kernel_rfl) rfl rfl (by kernel_rfl) (by kernel_rfl) (by kernel_rfl) (by kernel_rfl) (fun _ _ _ h => by cases h.1) hC0 (Or.inl ⟨by rfl, fun w' hC => by obtain ⟨e1, e2, e3, e4⟩ := LC.out w' hC; clear hC; go_simp⟩) ?_
            simp only [Act.put, List.setIfInBounds_toArray, List.set_cons_succ, List.set_cons_zero]
            refine wpAnyE_takeD (i := 4) (some 44) (v := (.int .u32 xj)) (fun _ => trivial) (by kernel_rfl) rfl rfl (by kernel_rfl) (by kernel_rfl) (by kernel_rfl) (by kernel_rfl) (fun _ _ _ h => by cases h.1) hC0 (Or.inl ⟨by rfl, fun w' hC => by obtain ⟨e1, e2, e3, e4⟩ := LC.out w' hC; clear hC; go_simp⟩) ?_
            simp only [Act.put, List.setIfInBounds_toArray, List.set_cons_succ, List.set_cons_zero]
            refine wpAnyE_takeD (i := 5) (some 45) (v := (.slice (some ⟨b6, z6, none⟩) Y.length c6)) (fun _ => trivial) (by kernel_rfl) rfl rfl (by kernel_rfl) (by kernel_rfl) (by kernel_rfl) (by kernel_rfl) (fun _ _ _ h => by cases h.1) hC0 (Or.inl ⟨by rfl, fun w' hC => by obtain ⟨e1, e2, e3, e4⟩ := LC.out w' hC; clear hC; go_simp⟩) ?_
            simp only [Act.put, List.setIfInBounds_toArray, List.set_cons_succ, List.set_cons_zero]
            refine wpAnyE_takeD (i := 6) (some 46) (v := (.int .i64 (j : Int))) (fun _ => trivial) (by kernel_rfl) rfl rfl (by kernel_rfl) (by kernel_rfl) (by kernel_rfl) (by kernel_rfl) (fun _ _ _ h => by cases h.1) hC0 (Or.inl ⟨by rfl, fun w' hC => by obtain ⟨e1, e2, e3, e4⟩ := LC.out w' hC; clear hC; go_simp⟩) ?_
            simp only [Act.put, List.setIfInBounds_toArray, List.set_cons_succ, List.set_cons_zero]
            refine wpAnyE_takeD (i := 7) (some 47) (v := (.pointer (some ⟨b6, z6 + j, none⟩))) (fun _ => trivial) (by kernel_rfl) rfl rfl (by kernel_rfl) (by kernel_rfl) (by kernel_rfl) (by kernel_rfl) (fun _ _ _ h => by cases h.1) hC0 (Or.inl ⟨by rfl, fun w' hC => by obtain ⟨e1, e2, e3, e4⟩ := LC.out w' hC; clear hC; go_simp⟩) ?_
            simp only [Act.put, List.setIfInBounds_toArray, List.set_cons_succ, List.set_cons_zero]
            refine wpAnyE_takeD (i := 8) (some 48) (v := (.int .u32 yj)) (fun _ => trivial) (by kernel_rfl) rfl rfl (by kernel_rfl) (by kernel_rfl) (by kernel_rfl) (by kernel_rfl) (fun _ _ _ h => by cases h.1) hC0 (Or.inl ⟨by rfl, fun w' hC => by obtain ⟨e1, e2, e3, e4⟩ := LC.out w' hC; clear hC; go_simp⟩) ?_
            simp only [Act.put, List.setIfInBounds_toArray, List.set_cons_succ, List.set_cons_zero]
            refine wpAnyE_ready (rs := [9]) (by kernel_rfl) (by simp) ?_
            refine AllE.cons rfl (fun Kk hK => ?_) AllE.nil
            go_simp
            refine ⟨trivial, rfl, (callsIn_wide.2 HJD.out).mono ?_⟩
            rintro e w8 ⟨r, rfl, hr1, hr2, hr3⟩
            dsimp only
            have hC8 : KeepP (w.heap.size + 1) (w.heap.size + 2) wr w8 := hC0.trans hr3
            refine hK _ _ (.inr hC8) ?_
            clear hK Kk
            have HR1 := hide hr1
            have HR2 := hide hr2
            have HK8 := hide hC8
            cases r with
            | true =>
              refine wpAnyE_ready (rs := [10]) (by kernel_rfl) (by simp) ?_
              refine AllE.cons rfl (fun Kk hK => ?_) AllE.nil
              go_simp
              refine hK _ _ (.inr hC8) ?_
              clear hK Kk
              refine wpAnyE_done (by kernel_rfl) ⟨rfl, ?_⟩ _
              have HF8 := hide (HT7.out.join HK8.out (HR2.out rfl))
              have HBF := hide (HR1.out.1 rfl)
              have HKF := hide (HK7.out.trans HK8.out)
              clear hC0 hC8 hr1 hr2 hr3 LC HJD HNB
              rw [then_normalP]
              go_wp2_with fail
              go_roundw
              case rel => exact ⟨j + 1, by omega, by go_num, HF8.out, HBF.out, HKF.out⟩
              case measure => simp [intOf]; omega
            | false =>
              refine wpAnyE_ready (rs := [10]) (by kernel_rfl) (by simp) ?_
              refine AllE.cons rfl (fun Kk hK => ?_) AllE.nil
              go_simp
              refine hK _ _ (.inr hC8) ?_
              clear hK Kk
              refine wpAnyE_done (by kernel_rfl) ⟨rfl, ?_⟩ _
              have HNO : Hid (¬ Bij (pairTo l m n)) := fun h => by have := HR1.out.2 (HNB.out h); cases this
              have hrb : w8.heap[w.heap.size]? = some (.cells #[.map none, .map none] 48 (0, 0)) := (HK8.out.block _ (by have := HT7.out.size; omega) (by omega) (by omega)).trans HT7.out.rbox
              have HBE := hide (HK8.out.bel HT7.out.bel (by omega) (by omega))
              obtain ⟨r0, rf⟩ := one_block hrb
              have r1 := r0 0
              have r2 := r0 1
              have f1 := rf 0
              have f2 := rf 1
              have HBB : Hid (Below w.heap.size w ((w8.setCell ⟨w.heap.size, 0, none⟩ (.map none)).setCell ⟨w.heap.size, 1, none⟩ (.map none))) := (HBE.out.setCell (by simp) _).setCell (by simp) _
              obtain ⟨z0, z1⟩ := one_block (two_nilP hrb (.map none) (.map none))
              have y1 := z0 0
              have y2 := z0 1
              clear hC0 hC8 hr1 hr2 hr3 LC HJD HNB hrb r0 rf z0 z1
              rw [then_normalP]
              go_wp2_with fail
              generalize (w8.setCell ⟨w.heap.size, 0, none⟩ (.map none)).setCell ⟨w.heap.size, 1, none⟩ (.map none) = Z at *
              refine bodyPost_ret (v := .tuple #[.agg #[.map none, .map none], .bool false]) (by simp [results, Try.results17, go_sem, y1, y2]) rfl ?_
              exact ⟨.agg #[.map none, .map none], false, rfl, ⟨fun h => Bool.noConfusion h, fun h => (HNO.out h.2).elim⟩, fun h => Bool.noConfusion h, fun _ => rfl, HBB.out⟩
          · obtain rfl : j = X.length := by omega
            have hza : (X.zip Y).take X.length = X.zip Y := List.take_of_length_le (by rw [List.length_zip]; omega)
            have HF7 := HT7.out
            have HBF := HB7.out
            rw [hza, ← HPT.out] at HF7 HBF
            have HF8 := hide HF7
            have HBF8 := hide HBF
            have HLF := hide (HLS.out HXY.out)
            clear hza HF7 HBF
            go_wp2_with fail
            go_roundw
            case rel => exact ⟨k + 1, by omega, by go_num, HF8.out, HBF8.out, HLF.out⟩
            case measure => simp [intOf]; omega
      · have hxy : ((X.length : Int) != (Y.length : Int)) = true := by simp; omega
        have HNL : Hid (¬ LenP l m n) := fun h => hXY (HLN.out h)
        obtain ⟨r0, rf⟩ := one_block HT6.out.rbox
        have r1 := r0 0
        have r2 := r0 1
        have f1 := rf 0
        have f2 := rf 1
        have HBB : Hid (Below w.heap.size w ((w6.setCell ⟨w.heap.size, 0, none⟩ (.map none)).setCell ⟨w.heap.size, 1, none⟩ (.map none))) := (HT6.out.bel.setCell (by simp) _).setCell (by simp) _
        obtain ⟨z0, z1⟩ := one_block (two_nilP HT6.out.rbox (.map none) (.map none))
        have y1 := z0 0
        have y2 := z0 1
        clear hXY r0 rf z0 z1
        go_wp2_with fail
        generalize (w6.setCell ⟨w.heap.size, 0, none⟩ (.map none)).setCell ⟨w.heap.size, 1, none⟩ (.map none) = Z at *
        refine bodyPost_ret (v := .tuple #[.agg #[.map none, .map none], .bool false]) (by simp [results, Try.results17, go_sem, y1, y2]) rfl ?_
        exact ⟨.agg #[.map none, .map none], false, rfl, ⟨fun h => Bool.noConfusion h, fun h => (HNL.out h.1).elim⟩, fun h => Bool.noConfusion h, fun _ => rfl, HBB.out⟩
    · obtain rfl : k = n := by omega
      obtain ⟨r0, rf⟩ := one_block HT.out.rbox
      have r1 := r0 0
      have r2 := r0 1
      have f1 := rf 0
      have f2 := rf 1
      obtain ⟨s0, sf⟩ := one_block HT.out.pbox
      have s1 := s0 0
      have s2 := s0 1
      obtain ⟨z0, z1⟩ := one_block (two_nilP HT.out.rbox (.map (some (w.heap.size + 1))) (.map (some (w.heap.size + 2))))
      have y1 := z0 0
      have y2 := z0 1
      have HFI : Hid (Below w.heap.size w ((wr.setCell ⟨w.heap.size, 0, none⟩ (.map (some (w.heap.size + 1)))).setCell ⟨w.heap.size, 1, none⟩ (.map (some (w.heap.size + 2)))) ∧ PrM ((wr.setCell ⟨w.heap.size, 0, none⟩ (.map (some (w.heap.size + 1)))).setCell ⟨w.heap.size, 1, none⟩ (.map (some (w.heap.size + 2)))) (w.heap.size + 1) (w.heap.size + 2) (pairTo l m k)) := by
        refine ⟨(HT.out.bel.setCell (by simp) _).setCell (by simp) _, ⟨HT.out.prm.there.block ?_, HT.out.prm.back.block ?_, by omega⟩⟩ <;> simp [World.setCell, Array.getElem?_modify] <;> omega
      clear r0 rf s0 sf z0 z1
      go_wp2_with fail
      generalize (wr.setCell ⟨w.heap.size, 0, none⟩ (.map (some (w.heap.size + 1)))).setCell ⟨w.heap.size, 1, none⟩ (.map (some (w.heap.size + 2))) = Z at *
      refine bodyPost_ret (v := .tuple #[.agg #[.map (some (w.heap.size + 1)), .map (some (w.heap.size + 2))], .bool true]) (by simp [results, Try.results17, go_sem, y1, y2]) rfl ?_
      exact ⟨.agg #[.map (some (w.heap.size + 1)), .map (some (w.heap.size + 2))], true, rfl, ⟨fun _ => ⟨HLP.out, HBJ.out⟩, fun _ => rfl⟩, fun _ => ⟨_, _, rfl, HFI.out.2⟩, fun h => Bool.noConfusion h, HFI.out.1⟩

end Go.Proofs.Ytjckgnpbjekhbaa

/-
  What slices.Clone of arguments returns: the arguments in new memory; nothing that was there has turned.
-/
namespace Go.Proofs.Ytjckgnpbjekhbaa
open Go.RowKit
set_option linter.unusedVariables false
set_option linter.unusedSimpArgs false
set_option maxRecDepth 10000

theorem CloneA.info : (Try.prog.info? 55).map (fun i => (i.zero, i.size, i.bytes)) = some (some (.agg #[.int .u8 0, .int .u32 0, .string ⟨#[]⟩]), 3, 24) := by kernel_rfl

set_option maxHeartbeats 1000000 in
theorem cloneA_any (a : Option Addr) (n cap : Nat) (l : List ArgT) (w : World) (hv : ArgsV w a l) (hl : l.length = n) (hn : 24 * n ≤ 140737488351232) :
    Calls Try.prog 47 #[.slice a n cap] w fun e w' => ∃ v, e = .returned v ∧ w'.ownsRow w.heap.size 55 3 v n (l.flatMap argC) ∧ Below w.heap.size w w' := by
  obtain ⟨i0, hi, hz0, hz1, hz2⟩ := info_parts CloneA.info
  have hnn := fun w => Lib.run_eql_slice_nil (P := Try.prog) w 36 55 a n cap 0 0 Try.underlying36
  cases a with
  | none =>
    simp only [Option.isNone_none] at hnn
    obtain rfl : l = [] := by
      cases l with
      | nil => rfl
      | cons x l => obtain ⟨_, _, e, _⟩ := hv 0 (by simp); cases e
    simp at hl
    subst hl
    clear hv
    go_enter Try.func47, Try.ntmps47
    go_wp2_with fail
    go_ret
    exact ⟨.slice none 0 0, rfl, World.ownsRow_nil _ _ _ _, Below.refl _ _⟩
  | some x =>
    simp only [Option.isNone_some] at hnn
    have hbs : ∀ w, (Instr.buildSlice 36 0 #[]).run Try.prog w = .ok (.slice (some ⟨w.heap.size, 0, none⟩) 0 0) (w.alloc (.cells #[] 55)) := fun w => by kernel_rfl
    have hown0 : (w.alloc (.cells #[] 55)).ownsRow w.heap.size 55 3 (.slice (some ⟨w.heap.size, 0, none⟩) 0 0) 0 [] := World.ownsRow_lit w #[] 0 (Nat.le_refl _) (by unfold maxLen; omega) rfl
    have hnews : ∀ j u, (l.flatMap argC)[j]? = some u → (w.alloc (.cells #[] 55)).cell? (x.add j) = some u := by
      intro j u hj
      have hjl : j < l.length * 3 := by
        rcases Nat.lt_or_ge j (l.length * 3) with h | h
        · exact h
        · rw [List.getElem?_eq_none (by rw [flat_lenU]; exact h)] at hj; cases hj
      have e1 : j = (j / 3) * 3 + j % 3 := by omega
      have hk : j / 3 < l.length := by omega
      obtain ⟨b, off, e, hb, c0, c1, c2⟩ := hv (j / 3) hk
      simp only [Option.some.injEq] at e
      subst e
      rw [e1, flat_argU l (j / 3) (j % 3) hk (Nat.mod_lt _ (by decide))] at hj
      rw [Addr.add_lit, World.cell?_alloc_past _ _ _ hb]
      have h3 : j % 3 = 0 ∨ j % 3 = 1 ∨ j % 3 = 2 := by omega
      rcases h3 with h3 | h3 | h3
      · rw [h3] at hj e1; rw [show off + j = off + j / 3 * 3 by omega, c0, ← hj]; rfl
      · rw [h3] at hj e1; rw [show off + j = off + j / 3 * 3 + 1 by omega, c1, ← hj]; rfl
      · rw [h3] at hj e1; rw [show off + j = off + j / 3 * 3 + 2 by omega, c2, ← hj]; rfl
    have HL : Hid (l.length = n) := hl
    have H1 : Hid (∀ u ∈ l.flatMap argC, u.oneCell' = true) := by
      intro u hu
      obtain ⟨y, _, hy⟩ := List.mem_flatMap.1 hu
      simp [argC] at hy
      rcases hy with rfl | rfl | rfl <;> rfl
    clear hl hv
    go_enter Try.func47, Try.ntmps47
    go_wp2_with (at_builtin; refine wpList_append_own _ rfl (.tmp 5) (.tmp 6) 36 rfl w.heap.size 55 i0 (.agg #[.int .u8 0, .int .u32 0, .string ⟨#[]⟩]) 3 24 Try.underlying36 hi hz0 hz1 hz2 rfl (by decide) _ _ _ rfl hown0 x n cap (l.flatMap argC) rfl (by rw [flat_lenU, HL.out]) hnews H1.out (by unfold maxLen; omega) (by omega) (by simp) ?_)
    intro v' w1 hown1 hgrow1 hnil1
    have hb1 : Below w.heap.size w w1 := ((Below.refl _ w).alloc (Nat.le_refl _) _).grown hgrow1 (by simp) (fun k hk => by simp [Value.ownBlock] at hk; omega)
    have HO := hide hown1
    have HB := hide hb1
    clear hnil1 hgrow1 hnews hown0 hown1 hb1
    go_wp2_with fail
    go_ret
    exact ⟨v', rfl, HO.out, HB.out⟩

end Go.Proofs.Ytjckgnpbjekhbaa
