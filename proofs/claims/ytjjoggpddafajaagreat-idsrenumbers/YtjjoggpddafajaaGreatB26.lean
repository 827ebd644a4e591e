/-
  Texts laid together in one: Ref09Turn, Ref09Renumber, KitCopyInst.
-/
import Derived.WalkSpells
import Derived.WalkMore
import Derived.BigRegion
import Derived.OwnWalkIn
import Derived.TacticsInMore
import Derived.Test.YtjjoggpddafajaaGreatProg
import Derived.Test.YtjjoggpddafajaaGreatB25
import Derived.Test.YtjjoggpddafajaaGreatB09
import Derived.Deep.RegionWith
import Derived.Test.YtjjoggpddafajaaGreatB23
import Derived.Deep.DrawnRows
import Derived.Deep.QuietTactic
import Derived.BigQuiet
import Derived.Test.YtjjoggpddafajaaGreatB12
import Derived.Test.YtjjoggpddafajaaGreatB01
/-
  The document's Turn: a module with other ids, by a list of numbers.
-/
namespace Go.Proofs.YtjjoggpddafajaaGreat
open Go.RowKit
set_option linter.unusedVariables false
set_option linter.unusedSimpArgs false
set_option maxRecDepth 10000

/-- While a module is turned: its box, the answer's, the new one's, and the instructions so far. -/
structure TunB (w : World) (gen bnd : Int) (a : Option Addr) (n c : Nat) (v : Value) (l : List InstT) (W : World) : Prop where
  mbox : W.heap[w.heap.size]? = some (.cells #[.int .u32 gen, .int .u32 bnd, .slice a n c] 25 (0, 0))
  rbox : W.heap[w.heap.size + 1]? = some (.cells #[.int .u32 0, .int .u32 0, .slice none 0 0] 25 (0, 0))
  xbox : W.heap[w.heap.size + 2]? = some (.cells #[.int .u32 gen, .int .u32 bnd, v] 25 (0, 0))
  row : ∃ cs, W.ownsRow (w.heap.size + 3) 40 4 v l.length cs ∧ EachW W (w.heap.size + 3) v.ownBlock l cs
  bel : Below w.heap.size w W
theorem TunB.size {w W : World} {gen bnd : Int} {a : Option Addr} {n c : Nat} {v : Value} {l : List InstT} (h : TunB w gen bnd a n c v l W) : w.heap.size + 2 < W.heap.size := (Array.getElem?_eq_some_iff.1 h.xbox).1

theorem then_normalT {K : Act → World → Prop} {Q : Exit → Act → World → Prop} {a : Act} {w : World} : Exit.then K Q .normal a w = K a w := rfl
theorem inBlock_thenT {b : Nat} {K : Act → World → Prop} {Q : Exit → Act → World → Prop} {a : Act} {w : World} : Exit.inBlock b (Exit.then K Q) .normal a w = K a w := rfl
theorem below_keep {B : Nat} {w W w' : World} (hB : B ≤ W.heap.size) (h : Below W.heap.size W w') : Below B W w' := h.mono hB

set_option maxHeartbeats 8000000 in
theorem refTurn9_any (zs : List Int) (ta : Option Addr) (tn tc : Nat) (gen bnd : Int) (a : Option Addr) (n c : Nat) (l : List InstT) (w : World) (hv : InstsV w a l) (hok : InstsOk l) (hl : l.length = n) (hn : 40 * n ≤ 140737488351232) (tv : View .u32 w ta zs) (tl : zs.length = tn) (h0 : nth zs 0 = 0) (htn : 0 < tn)
    (pa : ∀ k, k < n → ((nthI l k).2.1 ≠ 0 → InB tn (nthI l k).2.1) ∧ ((nthI l k).2.2.1 ≠ 0 → InB tn (nthI l k).2.2.1) ∧ ∀ j, j < (nthI l k).2.2.2.length → (nthA (nthI l k).2.2.2 j).1 = 1 → InB tn (nthA (nthI l k).2.2.2 j).2.1) :
    Calls Tryz.prog 10 #[modV gen bnd a n c, .slice ta tn tc] w fun e w' => ∃ a' c' cs, e = .returned (modV gen bnd a' n c') ∧ w'.ownsRow (w.heap.size + 3) 40 4 (.slice a' n c') n cs ∧ EachW w' (w.heap.size + 3) (Value.ownBlock (.slice a' n c')) (turnL (fW zs) l) cs ∧ Below w.heap.size w w' := by
  obtain ⟨i0, hi, hz0, hz1, hz2⟩ := info_parts RowT.info
  have HI : Hid (Tryz.prog.info? 40 = some i0 ∧ i0.zero = some (.agg #[.int .u16 0, .int .u32 0, .int .u32 0, .slice none 0 0]) ∧ i0.size = 4 ∧ i0.bytes = 40) := ⟨hi, hz0, hz1, hz2⟩
  have HTN : Hid (∀ i : Int, 0 ≤ i → (i ≠ 0 → InB tn i) → tN (fW zs) i = fW zs i ∧ i < (tn : Int)) := fun i hi hb => by
    by_cases e : i = 0
    · subst e; exact ⟨by unfold tN fW; simp [h0], by omega⟩
    · exact ⟨by unfold tN; rw [if_neg e], (hb e).2⟩
  have HV := hide hv
  have HOK := hide hok
  have HL := hide hl
  have HN : Hid (40 * n ≤ 140737488351232) := hn
  have HTV := hide tv
  have HTL := hide tl
  have HPA := hide pa
  have HTK : Hid (∀ k, k < n → turnL (fW zs) (l.take (k + 1)) = turnL (fW zs) (l.take k) ++ [turnX (fW zs) (nthI l k)]) := fun k hk => by
    have hkl : k < l.length := by omega
    unfold turnL
    rw [List.take_add_one, List.getElem?_eq_getElem hkl, List.map_append]
    simp [nthI, List.getD, hkl]
  have HAL : Hid (l.take n = l) := List.take_of_length_le (by omega)
  have HLK : Hid (∀ k, k ≤ n → (turnL (fW zs) (l.take k)).length = k) := fun k hk => by rw [turnL_len, List.length_take]; omega
  unfold modV
  have hb0 : Below w.heap.size w (((w.alloc (.cells #[.int .u32 gen, .int .u32 bnd, .slice a n c] 25)).alloc (.cells #[.int .u32 0, .int .u32 0, .slice none 0 0] 25)).alloc (.cells #[.int .u32 gen, .int .u32 bnd, .slice none 0 0] 25)) := (((Below.refl _ w).alloc (Nat.le_refl _) _).alloc (by simp) _).alloc (by simp; omega) _
  have HT0 : Hid (TunB w gen bnd a n c (.slice none 0 0) (turnL (fW zs) (l.take 0)) (((w.alloc (.cells #[.int .u32 gen, .int .u32 bnd, .slice a n c] 25)).alloc (.cells #[.int .u32 0, .int .u32 0, .slice none 0 0] 25)).alloc (.cells #[.int .u32 gen, .int .u32 bnd, .slice none 0 0] 25))) := by
    refine ⟨?_, ?_, ?_, ⟨[], by simpa [turnL] using World.ownsRow_nil _ _ _ _, by simpa [turnL] using eachW_nil _ _ _⟩, hb0⟩
    · rw [Below.heap_alloc _ _ _ (by simp; omega), Below.heap_alloc _ _ _ (by simp)]; exact heap_alloc_new _ _
    · rw [Below.heap_alloc _ _ _ (by simp)]; have := heap_alloc_new (w.alloc (.cells #[.int .u32 gen, .int .u32 bnd, .slice a n c] 25)) (.cells #[.int .u32 0, .int .u32 0, .slice none 0 0] 25); simpa using this
    · have := heap_alloc_new ((w.alloc (.cells #[.int .u32 gen, .int .u32 bnd, .slice a n c] 25)).alloc (.cells #[.int .u32 0, .int .u32 0, .slice none 0 0] 25)) (.cells #[.int .u32 gen, .int .u32 bnd, .slice none 0 0] 25); simpa using this
  clear hi hz0 hz1 hz2 hv hok hl hn tv tl pa h0 hb0
  go_enter Tryz.func10, Tryz.ntmps10
  go_wp2_with fail
  generalize ((w.alloc (.cells #[.int .u32 gen, .int .u32 bnd, .slice a n c] 25)).alloc (.cells #[.int .u32 0, .int .u32 0, .slice none 0 0] 25)).alloc (.cells #[.int .u32 gen, .int .u32 bnd, .slice none 0 0] 25) = W1 at *
  go_loopw [6] (fun i wr => ∃ (k : Nat) (v : Value), k ≤ n ∧ i = .int .i64 k ∧ TunB w gen bnd a n c v (turnL (fW zs) (l.take k)) wr) (fun i _ => n - (intOf i).toNat)
  case atStart => exact ⟨0, .slice none 0 0, Nat.zero_le _, rfl, HT0.out⟩
  case round =>
    obtain ⟨k, v, hk, rfl, hT⟩ := hrel
    clear HT0
    have m2 := (one_block hT.mbox).1 2
    have hkb : (k : Int) < 140737488351232 := by have := HN.out; omega
    by_cases hlt : k < n
    · have hki : (k : Int) < (n : Int) := by omega
      have hk0 : (0 : Int) ≤ (k : Int) := by omega
      obtain ⟨cs, hO, hE⟩ := hT.row
      rw [HLK.out k hk] at hO
      obtain ⟨a', c', rfl⟩ := own_shapeU hO
      have hkl : k < l.length := by rw [HL.out]; exact hlt
      obtain ⟨g1, o1, aj, cj, nj, rfl, hg1, p1, p2, p3, p4, p5, p6, p7⟩ := HV.out k hkl
      have hz := HOK.out k hkl
      have hpa := HPA.out k hlt
      have htk := HTK.out k hlt
      have HX5 : Hid ((turnX (fW zs) (nthI l k)).2.2.2.length = nj) := by show _ = _; rw [← p5]; simp [turnX]
      have hnj : 24 * nj ≤ 140737488351232 := by have := hz.2.2.2.2.2.2.2; omega
      have hTd := fun wx (hb : Below w.heap.size w wx) => refTurned9_any zs ta tn tc (nthI l k).1 (nthI l k).2.1 (nthI l k).2.2.1 (nthI l k).2.2.2 aj nj cj wx (p6.below hb) p5 hnj (HTV.out.below hb) HTL.out hz.2.2.1 (HTN.out _ hz.2.2.1 hpa.1).2 hz.2.2.2.2.1 (HTN.out _ hz.2.2.2.2.1 hpa.2.1).2 (fun j hj h1 => by have := hpa.2.2 j (by rw [p5]; exact hj) h1; exact ⟨by have := this.1; omega, this.2⟩)
      have hyt := (HTN.out _ hz.2.2.1 hpa.1).1
      have hyr := (HTN.out _ hz.2.2.2.2.1 hpa.2.1).1
      rw [← hyt, ← hyr] at hTd
      have LC : Hid (∀ w', Below (w.heap.size + 3) wr w' → w'.cell? ⟨w.heap.size + 2, 2, none⟩ = some (.slice a' k c') ∧ w'.cell? ⟨w.heap.size, 2, none⟩ = some (.slice (some ⟨g1, o1, none⟩) n c) ∧ w'.cell? ⟨g1, o1 + k * 4, none⟩ = some (.int .u16 (nthI l k).1) ∧ w'.cell? ⟨g1, o1 + k * 4 + 1, none⟩ = some (.int .u32 (nthI l k).2.1) ∧ w'.cell? ⟨g1, o1 + k * 4 + 2, none⟩ = some (.int .u32 (nthI l k).2.2.1) ∧ w'.cell? ⟨g1, o1 + k * 4 + 3, none⟩ = some (.slice aj nj cj)) := fun w' h => by
        have hcl := fun i => hT.bel.cell (p := ⟨g1, i, none⟩) hg1
        have hcl' := fun i => h.cell (p := ⟨g1, i, none⟩) (show g1 < w.heap.size + 3 by omega)
        exact ⟨(h.cell (p := ⟨w.heap.size + 2, 2, none⟩) (by simp)).trans ((one_block hT.xbox).1 2), (h.cell (p := ⟨w.heap.size, 2, none⟩) (by simp)).trans m2, (hcl' _).trans ((hcl _).trans p1), (hcl' _).trans ((hcl _).trans p2), (hcl' _).trans ((hcl _).trans p3), (hcl' _).trans ((hcl _).trans p4)⟩
      have HTD := hide hTd
      have HT := hide hT
      have HO := hide hO
      have HE := hide hE
      have HSZ := hide hT.size
      have HXO : Hid (InstOk (nthI l k)) := hz
      have HTQ : Hid (turnL (fW zs) (l.take (k + 1)) = turnL (fW zs) (l.take k) ++ [turnX (fW zs) (nthI l k)]) := htk
      have HYY : Hid (turnX (fW zs) (nthI l k) = ((nthI l k).1, tN (fW zs) (nthI l k).2.1, tN (fW zs) (nthI l k).2.2.1, (nthI l k).2.2.2.map (tA (fW zs)))) := rfl
      generalize turnX (fW zs) (nthI l k) = yy at *
      obtain ⟨yo, yt, yr, yl⟩ := yy
      generalize nthI l k = z at *
      obtain ⟨zo, zt, zr, zl⟩ := z
      simp only [Prod.mk.injEq] at HYY HTD LC HX5
      obtain ⟨rfl, rfl, rfl, rfl⟩ := HYY.out
      clear hTd hT hO hE hz hpa htk p1 p2 p3 p4 p5 p6 p7 hyt hyr HYY
      go_wp2_with fail
      have hC0 : Below (w.heap.size + 3) wr wr.drew := (below_drew wr).mono (by have := HSZ.out; omega)
      have hmix : Tryz.prog.follows .mixedOrders = true := by kernel_rfl
      refine (wpIn_wide (n := 0)).1 ?_
      refine wpIn_normal (wpIn_region_any hmix (wpAnyE_sound (C := Below (w.heap.size + 3) wr) (E := fun i => i == 12) _ _ _ _ ?_))
      change wpAnyE _ _ _ _ _ _ _ _ _ _ _ (World.drew _)
      refine wpAnyE_takeD (i := 0) (some 19) (v := .pointer (some ⟨w.heap.size + 2, 2, none⟩)) (fun _ => trivial) (by kernel_rfl) rfl rfl (by kernel_rfl) (by kernel_rfl) (by kernel_rfl) (by kernel_rfl) (fun _ _ _ h => by cases h.1) hC0 (Or.inl ⟨by rfl, fun w' hC => by obtain ⟨e1, e2, q1, q2, q3, q4⟩ := LC.out w' hC; clear hC; go_simp⟩) ?_
      simp only [Act.put, List.setIfInBounds_toArray, List.set_cons_succ, List.set_cons_zero]
      refine wpAnyE_takeD (i := 1) (some 20) (v := (.slice a' k c')) (fun _ => trivial) (by kernel_rfl) rfl rfl (by kernel_rfl) (by kernel_rfl) (by kernel_rfl) (by kernel_rfl) (fun _ _ _ h => by cases h.1) hC0 (Or.inl ⟨by rfl, fun w' hC => by obtain ⟨e1, e2, q1, q2, q3, q4⟩ := LC.out w' hC; clear hC; go_simp⟩) ?_
      simp only [Act.put, List.setIfInBounds_toArray, List.set_cons_succ, List.set_cons_zero]
      refine wpAnyE_takeD (i := 2) (some 21) (v := .pointer (some ⟨w.heap.size, 2, none⟩)) (fun _ => trivial) (by kernel_rfl) rfl rfl (by kernel_rfl) (by kernel_rfl) (by kernel_rfl) (by kernel_rfl) (fun _ _ _ h => by cases h.1) hC0 (Or.inl ⟨by rfl, fun w' hC => by obtain ⟨e1, e2, q1, q2, q3, q4⟩ := LC.out w' hC; clear hC; go_simp⟩) ?_
      simp only [Act.put, List.setIfInBounds_toArray, List.set_cons_succ, List.set_cons_zero]
      refine wpAnyE_takeD (i := 3) (some 22) (v := .slice (some ⟨g1, o1, none⟩) n c) (fun _ => trivial) (by kernel_rfl) rfl rfl (by kernel_rfl) (by kernel_rfl) (by kernel_rfl) (by kernel_rfl) (fun _ _ _ h => by cases h.1) hC0 (Or.inl ⟨by rfl, fun w' hC => by obtain ⟨e1, e2, q1, q2, q3, q4⟩ := LC.out w' hC; clear hC; go_simp⟩) ?_
      simp only [Act.put, List.setIfInBounds_toArray, List.set_cons_succ, List.set_cons_zero]
      refine wpAnyE_takeD (i := 4) (some 23) (v := .int .i64 (k : Int)) (fun _ => trivial) (by kernel_rfl) rfl rfl (by kernel_rfl) (by kernel_rfl) (by kernel_rfl) (by kernel_rfl) (fun _ _ _ h => by cases h.1) hC0 (Or.inl ⟨by rfl, fun w' hC => by obtain ⟨e1, e2, q1, q2, q3, q4⟩ := LC.out w' hC; clear hC; go_simp⟩) ?_
      simp only [Act.put, List.setIfInBounds_toArray, List.set_cons_succ, List.set_cons_zero]
      refine wpAnyE_takeD (i := 5) (some 24) (v := .pointer (some ⟨g1, o1 + k * 4, none⟩)) (fun _ => trivial) (by kernel_rfl) rfl rfl (by kernel_rfl) (by kernel_rfl) (by kernel_rfl) (by kernel_rfl) (fun _ _ _ h => by cases h.1) hC0 (Or.inl ⟨by rfl, fun w' hC => by obtain ⟨e1, e2, q1, q2, q3, q4⟩ := LC.out w' hC; clear hC; go_simp⟩) ?_
      simp only [Act.put, List.setIfInBounds_toArray, List.set_cons_succ, List.set_cons_zero]
      refine wpAnyE_takeD (i := 6) (some 25) (v := .agg #[.int .u16 yo, .int .u32 zt, .int .u32 zr, .slice aj nj cj]) (fun _ => trivial) (by kernel_rfl) rfl rfl (by kernel_rfl) (by kernel_rfl) (by kernel_rfl) (by kernel_rfl) (fun _ _ _ h => by cases h.1) hC0 (Or.inl ⟨by rfl, fun w' hC => by obtain ⟨e1, e2, q1, q2, q3, q4⟩ := LC.out w' hC; clear hC; go_simp⟩) ?_
      simp only [Act.put, List.setIfInBounds_toArray, List.set_cons_succ, List.set_cons_zero]
      refine wpAnyE_takeD (i := 7) (some 26) (v := .slice ta tn tc) (fun _ => trivial) (by kernel_rfl) rfl rfl (by kernel_rfl) (by kernel_rfl) (by kernel_rfl) (by kernel_rfl) (fun _ _ _ h => by cases h.1) hC0 (Or.inl ⟨by rfl, fun w' hC => by obtain ⟨e1, e2, q1, q2, q3, q4⟩ := LC.out w' hC; clear hC; go_simp⟩) ?_
      simp only [Act.put, List.setIfInBounds_toArray, List.set_cons_succ, List.set_cons_zero]
      refine wpAnyE_ready (rs := [8]) (by kernel_rfl) (by simp) ?_
      refine AllE.cons rfl (fun K hK => ?_) AllE.nil
      go_simp
      refine ⟨trivial, rfl, (callsIn_wide.2 (HTD.out wr.drew HT.out.bel.drew)).mono ?_⟩
      rintro e w5 ⟨a5, c5, rfl, hown5, hb5⟩
      dsimp only
      have hb5' : Below wr.heap.size wr w5 := (below_drew wr).trans (show Below wr.heap.size wr.drew w5 from hb5)
      have hC5 : Below (w.heap.size + 3) wr w5 := hb5'.mono (by have := HSZ.out; omega)
      refine hK _ _ (.inr hC5) ?_
      clear hK K hC0
      refine wpAnyE_ready (rs := [9]) (by kernel_rfl) (by simp) ?_
      refine AllE.cons rfl (fun K hK => ?_) AllE.nil
      go_simp
      have hb6 : Below wr.heap.size wr (w5.alloc (.cells #[.int .u16 yo, .int .u32 (tN (fW zs) zt), .int .u32 (tN (fW zs) zr), .slice a5 nj c5] 40)) := hb5'.alloc hb5'.size _
      have hC6 : Below (w.heap.size + 3) wr (w5.alloc (.cells #[.int .u16 yo, .int .u32 (tN (fW zs) zt), .int .u32 (tN (fW zs) zr), .slice a5 nj c5] 40)) := hb6.mono (by have := HSZ.out; omega)
      refine hK _ _ (.inr hC6) ?_
      clear hK K hC5
      have hO6 := own_below HO.out hb6
      have hlo : ∀ g, Value.ownBlock (.slice a' k c') = some g → w.heap.size + 3 ≤ g ∧ g < wr.heap.size := fun g e => HO.out.lt g e
      have hE6 := HE.out.below hb6
      have hV5 : ArgsV (w5.alloc (.cells #[.int .u16 yo, .int .u32 (tN (fW zs) zt), .int .u32 (tN (fW zs) zr), .slice a5 nj c5] 40)) a5 (zl.map (tA (fW zs))) := (argsV_ownT hown5 HX5.out).below ((Below.refl _ w5).alloc (Nat.le_refl _) _)
      have hb5s : ∀ b off, a5 = some ⟨b, off, none⟩ → w.heap.size + 3 ≤ b ∧ b < (w5.alloc (.cells #[.int .u16 yo, .int .u32 (tN (fW zs) zt), .int .u32 (tN (fW zs) zr), .slice a5 nj c5] 40)).heap.size ∧ Value.ownBlock (.slice a' k c') ≠ some b := fun b off e => by
        subst e
        have h5 := hown5.lt b rfl
        have h6 : wr.heap.size + 3 ≤ b := h5.1
        have h7 := HSZ.out
        refine ⟨by omega, by rw [World.size_alloc]; omega, fun e2 => ?_⟩
        have := (hlo b e2).2
        omega
      have hcap := own_capT hown5
      have HP := hide (And.intro hO6 (And.intro hE6 (And.intro hV5 (And.intro hb5s hcap))))
      have HLO := hide hlo
      have HB6 := hide hb6
      have N2 : Hid (∀ (j : Nat) (u : Value), ([.int .u16 yo, .int .u32 (tN (fW zs) zt), .int .u32 (tN (fW zs) zr), .slice a5 nj c5] : List Value)[j]? = some u → (w5.alloc (.cells #[.int .u16 yo, .int .u32 (tN (fW zs) zt), .int .u32 (tN (fW zs) zr), .slice a5 nj c5] 40)).cell? ((⟨w5.heap.size, 0, none⟩ : Addr).add j) = some u) := World.news_of_block (cs := #[.int .u16 yo, .int .u32 (tN (fW zs) zt), .int .u32 (tN (fW zs) zr), .slice a5 nj c5]) (t := 40) (fr := (0, 0)) (heap_alloc_new w5 _)
      have N3 : Hid (∀ u : Value, u ∈ ([.int .u16 yo, .int .u32 (tN (fW zs) zt), .int .u32 (tN (fW zs) zr), .slice a5 nj c5] : List Value) → u.oneCell' = true) := by intro u hu; simp at hu; rcases hu with rfl | rfl | rfl | rfl <;> rfl
      have N4 : Hid (k + 1 ≤ maxLen) := by show _ ≤ _; have := HN.out; unfold maxLen; omega
      have N5 : Hid ((k + 1) * 40 ≤ 140737488355328) := by show _ ≤ _; have := HN.out; omega
      have N6 : Hid (w.heap.size + 3 ≤ (w5.alloc (.cells #[.int .u16 yo, .int .u32 (tN (fW zs) zt), .int .u32 (tN (fW zs) zr), .slice a5 nj c5] 40)).heap.size) := by show _ ≤ _; have := hb6.size; have := HSZ.out; omega
      clear hO6 hE6 hV5 hb5s hcap hown5 hb5 hb5'
      refine wpAnyE_ready (rs := [10]) (by kernel_rfl) (by simp) ?_
      refine AllE.cons rfl (fun K hK => ?_) AllE.nil
      refine stepAny_lies _ (fun _ => trivial) rfl (.tmp 20) (.tmp 28) 23 rfl (w.heap.size + 3) 40 i0 (.agg #[.int .u16 0, .int .u32 0, .int .u32 0, .slice none 0 0]) 4 40 Tryz.underlying23 HI.out.1 HI.out.2.1 HI.out.2.2.1 HI.out.2.2.2 rfl (by decide) (.slice a' k c') k cs rfl HP.out.1 ⟨w5.heap.size, 0, none⟩ 1 1 [.int .u16 yo, .int .u32 (tN (fW zs) zt), .int .u32 (tN (fW zs) zr), .slice a5 nj c5] rfl rfl N2.out N3.out (by decide) N4.out N5.out N6.out ?_
      intro g7 cap7 w7 hown7 hgr7 hat7
      have kk : ∀ i, i < w.heap.size + 3 → w7.heap[i]? = wr.heap[i]? := fun i hi => (hgr7.block i (by have := N6.out; omega) (fun e => by have := (HLO.out _ e.symm).1; omega)).trans (hC6.block i hi)
      have hC7 : Below (w.heap.size + 3) wr w7 := ⟨hgr7.os.trans hC6.os, hgr7.tape.trans hC6.tape, hgr7.output.trans hC6.output, Nat.le_trans hC6.size hgr7.size, kk⟩
      refine hK _ _ (.inr hC7) ?_
      clear hK K hC6
      have hx7 := (kk (w.heap.size + 2) (by omega)).trans HT.out.xbox
      have HF : Hid (TunB w gen bnd (some ⟨g1, o1, none⟩) n c (.slice (some ⟨g7, 0, none⟩) (k + 1) cap7) (turnL (fW zs) (l.take (k + 1))) (w7.setCell ⟨w.heap.size + 2, 2, none⟩ (.slice (some ⟨g7, 0, none⟩) (k + 1) cap7))) := by
        have hp := HP.out.2.1.push (x := (yo, tN (fW zs) zt, tN (fW zs) zr, zl.map (tA (fW zs)))) (g' := g7) (fun b e => by have := (HLO.out b e).2; have := HB6.out.size; omega) HP.out.2.2.1 HX5.out HP.out.2.2.2.2 HP.out.2.2.2.1 hgr7 hat7
        have hg7 : w.heap.size + 3 ≤ g7 := by
          rcases hat7 with h | h
          · exact (HLO.out _ h).1
          · have := N6.out; omega
        have hbw : Below w.heap.size w w7 := ⟨hC7.os.trans HT.out.bel.os, hC7.tape.trans HT.out.bel.tape, hC7.output.trans HT.out.bel.output, Nat.le_trans HT.out.bel.size hC7.size, fun i hi => (kk i (by omega)).trans (HT.out.bel.block i hi)⟩
        refine ⟨setFarT ((kk _ (by omega)).trans HT.out.mbox) (by omega) _ _, setFarT ((kk _ (by omega)).trans HT.out.rbox) (by omega) _ _, by simp [World.setCell, Array.getElem?_modify, hx7], ⟨cs ++ cellsI (yo, tN (fW zs) zt, tN (fW zs) zr, zl.map (tA (fW zs))) a5 nj c5, ?_, ?_⟩, hbw.setCell (by simp) _⟩
        · rw [HTQ.out, List.length_append, HLK.out k hk]; exact ownsRow_setCell_below hown7 (by simp) _
        · rw [HTQ.out]; exact hp.set (by omega) 2 _
      refine wpAnyE_takeD (i := 11) (some 30) (v := .pointer (some ⟨w.heap.size + 2, 2, none⟩)) (fun _ => trivial) (by kernel_rfl) rfl rfl (by kernel_rfl) (by kernel_rfl) (by kernel_rfl) (by kernel_rfl) (fun _ _ _ h => by cases h.1) hC7 (Or.inl ⟨by rfl, fun w' hC => by clear hC; go_simp⟩) ?_
      simp only [Act.put, List.setIfInBounds_toArray, List.set_cons_succ, List.set_cons_zero]
      obtain ⟨cx7, fx7⟩ := one_block hx7
      have y2 := cx7 2
      clear cx7
      refine wpAnyE_ready (rs := [12]) (by kernel_rfl) (by simp) ?_
      refine AllE.cons rfl (fun K hK => ?_) AllE.nil
      go_simp
      refine hK _ _ (.inl rfl) ?_
      clear hK K hC7 y2 fx7 hx7 kk hown7 hgr7 hat7 HP N2 N3 N4 N5 N6
      refine wpAnyE_done (by kernel_rfl) ⟨rfl, ?_⟩ _
      generalize w7.setCell ⟨w.heap.size + 2, 2, none⟩ (.slice (some ⟨g7, 0, none⟩) (k + 1) cap7) = Z at *
      rw [inBlock_thenT]
      go_wp2_with fail
      go_roundw
      case rel => exact ⟨k + 1, _, by omega, by go_num, HF.out⟩
      case measure => simp [intOf]; omega
    · obtain rfl : k = n := by omega
      obtain ⟨cs, hO, hE⟩ := hT.row
      rw [HLK.out k (Nat.le_refl _)] at hO
      obtain ⟨a', c', rfl⟩ := own_shapeU hO
      obtain ⟨xx, _⟩ := one_block hT.xbox
      obtain ⟨rr, rf⟩ := one_block hT.rbox
      have x0 := xx 0
      have x1 := xx 1
      have x2 := xx 2
      have r0 := rr 0
      have r1 := rr 1
      have r2 := rr 2
      have HXF := hide (three_putT hT.rbox (.int .u32 gen) (.int .u32 bnd) (.slice a' k c'))
      have HBF := hide (((hT.bel.setCell (p := ⟨w.heap.size + 1, 0, none⟩) (by simp) (.int .u32 gen)).setCell (p := ⟨w.heap.size + 1, 1, none⟩) (by simp) (.int .u32 bnd)).setCell (p := ⟨w.heap.size + 1, 2, none⟩) (by simp) (.slice a' k c'))
      rw [HAL.out] at hE
      have HVF := hide (And.intro (ownsRow_setCell_below (ownsRow_setCell_below (ownsRow_setCell_below hO (a := ⟨w.heap.size + 1, 0, none⟩) (by simp) (.int .u32 gen)) (a := ⟨w.heap.size + 1, 1, none⟩) (by simp) (.int .u32 bnd)) (a := ⟨w.heap.size + 1, 2, none⟩) (by simp) (.slice a' k c')) (((hE.set (b := w.heap.size + 1) (by omega) 0 (.int .u32 gen)).set (b := w.heap.size + 1) (by omega) 1 (.int .u32 bnd)).set (b := w.heap.size + 1) (by omega) 2 (.slice a' k c')))
      clear xx rr hT hO hE
      go_wp2_with fail
      generalize ((wr.setCell ⟨w.heap.size + 1, 0, none⟩ (.int .u32 gen)).setCell ⟨w.heap.size + 1, 1, none⟩ (.int .u32 bnd)).setCell ⟨w.heap.size + 1, 2, none⟩ (.slice a' k c') = Z at *
      obtain ⟨hd, _⟩ := one_block HXF.out
      have d0 := hd 0
      have d1 := hd 1
      have d2 := hd 2
      exact bodyPost_ret (v := .agg #[.int .u32 gen, .int .u32 bnd, .slice a' k c']) (by simp [results, Tryz.results10, go_sem, d0, d1, d2]) rfl ⟨a', c', cs, rfl, HVF.out.1, HVF.out.2, HBF.out⟩

end Go.Proofs.YtjjoggpddafajaaGreat

/-
  The document's Renumber.
-/
namespace Go.Proofs.YtjjoggpddafajaaGreat
open Go.RowKit Go.Maps
set_option linter.unusedVariables false
set_option linter.unusedSimpArgs false
set_option maxRecDepth 10000

theorem U32I.info : (Tryz.prog.info? 22).map (fun i => (i.zero, i.size, i.bytes)) = some (some (.int .u32 0), 1, 4) := by kernel_rfl

set_option maxHeartbeats 8000000 in
theorem refRenumber9_bad (gen : Int) (N : Nat) (a : Option Addr) (n c : Nat) (l : List InstT) (w : World) (hv : InstsV w a l) (hok : InstsOk l) (hl : l.length = n) (hn : 40 * n ≤ 140737488351232) (g0 : 0 ≤ gen) (g1 : gen < 4294967296) (hN : N < 4294967296) (hE : (idsE (N : Int) l).1 ≠ 0) :
    Calls Tryz.prog 4 #[modV gen (N : Int) a n c] w fun e w' => e = .returned (.tuple #[.agg #[.int .u32 0, .int .u32 0, .slice none 0 0], .agg #[.int .i64 (idsE (N : Int) l).1, .int .i64 (idsE (N : Int) l).2]]) ∧ Below w.heap.size w w' := by
  have hb0 : Below w.heap.size w (((w.alloc (.cells #[.int .u32 gen, .int .u32 (N : Int), .slice a n c] 25)).alloc (.cells #[.int .u32 0, .int .u32 0, .slice none 0 0] 25)).alloc (.cells #[.int .i64 0, .int .i64 0] 28)) := (((Below.refl _ w).alloc (Nat.le_refl _) _).alloc (by simp) _).alloc (by simp; omega) _
  have hR0 : RnB w gen (N : Int) a n c (((w.alloc (.cells #[.int .u32 gen, .int .u32 (N : Int), .slice a n c] 25)).alloc (.cells #[.int .u32 0, .int .u32 0, .slice none 0 0] 25)).alloc (.cells #[.int .i64 0, .int .i64 0] 28)) := by
    refine ⟨?_, ?_, ?_, hb0⟩
    · rw [Below.heap_alloc _ _ _ (by simp; omega), Below.heap_alloc _ _ _ (by simp)]; exact heap_alloc_new _ _
    · rw [Below.heap_alloc _ _ _ (by simp)]; have := heap_alloc_new (w.alloc (.cells #[.int .u32 gen, .int .u32 (N : Int), .slice a n c] 25)) (.cells #[.int .u32 0, .int .u32 0, .slice none 0 0] 25); simpa using this
    · have := heap_alloc_new ((w.alloc (.cells #[.int .u32 gen, .int .u32 (N : Int), .slice a n c] 25)).alloc (.cells #[.int .u32 0, .int .u32 0, .slice none 0 0] 25)) (.cells #[.int .i64 0, .int .i64 0] 28); simpa using this
  have hSh := refCheck9_any gen (N : Int) a n c l _ (hv.below hb0) hok hl hn (by omega) (by omega)
  have HR0 := hide hR0
  have HV := hide hv
  generalize idsE (N : Int) l = E at *
  obtain ⟨E1, E2⟩ := E
  simp only at hE hSh ⊢
  have hE' : (E1 != 0) = true := by simpa using hE
  unfold modV at *
  clear hb0 hR0 hv
  go_enter Tryz.func4, Tryz.ntmps4
  go_wp2_with fail
  generalize ((w.alloc (.cells #[.int .u32 gen, .int .u32 (N : Int), .slice a n c] 25)).alloc (.cells #[.int .u32 0, .int .u32 0, .slice none 0 0] 25)).alloc (.cells #[.int .i64 0, .int .i64 0] 28) = W0 at *
  refine hSh.mono ?_
  rintro e w1 ⟨rfl, hb1⟩
  have hba : Below w1.heap.size w1 (w1.alloc (.cells #[.int .i64 E1, .int .i64 (E2 : Int)] 28)) := (Below.refl _ w1).alloc (Nat.le_refl _) _
  have HR1 := hide ((HR0.out.below hb1).below hba)
  have HT := hide (heap_alloc_new w1 (.cells #[.int .i64 E1, .int .i64 (E2 : Int)] 28))
  have HW1 : Hid (w.heap.size + 2 < w1.heap.size) := Nat.lt_of_lt_of_le HR0.out.size hb1.size
  clear hSh hb1 hba HR0
  go_wp2_with fail
  generalize w1.alloc (.cells #[.int .i64 E1, .int .i64 (E2 : Int)] 28) = W1 at *
  generalize w1.heap.size = B at *
  obtain ⟨t0, t1, _⟩ := cell_of_two HT.out
  obtain ⟨rr, rf⟩ := one_block HR1.out.rbox
  obtain ⟨ss, sf⟩ := one_block HR1.out.sbox
  have r0 := rr 0
  have r1 := rr 1
  have r2 := rr 2
  have s0 := ss 0
  have s1 := ss 1
  have hne : B ≠ w.heap.size + 2 := by have := HW1.out; omega
  have hne2 : B ≠ w.heap.size + 1 := by have := HW1.out; omega
  clear rr ss
  refine wp_norm ?_
  go_region
  all_goals
    rw [onNormal_normal]
    obtain ⟨f1, f2⟩ := five_setN HR1.out.rbox HR1.out.sbox (by omega) (.int .u32 0) (.int .u32 0) (.slice none 0 0) (.int .i64 E1) (.int .i64 (E2 : Int))
    have hB5 := five_belowN HR1.out.bel (.int .u32 0) (.int .u32 0) (.slice none 0 0) (.int .i64 E1) (.int .i64 (E2 : Int))
    clear r0 r1 r2 s0 s1 rf sf
    obtain ⟨p1, _⟩ := one_block f1
    obtain ⟨p2, _⟩ := one_block f2
    have y0 := p1 0
    have y1 := p1 1
    have y2 := p1 2
    have z0 := p2 0
    have z1 := p2 1
    go_wp2_with fail
    refine bodyPost_ret (v := .tuple #[.agg #[.int .u32 0, .int .u32 0, .slice none 0 0], .agg #[.int .i64 E1, .int .i64 (E2 : Int)]]) (by first | (simp [results, Tryz.results4, go_sem, y0, y1, y2, z0, z1]; done) | (simp [results, Tryz.results4, go_sem, World.drew] at *; simp [y0, y1, y2, z0, z1])) rfl ⟨rfl, by first | exact hB5 | exact hB5.drew⟩

set_option maxHeartbeats 8000000 in
theorem refRenumber9_ok (gen : Int) (N : Nat) (a : Option Addr) (n c : Nat) (l : List InstT) (w : World) (hv : InstsV w a l) (hok : InstsOk l) (hl : l.length = n) (hn : 40 * n ≤ 140737488351232) (g0 : 0 ≤ gen) (g1 : gen < 4294967296) (hN : N < 4294967296) (hE : (idsE (N : Int) l).1 = 0) :
    Calls Tryz.prog 4 #[modV gen (N : Int) a n c] w fun e w' => ∃ a' c', e = .returned (.tuple #[modV gen ((cntR l n + 1 : Nat) : Int) a' n c', .agg #[.int .i64 0, .int .i64 0]]) ∧ InstsV w' a' (turnL (fW (rnZ l N n)) l) ∧ Below w.heap.size w w' := by
  have hb0 : Below w.heap.size w (((w.alloc (.cells #[.int .u32 gen, .int .u32 (N : Int), .slice a n c] 25)).alloc (.cells #[.int .u32 0, .int .u32 0, .slice none 0 0] 25)).alloc (.cells #[.int .i64 0, .int .i64 0] 28)) := (((Below.refl _ w).alloc (Nat.le_refl _) _).alloc (by simp) _).alloc (by simp; omega) _
  have hR0 : RnB w gen (N : Int) a n c (((w.alloc (.cells #[.int .u32 gen, .int .u32 (N : Int), .slice a n c] 25)).alloc (.cells #[.int .u32 0, .int .u32 0, .slice none 0 0] 25)).alloc (.cells #[.int .i64 0, .int .i64 0] 28)) := by
    refine ⟨?_, ?_, ?_, hb0⟩
    · rw [Below.heap_alloc _ _ _ (by simp; omega), Below.heap_alloc _ _ _ (by simp)]; exact heap_alloc_new _ _
    · rw [Below.heap_alloc _ _ _ (by simp)]; have := heap_alloc_new (w.alloc (.cells #[.int .u32 gen, .int .u32 (N : Int), .slice a n c] 25)) (.cells #[.int .u32 0, .int .u32 0, .slice none 0 0] 25); simpa using this
    · have := heap_alloc_new ((w.alloc (.cells #[.int .u32 gen, .int .u32 (N : Int), .slice a n c] 25)).alloc (.cells #[.int .u32 0, .int .u32 0, .slice none 0 0] 25)) (.cells #[.int .i64 0, .int .i64 0] 28); simpa using this
  have hSh := refCheck9_any gen (N : Int) a n c l _ (hv.below hb0) hok hl hn (by omega) (by omega)
  have HR0 := hide hR0
  have HV := hide hv
  obtain ⟨hLay, hE0, hfa⟩ := ids_sound hE
  have hsh := (layE_ok hLay).2.1
  have hbm := max_bound hsh
  have hfew : n ≤ 1048576 := by rw [← hl]; exact (shape_few hsh).1
  have HFR : Hid (∀ k, k < n → (makT l k (nthI l k).2.2.1).isSome = false) := fun k hk => fresh_at (hfa k (by omega))
  have hin0 : ∀ k, k < n → ((nthI l k).2.1 ≠ 0 → InB N (nthI l k).2.1) ∧ ((nthI l k).2.2.1 ≠ 0 → InB N (nthI l k).2.2.1) ∧ ∀ j, j < (nthI l k).2.2.2.length → (nthA (nthI l k).2.2.2 j).1 = 1 → InB N (nthA (nthI l k).2.2.2 j).2.1 := fun k hk => ids_in (hok k (by omega)) (shape_each hsh k (by omega))
  have HIN := hide hin0
  rw [hE0] at hSh
  have h00 : nth (rnZ l N n) 0 = 0 := by
    rw [rnZ_at l N n 0 (by omega)]
    show (rnT l n 0).getD 0 = 0
    unfold rnT; rw [makT_zero]; rfl
  have HTU := hide fun wx (ta : Option Addr) (h : InstsV wx a l) (h2 : View .u32 wx ta (rnZ l N n)) => refTurn9_any (rnZ l N n) ta N N gen (N : Int) a n c l wx h hok hl hn h2 (rnZ_len l N n) h00 (by omega) hin0
  have HRET : Hid (∀ (a' : Act) (Z : World) (a5 : Option Addr) (c5 : Nat) (cd : Int), slot a'.tmps 2 = .pointer (some ⟨w.heap.size + 1, 0, none⟩) → slot a'.tmps 3 = .pointer (some ⟨w.heap.size + 2, 0, none⟩) → a'.defers = [] → Z.heap[w.heap.size + 1]? = some (.cells #[.int .u32 gen, .int .u32 cd, .slice a5 n c5] 25 (0, 0)) → Z.heap[w.heap.size + 2]? = some (.cells #[.int .i64 0, .int .i64 0] 28 (0, 0)) → Below w.heap.size w Z → InstsV Z a5 (turnL (fW (rnZ l N n)) l) → ((cntR l n + 1 : Nat) : Int) = cd →
      bodyPost Tryz.prog Tryz.f4 (fun e w' => ∃ a' c', e = .returned (.tuple #[.agg #[.int .u32 gen, .int .u32 ((cntR l n + 1 : Nat) : Int), .slice a' n c'], .agg #[.int .i64 0, .int .i64 0]]) ∧ InstsV w' a' (turnL (fW (rnZ l N n)) l) ∧ Below w.heap.size w w') .ret a' Z) := by
    intro a' Z a5 c5 cd q2 q3 qd q5 q6 q7 q8 q9
    refine bodyPost_ret (v := .tuple #[.agg #[.int .u32 gen, .int .u32 cd, .slice a5 n c5], .agg #[.int .i64 0, .int .i64 0]]) ?_ qd ⟨a5, c5, by rw [q9], q8, q7⟩
    have r5 := run_loadVar_mid (P := Tryz.prog) Z (w.heap.size + 1) 0 25 [.int .u32 gen, .int .u32 cd, .slice a5 n c5] _ (range_of_block q5) Tryz.underlying25 rfl (by kernel_rfl)
    have r6 := run_loadVar_mid (P := Tryz.prog) Z (w.heap.size + 2) 0 28 [.int .i64 0, .int .i64 0] _ (range_of_block q6) Tryz.underlying28 rfl (by kernel_rfl)
    have hG2 : a'.tmps.getD 2 undef = .pointer (some ⟨w.heap.size + 1, 0, none⟩) := q2
    have hG3 : a'.tmps.getD 3 undef = .pointer (some ⟨w.heap.size + 2, 0, none⟩) := q3
    simp only [results, Tryz.results4, List.mapM_toArray, List.mapM_cons, List.mapM_nil, hG2, hG3, asAddr, Sem.run_bind, Sem.run_pure, Result.andThen_ok, bind_assoc, pure_bind, Sem.run_map, map_pure, r5, r6]
    rfl
  have HL := hide hl
  obtain ⟨i0, hi, hz0, hz1, hz2⟩ := info_parts U32I.info
  have hN1 : 0 < N ∧ N ≤ 65536 := by omega
  clear hE hbm hE0 hLay hsh hfa hok hin0 h00
  unfold modV at *
  clear hb0 hR0 hv
  generalize hQQ : (fun (e : Ending) (w' : World) => ∃ (a' : Option Addr) (c' : Nat), e = .returned (.tuple #[.agg #[.int .u32 gen, .int .u32 ((cntR l n + 1 : Nat) : Int), .slice a' n c'], .agg #[.int .i64 0, .int .i64 0]]) ∧ InstsV w' a' (turnL (fW (rnZ l N n)) l) ∧ Below w.heap.size w w') = QQ at *
  clear hQQ
  go_enter Tryz.func4, Tryz.ntmps4
  go_wp2_with fail
  generalize ((w.alloc (.cells #[.int .u32 gen, .int .u32 (N : Int), .slice a n c] 25)).alloc (.cells #[.int .u32 0, .int .u32 0, .slice none 0 0] 25)).alloc (.cells #[.int .i64 0, .int .i64 0] 28) = W0 at *
  refine hSh.mono ?_
  rintro e w1 ⟨rfl, hb1⟩
  have hba : Below w1.heap.size w1 (w1.alloc (.cells #[.int .i64 0, .int .i64 0] 28)) := (Below.refl _ w1).alloc (Nat.le_refl _) _
  have HR1 := hide ((HR0.out.below hb1).below hba)
  have HT := hide (heap_alloc_new w1 (.cells #[.int .i64 0, .int .i64 0] 28))
  have HW1 : Hid (w.heap.size + 2 < w1.heap.size) := Nat.lt_of_lt_of_le HR0.out.size hb1.size
  clear hSh hb1 hba HR0
  obtain ⟨mm, _⟩ := one_block HR1.out.mbox
  have m1 := mm 1
  have HSW : Hid ((w1.alloc (.cells #[.int .i64 0, .int .i64 0] 28)).heap.size = w1.heap.size + 1) := by show _ = _; simp
  obtain ⟨t0, t1, _⟩ := cell_of_two HT.out
  clear mm
  go_wp2_with (at_make; refine wpList_make_full _ rfl _ _ 36 rfl (w1.heap.size + 1) 22 i0 (.int .u32 0) 1 Tryz.underlying36 hi hz0 hz1 _ _ _ _ N rfl rfl (by omega) (by omega) (by rw [hz2]; omega) (by unfold maxLen; omega) (by rw [HSW.out]; exact Nat.le_refl _) ?_)
  intro w3 hown3 hgrow3
  have hb3 : Below (w1.alloc (.cells #[.int .i64 0, .int .i64 0] 28)).heap.size (w1.alloc (.cells #[.int .i64 0, .int .i64 0] 28)) w3 := (Below.refl _ _).grown hgrow3 (Nat.le_refl _) (by simp)
  have e1 : (madeCells #[Value.int .u32 0] N).toList = (rnZ l N 0).map (Value.int .u32) := by rw [rnZ_zero, List.map_replicate]; exact toList_madeCells_one (.int .u32 0) N
  rw [e1] at hown3
  try rw [HSW.out] at hown3
  have HR3 := hide (HR1.out.below hb3)
  have HO3 := hide hown3
  have HT3 := hide ((hb3.block w1.heap.size (by rw [HSW.out]; omega)).trans HT.out)
  have hw1 := HW1.out
  clear e1 hown3 hgrow3 hb3 t0 t1 m1 hi hz0 hz1 hz2 HR1 HT
  go_wp2_with fail
  try rw [HSW.out]
  clear HSW
  generalize w1.heap.size = B at *
  go_loopw [6, 7] (fun x i wr => ∃ k : Nat, k ≤ n ∧ i = .int .i64 k ∧ x = .int .u32 ((cntR l k : Nat) : Int) ∧ RnB w gen (N : Int) a n c wr ∧ wr.ownsRow (B + 1) 22 1 (.slice (some ⟨B + 1, 0, none⟩) N N) N ((rnZ l N k).map (Value.int .u32)) ∧ wr.heap[B]? = some (.cells #[.int .i64 0, .int .i64 0] 28 (0, 0))) (fun _ i _ => n - (intOf i).toNat)
  case atStart => exact ⟨0, Nat.zero_le _, rfl, rfl, HR3.out, HO3.out, HT3.out⟩
  case round =>
    obtain ⟨k, hk, rfl, rfl, hR, hO, hT⟩ := hrel
    have HR := hide hR
    have HO := hide hO
    have HTk := hide hT
    obtain ⟨mm, _⟩ := one_block hR.mbox
    have m2 := mm 2
    have hsr := hR.size
    by_cases hlt : k < n
    · have hkl : k < l.length := by rw [HL.out]; exact hlt
      have HLT := hide hlt
      obtain ⟨g1', o1, aj, cj, nj, ha, hg1, p1, p2, p3, p4, p5, p6, p7⟩ := (HV.out.below hR.bel) k hkl
      have hki : (k : Int) < (n : Int) := by omega
      have hk0 : (0 : Int) ≤ (k : Int) := by omega
      have hck := cntR_le l k
      have hin := (HIN.out k hlt).2.1
      have hfr := HFR.out k hlt
      have HC1 : Hid (cntR l (k + 1) = cntR l k + (if (nthI l k).2.2.1 = 0 then 0 else 1)) := rfl
      subst ha
      by_cases hz0 : (nthI l k).2.2.1 = 0
      · have HCE : Hid (cntR l (k + 1) = cntR l k) := by show _ = _; rw [HC1.out, if_pos hz0]; rfl
        have HZE : Hid (rnZ l N (k + 1) = rnZ l N k) := rnZ_skip hz0
        rw [hz0] at p3
        clear hR hO hT mm p1 p2 p4 p5 p6 p7 hin hfr HC1
        go_wp2_with fail
        go_roundw
        case rel => exact ⟨k + 1, by omega, by go_num, by rw [HCE.out], HR.out, by rw [HZE.out]; exact HO.out, HTk.out⟩
        case measure => simp [intOf]; omega
      · have HCE : Hid (cntR l (k + 1) = cntR l k + 1) := by show _ = _; rw [HC1.out, if_neg hz0]
        obtain ⟨r, hr⟩ : ∃ r : Nat, (nthI l k).2.2.1 = (r : Int) := ⟨(nthI l k).2.2.1.toNat, by have := (hin hz0).1; omega⟩
        have hrN : r < N := by have := (hin hz0).2; omega
        have hr0 : r ≠ 0 := by omega
        have HZE : Hid ((rnZ l N k).set r ((cntR l k + 1 : Nat) : Int) = rnZ l N (k + 1)) := rnZ_set hr hr0 hfr
        rw [hr] at p3
        have hz0' : (((r : Nat) : Int) != 0) = true := by simp; omega
        have hd : wr.cell? ⟨B + 1, r, none⟩ = some (.int .u32 (nth (rnZ l N k) r)) := by
          obtain ⟨b, off, e1, _, hc⟩ := View.ofRow hO (rnZ_len l N k) r (by rw [rnZ_len]; exact hrN)
          simp at e1
          obtain ⟨rfl, rfl⟩ := e1
          rw [Nat.zero_add] at hc
          exact hc
        have hf : wr.frozen? ⟨B + 1, r, none⟩ = false := hO.frozenAt _
        obtain ⟨hs1, hs2⟩ := hO.stored r (.int .u32 ((cntR l k + 1 : Nat) : Int))
        rw [← List.map_set, HZE.out] at hs1
        have HS1 := hide hs1
        have HR5 := hide (hR.far hs2 (by omega))
        have HT5 := hide ((hs2.block B (by have := (Array.getElem?_eq_some_iff.1 hT).1; omega) (by simp)).trans hT)
        generalize nth (rnZ l N k) r = old at *
        generalize hcc : cntR l k = cc at *
        have hw4 : IntKind.u32.wrap ((cc : Int) + 1) = ((cc + 1 : Nat) : Int) := by rw [IntKind.wrap_u32]; omega
        have hr1 : (0 : Int) ≤ (r : Int) := by omega
        have hr2 : (r : Int) < (N : Int) := by omega
        generalize hcd : ((cc + 1 : Nat) : Int) = cd at *
        have HCD : Hid (((cc + 1 : Nat) : Int) = cd) := hcd
        have hBl : B + 1 < wr.heap.size := (World.ownsRow.lt hO (B + 1) rfl).2
        clear hR hO hT mm p1 p2 p4 p5 p6 p7 hin hfr HC1 hs1 hs2 hcd hz0 hr
        go_wp2_with fail
        go_roundw
        case rel => exact ⟨k + 1, by omega, by go_num, by rw [HCE.out, HCD.out], HR5.out, HS1.out, HT5.out⟩
        case measure => simp [intOf]; omega
    · obtain rfl : k = n := by omega
      have htu := HTU.out wr (some ⟨B + 1, 0, none⟩) (HV.out.below hR.bel) (View.ofRow hO (rnZ_len l N k))
      have q0 := mm 0
      have q1 := mm 1
      have hck := cntR_le l k
      have hTl := (Array.getElem?_eq_some_iff.1 hT).1
      clear hR hO hT mm HTU
      unfold modV at *
      go_wp2_with fail
      refine htu.mono ?_
      rintro e w5 ⟨a5, c5, cs5, rfl, ho5, hv5, hb5⟩
      generalize hcc : cntR l k = cc at *
      have hw4 : IntKind.u32.wrap ((cc : Int) + 1) = ((cc + 1 : Nat) : Int) := by rw [IntKind.wrap_u32]; omega
      generalize hcd : ((cc + 1 : Nat) : Int) = cd at *
      have HCD := hide hcd
      clear hcd hcc
      have hba : Below w5.heap.size w5 (w5.alloc (.cells #[.int .u32 gen, .int .u32 cd, .slice a5 k c5] 25)) := (Below.refl _ w5).alloc (Nat.le_refl _) _
      have hb6 := hb5.trans (hba.mono hb5.size)
      have HX5 := hide (heap_alloc_new w5 (.cells #[.int .u32 gen, .int .u32 cd, .slice a5 k c5] 25))
      have HX6 : Hid ((w5.alloc (.cells #[.int .u32 gen, .int .u32 cd, .slice a5 k c5] 25)).heap.size = w5.heap.size + 1) := by show _ = _; simp
      have HR6 := hide (HR.out.below hb6)
      have HT6 := hide ((hb6.block B hTl).trans HTk.out)
      have HO6 := hide (own_below ho5 hba)
      have HV6 := hide (hv5.below hba)
      have hs5 := hb5.size
      clear htu hb5 hba hb6 ho5 hv5 q0 q1 m2
      go_wp2_with fail
      generalize w5.alloc (.cells #[.int .u32 gen, .int .u32 cd, .slice a5 k c5] 25) = W6 at *
      obtain ⟨xx, _⟩ := one_block HX5.out
      have x0 := xx 0
      have x1 := xx 1
      have x2 := xx 2
      obtain ⟨t0, t1, _⟩ := cell_of_two HT6.out
      obtain ⟨rr, rf⟩ := one_block HR6.out.rbox
      obtain ⟨ss, sf⟩ := one_block HR6.out.sbox
      have r0 := rr 0
      have r1 := rr 1
      have r2 := rr 2
      have s0 := ss 0
      have s1 := ss 1
      have hn1 : w5.heap.size ≠ w.heap.size + 1 := by omega
      have hn2 : w5.heap.size ≠ w.heap.size + 2 := by omega
      have hn3 : B ≠ w.heap.size + 1 := by omega
      have hn4 : B ≠ w.heap.size + 2 := by omega
      clear xx rr ss
      refine wp_norm ?_
      go_region
      all_goals
        rw [onNormal_normal]
        obtain ⟨f1, f2⟩ := five_setN HR6.out.rbox HR6.out.sbox (by omega) (.int .u32 gen) (.int .u32 cd) (.slice a5 k c5) (.int .i64 0) (.int .i64 0)
        have hB5 := five_belowN HR6.out.bel (.int .u32 gen) (.int .u32 cd) (.slice a5 k c5) (.int .i64 0) (.int .i64 0)
        have hvF := (((((HV6.out.set (b := w.heap.size + 1) (by omega) 0 (.int .u32 gen)).set (b := w.heap.size + 1) (by omega) 1 (.int .u32 cd)).set (b := w.heap.size + 1) (by omega) 2 (.slice a5 k c5)).set (b := w.heap.size + 2) (by omega) 0 (.int .i64 0)).set (b := w.heap.size + 2) (by omega) 1 (.int .i64 0)).view (ownsRow_setCell_below (ownsRow_setCell_below (ownsRow_setCell_below (ownsRow_setCell_below (ownsRow_setCell_below HO6.out (a := ⟨w.heap.size + 1, 0, none⟩) (by simp; omega) _) (a := ⟨w.heap.size + 1, 1, none⟩) (by simp; omega) _) (a := ⟨w.heap.size + 1, 2, none⟩) (by simp; omega) _) (a := ⟨w.heap.size + 2, 0, none⟩) (by simp; omega) _) (a := ⟨w.heap.size + 2, 1, none⟩) (by simp; omega) _) (by rw [turnL_len]; exact HL.out)
        clear r0 r1 r2 s0 s1 rf sf x0 x1 x2 t0 t1
        go_wp2_with fail
        try rw [show w.heap.size + 1 + 1 = w.heap.size + 2 from rfl]
        refine HRET.out _ _ a5 c5 cd ?_ ?_ ?_ ?_ ?_ ?_ ?_ ?_
        · rfl
        · rfl
        · rfl
        · exact f1
        · exact f2
        · first | exact hB5.drew | exact hB5
        · first | exact hvF.below (below_drew _) | exact hvF
        · first | rfl | exact HCD.out

end Go.Proofs.YtjjoggpddafajaaGreat

/-
  CopyInst of the kit answers the instruction in new memory.
-/
namespace Go.Proofs.YtjjoggpddafajaaGreat
open Go.RowKit

theorem CopyInst.info : (Tryz.prog.info? 48).map (fun i => (i.zero, i.size, i.bytes)) = some (some (.agg #[.int .u8 0, .int .u32 0, .string ⟨#[]⟩]), 3, 24) := by kernel_rfl

/-- The first k arguments lie in the row at g. -/
structure PartA (w : World) (g n k : Nat) (l : List ArgT) : Prop where
  row : ∃ cs : Array Value, w.heap[g]? = some (.cells cs 48 (0, 0)) ∧ cs.size = n * 3
  each : ∀ j, j < k → w.cell? ⟨g, j * 3, none⟩ = some (.int .u8 (nthA l j).1) ∧ w.cell? ⟨g, j * 3 + 1, none⟩ = some (.int .u32 (nthA l j).2.1) ∧ w.cell? ⟨g, j * 3 + 2, none⟩ = some (.string (nthA l j).2.2)

theorem cells_can {w : World} {g T : Nat} {cs : Array Value} (h : w.heap[g]? = some (.cells cs T (0, 0))) (j : Nat) (hj : j < cs.size) : (∃ v, w.cell? ⟨g, j, none⟩ = some v) ∧ w.frozen? ⟨g, j, none⟩ = false := by
  refine ⟨⟨cs[j], by simp [World.cell?, h, hj]⟩, by simp [World.frozen?, h]⟩

theorem PartA.store {w : World} {g n k : Nat} {l : List ArgT} (h : PartA w g n k l) (hk : k < n) :
    PartA (((w.setCell ⟨g, k * 3, none⟩ (.int .u8 (nthA l k).1)).setCell ⟨g, k * 3 + 1, none⟩ (.int .u32 (nthA l k).2.1)).setCell ⟨g, k * 3 + 2, none⟩ (.string (nthA l k).2.2)) g n (k + 1) l := by
  obtain ⟨⟨cs, h1, h2⟩, h3⟩ := h
  obtain ⟨W, hW⟩ : ∃ W, W = ((w.setCell ⟨g, k * 3, none⟩ (.int .u8 (nthA l k).1)).setCell ⟨g, k * 3 + 1, none⟩ (.int .u32 (nthA l k).2.1)).setCell ⟨g, k * 3 + 2, none⟩ (.string (nthA l k).2.2) := ⟨_, rfl⟩
  have hb : W.heap[g]? = some (.cells (((cs.setIfInBounds (k * 3) (.int .u8 (nthA l k).1)).setIfInBounds (k * 3 + 1) (.int .u32 (nthA l k).2.1)).setIfInBounds (k * 3 + 2) (.string (nthA l k).2.2)) 48 (0, 0)) := by
    rw [hW]; simp [World.setCell, Array.getElem?_modify, h1]
  have cell : ∀ j, W.cell? ⟨g, j, none⟩ = (((cs.setIfInBounds (k * 3) (.int .u8 (nthA l k).1)).setIfInBounds (k * 3 + 1) (.int .u32 (nthA l k).2.1)).setIfInBounds (k * 3 + 2) (.string (nthA l k).2.2))[j]? := fun j => by
    simp [World.cell?, hb]
  have old : ∀ j, w.cell? ⟨g, j, none⟩ = cs[j]? := fun j => by simp [World.cell?, h1]
  rw [← hW]
  refine ⟨⟨_, hb, by simp [h2]⟩, fun j hj => ?_⟩
  by_cases hjk : j < k
  · obtain ⟨c1, c2, c3⟩ := h3 j hjk
    rw [old] at c1 c2 c3
    refine ⟨?_, ?_, ?_⟩
    all_goals rw [cell, Array.getElem?_setIfInBounds_ne (by omega), Array.getElem?_setIfInBounds_ne (by omega), Array.getElem?_setIfInBounds_ne (by omega)]
    · exact c1
    · exact c2
    · exact c3
  · obtain rfl : j = k := by omega
    refine ⟨?_, ?_, ?_⟩
    · rw [cell, Array.getElem?_setIfInBounds_ne (by omega), Array.getElem?_setIfInBounds_ne (by omega), Array.getElem?_setIfInBounds_self_of_lt (by omega)]
    · rw [cell, Array.getElem?_setIfInBounds_ne (by omega), Array.getElem?_setIfInBounds_self_of_lt (by simp; omega)]
    · rw [cell, Array.getElem?_setIfInBounds_self_of_lt (by simp; omega)]

theorem PartA.view {w : World} {g n : Nat} {l : List ArgT} (h : PartA w g n n l) (hl : l.length = n) : ArgsV w (some ⟨g, 0, none⟩) l := by
  intro j hj
  obtain ⟨c1, c2, c3⟩ := h.each j (by omega)
  exact ⟨g, 0, rfl, World.block_lt_of_cell? _ _ c1, by rw [Nat.zero_add]; exact c1, by rw [Nat.zero_add]; exact c2, by rw [Nat.zero_add]; exact c3⟩

theorem PartA.drew {w : World} {g n k : Nat} {l : List ArgT} (h : PartA w g n k l) (q : Nat) : PartA (w.drewN q) g n k l := ⟨h.row, h.each⟩

theorem setFar1 {w : World} {g k : Nat} {o : Obj} (h : w.heap[k]? = some o) (hne : k ≠ g) (i : Nat) (u : Value) : (w.setCell ⟨g, i, none⟩ u).heap[k]? = some o := (Below.heap_setCell _ _ _ _ (by simpa using hne)).trans h
theorem setFar3 {w : World} {g k : Nat} {o : Obj} (h : w.heap[k]? = some o) (hne : k ≠ g) (i j m : Nat) (u v x : Value) : (((w.setCell ⟨g, i, none⟩ u).setCell ⟨g, j, none⟩ v).setCell ⟨g, m, none⟩ x).heap[k]? = some o := setFar1 (setFar1 (setFar1 h hne i u) hne j v) hne m x
theorem block_cells {w : World} {B T : Nat} {cs : Array Value} (h : w.heap[B]? = some (.cells cs T (0, 0))) : (∀ i, w.cell? ⟨B, i, none⟩ = cs[i]?) ∧ (∀ i, w.frozen? ⟨B, i, none⟩ = false) := by
  refine ⟨fun i => ?_, fun i => ?_⟩
  · simp [World.cell?, h]
  · simp [World.frozen?, h]

theorem four_set {w : World} {B T : Nat} {z0 z1 z2 z3 : Value} (h : w.heap[B]? = some (.cells #[z0, z1, z2, z3] T (0, 0))) (u0 u1 u2 u3 : Value) :
    ((((w.setCell ⟨B, 0, none⟩ u0).setCell ⟨B, 1, none⟩ u1).setCell ⟨B, 2, none⟩ u2).setCell ⟨B, 3, none⟩ u3).heap[B]? = some (.cells #[u0, u1, u2, u3] T (0, 0)) := by
  simp only [World.setCell, Array.getElem?_modify, h]; simp
theorem four_below (w : World) (B : Nat) (u0 u1 u2 u3 : Value) : Below B w ((((w.setCell ⟨B, 0, none⟩ u0).setCell ⟨B, 1, none⟩ u1).setCell ⟨B, 2, none⟩ u2).setCell ⟨B, 3, none⟩ u3) :=
  ((((Below.refl B w).setCell (Nat.le_refl _) _).setCell (Nat.le_refl _) _).setCell (Nat.le_refl _) _).setCell (Nat.le_refl _) _
theorem args_far {w : World} {b off g : Nat} {l : List ArgT} (h : ArgsV w (some ⟨b, off, none⟩) l) (hg : g ≠ b) (i : Nat) (v : Value) : ArgsV (w.setCell ⟨g, i, none⟩ v) (some ⟨b, off, none⟩) l :=
  h.setCell (fun b' off' e => by cases e; exact fun h => hg h.symm) v

set_option maxRecDepth 100000 in
set_option maxHeartbeats 2000000 in
theorem copyInst_any (x : InstT) (ax : Option Addr) (n cx : Nat) (w : World) (hx : ArgsV w ax x.2.2.2) (hl : x.2.2.2.length = n) (hn : 24 * n ≤ 140737488351232) :
    Calls Tryz.prog 11 #[instV x ax n cx] w fun e w' => ∃ g, e = .returned (instV x (some ⟨g, 0, none⟩) n n) ∧ w.heap.size ≤ g ∧ ArgsV w' (some ⟨g, 0, none⟩) x.2.2.2 ∧ Below w.heap.size w w' := by
  obtain ⟨i0, hi, hz0, hz1, hz2⟩ := info_parts CopyInst.info
  obtain ⟨xo, xt, xr, xl⟩ := x
  unfold instV
  simp only at *
  have HL : Hid (xl.length = n) := hl
  clear hl
  go_enter Tryz.func11, Tryz.ntmps11
  go_wp2_with (at_make; refine wpList_make_full _ rfl _ _ 38 rfl (w.heap.size + 1) 48 i0 (.agg #[.int .u8 0, .int .u32 0, .string ⟨#[]⟩]) 3 Tryz.underlying38 hi hz0 hz1 _ _ _ _ n rfl rfl (by omega) (by omega) (by rw [hz2]; omega) (by unfold maxLen; omega) (by simp) ?_)
  intro w1 hown1 hgrow1
  have hb0 : Below w.heap.size w ((w.alloc (.cells #[.int .u16 xo, .int .u32 xt, .int .u32 xr, .slice ax n cx] 40)).alloc (.cells #[.int .u16 0, .int .u32 0, .int .u32 0, .slice none 0 0] 40)) := ((Below.refl _ w).alloc (Nat.le_refl _) _).alloc (by simp) _
  have hb1 : Below (w.heap.size + 2) ((w.alloc (.cells #[.int .u16 xo, .int .u32 xt, .int .u32 xr, .slice ax n cx] 40)).alloc (.cells #[.int .u16 0, .int .u32 0, .int .u32 0, .slice none 0 0] 40)) w1 := (Below.refl _ _).grown hgrow1 (by simp) (by simp)
  have hbox : w1.heap[w.heap.size]? = some (.cells #[.int .u16 xo, .int .u32 xt, .int .u32 xr, .slice ax n cx] 40 (0, 0)) := (hb1.block w.heap.size (by omega)).trans ((Below.heap_alloc _ _ _ (by simp)).trans (heap_alloc_new w _))
  have hres : w1.heap[w.heap.size + 1]? = some (.cells #[.int .u16 0, .int .u32 0, .int .u32 0, .slice none 0 0] 40 (0, 0)) := (hb1.block (w.heap.size + 1) (by omega)).trans (by simpa using heap_alloc_new (w.alloc (.cells #[.int .u16 xo, .int .u32 xt, .int .u32 xr, .slice ax n cx] 40)) (.cells #[.int .u16 0, .int .u32 0, .int .u32 0, .slice none 0 0] 40))
  have hP1 : PartA w1 (w.heap.size + 2) n 0 xl := by
    refine ⟨?_, fun j hj => by omega⟩
    rcases hown1.2 with ⟨h, _⟩ | ⟨g, cap', cur, h1, h2, h3, h4, h5, h6, _⟩
    · simp at h
    · simp at h1; obtain ⟨rfl, rfl⟩ := h1; exact ⟨cur, h3, h6⟩
  have hbw1 : Below w.heap.size w w1 := hb0.trans (hb1.mono (by omega))
  clear hown1 hgrow1 hb0 hb1
  go_wp2
  go_loopw [4] (fun i wr => ∃ k : Nat, k ≤ n ∧ i = .int .i64 k ∧ PartA wr (w.heap.size + 2) n k xl ∧ wr.heap[w.heap.size]? = some (.cells #[.int .u16 xo, .int .u32 xt, .int .u32 xr, .slice ax n cx] 40 (0, 0)) ∧ wr.heap[w.heap.size + 1]? = some (.cells #[.int .u16 0, .int .u32 0, .int .u32 0, .slice none 0 0] 40 (0, 0)) ∧ Below w.heap.size w wr) (fun i _ => n - (intOf i).toNat)
  case atStart => exact ⟨0, Nat.zero_le _, rfl, hP1, hbox, hres, hbw1⟩
  case round =>
    obtain ⟨k, hk, rfl, hP, hbx, hrs, hnx⟩ := hrel
    clear hP1 hbw1 hbox hres
    have hbc : wr.cell? ⟨w.heap.size, 3, none⟩ = some (.slice ax n cx) := by simp [World.cell?, hbx]
    have hsz := hnx.size
    by_cases hlt : k < n
    · obtain ⟨b, off, rfl, hbs, p1, p2, p3⟩ := hx k (by rw [HL.out]; exact hlt)
      have q1 := (hnx.cell (p := ⟨b, off + k * 3, none⟩) hbs).trans p1
      have q2 := (hnx.cell (p := ⟨b, off + k * 3 + 1, none⟩) hbs).trans p2
      have q3 := (hnx.cell (p := ⟨b, off + k * 3 + 2, none⟩) hbs).trans p3
      obtain ⟨cs, hr1, hr2⟩ := hP.row
      obtain ⟨⟨u0, d0⟩, f0⟩ := cells_can hr1 (k * 3) (by omega)
      obtain ⟨⟨u1, d1⟩, f1⟩ := cells_can hr1 (k * 3 + 1) (by omega)
      obtain ⟨⟨u2, d2⟩, f2⟩ := cells_can hr1 (k * 3 + 2) (by omega)
      have hki : (k : Int) < (n : Int) := by omega
      have hk0 : (0 : Int) ≤ (k : Int) := by omega
      have hP2 := hP.store hlt
      have HX : Hid (wr.heap[w.heap.size]? = some (.cells #[.int .u16 xo, .int .u32 xt, .int .u32 xr, .slice (some ⟨b, off, none⟩) n cx] 40 (0, 0))) := hbx
      have HP2 : Hid _ := hP2
      have HR : Hid _ := hrs
      clear hP2 hP hr1 hr2 p1 p2 p3 hx hbx hrs
      go_wp2
      go_roundw
      case rel => exact ⟨k + 1, by omega, by go_num, HP2.out, setFar3 HX.out (by omega) _ _ _ _ _ _, setFar3 HR.out (by omega) _ _ _ _ _ _, ((hnx.setCell (by show w.heap.size ≤ w.heap.size + 1 + 1; omega) _).setCell (by show w.heap.size ≤ w.heap.size + 1 + 1; omega) _).setCell (by show w.heap.size ≤ w.heap.size + 1 + 1; omega) _⟩
      case measure => simp [intOf]; omega
    · obtain rfl : k = n := by omega
      obtain ⟨hc, hf⟩ := block_cells hbx
      obtain ⟨hc', hf'⟩ := block_cells hrs
      have c0 := hc 0
      have c1 := hc 1
      have c2 := hc 2
      have r0 := hc' 0
      have r1 := hc' 1
      have r2 := hc' 2
      have r3 := hc' 3
      have hV := hP.view HL.out
      have HV : Hid _ := hV
      have HB : Hid _ := hnx
      have HX : Hid _ := hbx
      have HR : Hid _ := hrs
      clear hP hbx hrs hc hc' hx hV hnx
      go_wp2
      have hB4 := four_set (setFar1 HR.out (show w.heap.size + 1 ≠ w.heap.size by omega) 3 (.slice (some ⟨w.heap.size + 1 + 1, 0, none⟩) k k)) (.int .u16 xo) (.int .u32 xt) (.int .u32 xr) (.slice (some ⟨w.heap.size + 1 + 1, 0, none⟩) k k)
      have hBel := (HB.out.setCell (p := ⟨w.heap.size, 3, none⟩) (Nat.le_refl _) (.slice (some ⟨w.heap.size + 1 + 1, 0, none⟩) k k)).trans ((four_below (wr.setCell ⟨w.heap.size, 3, none⟩ (.slice (some ⟨w.heap.size + 1 + 1, 0, none⟩) k k)) (w.heap.size + 1) (.int .u16 xo) (.int .u32 xt) (.int .u32 xr) (.slice (some ⟨w.heap.size + 1 + 1, 0, none⟩) k k)).mono (show w.heap.size ≤ w.heap.size + 1 by omega))
      have hV2 := args_far HV.out (show w.heap.size ≠ w.heap.size + 2 by omega) 3 (.slice (some ⟨w.heap.size + 1 + 1, 0, none⟩) k k)
      have hV3 := args_far (args_far (args_far (args_far hV2 (show w.heap.size + 1 ≠ w.heap.size + 2 by omega) 0 (.int .u16 xo)) (show w.heap.size + 1 ≠ w.heap.size + 2 by omega) 1 (.int .u32 xt)) (show w.heap.size + 1 ≠ w.heap.size + 2 by omega) 2 (.int .u32 xr)) (show w.heap.size + 1 ≠ w.heap.size + 2 by omega) 3 (.slice (some ⟨w.heap.size + 1 + 1, 0, none⟩) k k)
      clear hV2 HV HB HR HX c0 c1 c2 r0 r1 r2 r3 hf hf'
      generalize ((((wr.setCell _ _).setCell _ _).setCell _ _).setCell _ _).setCell _ _ = W at hB4 hBel hV3 ⊢
      obtain ⟨hd, _⟩ := block_cells hB4
      have d0 := hd 0
      have d1 := hd 1
      have d2 := hd 2
      have d3 := hd 3
      refine bodyPost_ret (v := .agg #[.int .u16 xo, .int .u32 xt, .int .u32 xr, .slice (some ⟨w.heap.size + 1 + 1, 0, none⟩) k k]) ?_ rfl ⟨w.heap.size + 1 + 1, rfl, by omega, hV3, hBel⟩
      simp [results, Tryz.results11, go_sem, d0, d1, d2, d3]

end Go.Proofs.YtjjoggpddafajaaGreat
