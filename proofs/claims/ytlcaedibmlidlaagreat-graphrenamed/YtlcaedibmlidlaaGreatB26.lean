/-
  Texts laid together in one: IdsTurnedR.
-/
import Derived.WalkSpells
import Derived.WalkMore
import Derived.BigRegion
import Derived.Deep.RegionWith
import Derived.Test.YtlcaedibmlidlaaGreatProg
import Derived.Test.YtlcaedibmlidlaaGreatB25
import Derived.Test.YtlcaedibmlidlaaGreatB10
/-
  turned of the package ids, with the closure ids.Renumber$1: an instruction with other ids, its arguments in new memory.
-/
namespace Go.Proofs.YtlcaedibmlidlaaGreat
open Go.RowKit
set_option linter.unusedVariables false
set_option linter.unusedSimpArgs false
set_option maxRecDepth 10000

theorem four_putVR {W : World} {b T : Nat} {x0 x1 x2 x3 : Value} (h : W.heap[b]? = some (.cells #[x0, x1, x2, x3] T (0, 0))) (u0 u1 u2 u3 : Value) : ((((W.setCell ⟨b, 0, none⟩ u0).setCell ⟨b, 1, none⟩ u1).setCell ⟨b, 2, none⟩ u2).setCell ⟨b, 3, none⟩ u3).heap[b]? = some (.cells #[u0, u1, u2, u3] T (0, 0)) := by simp [World.setCell, Array.getElem?_modify, h]

theorem setFar1V {w : World} {g k : Nat} {o : Obj} (h : w.heap[k]? = some o) (hne : k ≠ g) (i : Nat) (u : Value) : (w.setCell ⟨g, i, none⟩ u).heap[k]? = some o := (Below.heap_setCell _ _ _ _ (by simpa using hne)).trans h

set_option maxHeartbeats 8000000 in
theorem turnedR_tt (f : Int → Int) (P : Int → Prop) (cb : Nat) (xo xt xr : Int) (xl : List ArgT) (ax : Option Addr) (nx cx : Nat) (w : World) (hv : ArgsV w ax xl) (hl : xl.length = nx) (hn : 24 * nx ≤ 140737488351232)
    (hC : ∀ wx id, Below w.heap.size w wx → P id → Calls Tryz.prog 34 #[.int .u32 id, .pointer (some ⟨cb, 0, none⟩)] wx fun e w' => e = .returned (.int .u32 (f id)) ∧ wx = w')
    (ht : xt ≠ 0) (hr : xr ≠ 0) (pt : xt ≠ 0 → P xt) (pr : xr ≠ 0 → P xr) (pa : ∀ k, k < nx → (nthA xl k).1 = 1 → P (nthA xl k).2.1) :
    Calls Tryz.prog 82 #[.agg #[.int .u16 xo, .int .u32 xt, .int .u32 xr, .slice ax nx cx], .func (.func 34) #[] #[.pointer (some ⟨cb, 0, none⟩)]] w fun e w' => ∃ a c, e = .returned (.agg #[.int .u16 xo, .int .u32 (tN f xt), .int .u32 (tN f xr), .slice a nx c]) ∧ w'.ownsRow (w.heap.size + 2) 105 3 (.slice a nx c) nx ((xl.map (tA f)).flatMap argC) ∧ Below w.heap.size w w' := by
  have ht' : (xt != 0) = true := by simpa using ht
  have hpt := pt ht
  have HT : Hid (tN f xt = f xt) := by show _ = _; unfold tN; rw [if_neg ht]
  clear ht
  have hr' : (xr != 0) = true := by simpa using hr
  have hpr := pr hr
  have HR : Hid (tN f xr = f xr) := by show _ = _; unfold tN; rw [if_neg hr]
  clear hr
  have hb0 : Below w.heap.size w ((w.alloc (.cells #[.int .u16 xo, .int .u32 xt, .int .u32 xr, .slice ax nx cx] 63)).alloc (.cells #[.int .u16 0, .int .u32 0, .int .u32 0, .slice none 0 0] 63)) := ((Below.refl _ w).alloc (Nat.le_refl _) _).alloc (by simp) _
  have hCl := cloneA_any ax nx cx xl _ (hv.below hb0) hl hn
  have k0 : ((w.alloc (.cells #[.int .u16 xo, .int .u32 xt, .int .u32 xr, .slice ax nx cx] 63)).alloc (.cells #[.int .u16 0, .int .u32 0, .int .u32 0, .slice none 0 0] 63)).heap[w.heap.size]? = some (.cells #[.int .u16 xo, .int .u32 xt, .int .u32 xr, .slice ax nx cx] 63 (0, 0)) := by rw [Below.heap_alloc _ _ _ (by simp)]; exact heap_alloc_new _ _
  have k1 : ((w.alloc (.cells #[.int .u16 xo, .int .u32 xt, .int .u32 xr, .slice ax nx cx] 63)).alloc (.cells #[.int .u16 0, .int .u32 0, .int .u32 0, .slice none 0 0] 63)).heap[w.heap.size + 1]? = some (.cells #[.int .u16 0, .int .u32 0, .int .u32 0, .slice none 0 0] 63 (0, 0)) := by have := heap_alloc_new (w.alloc (.cells #[.int .u16 xo, .int .u32 xt, .int .u32 xr, .slice ax nx cx] 63)) (.cells #[.int .u16 0, .int .u32 0, .int .u32 0, .slice none 0 0] 63); simpa using this
  have HZ : Hid (((w.alloc (.cells #[.int .u16 xo, .int .u32 xt, .int .u32 xr, .slice ax nx cx] 63)).alloc (.cells #[.int .u16 0, .int .u32 0, .int .u32 0, .slice none 0 0] 63)).heap.size = w.heap.size + 2) := by show _ = _; simp
  have HK := hide (And.intro k0 k1)
  have HB0 := hide hb0
  have HC := hide hC
  have HPA := hide pa
  have HL := hide hl
  have HN : Hid (24 * nx ≤ 140737488351232) := hn
  clear hC pt pr pa hv hl hn hb0 k0 k1
  go_enter Tryz.func82, Tryz.ntmps82
  go_wp2_with fail
  generalize (w.alloc (.cells #[.int .u16 xo, .int .u32 xt, .int .u32 xr, .slice ax nx cx] 63)).alloc (.cells #[.int .u16 0, .int .u32 0, .int .u32 0, .slice none 0 0] 63) = W0 at *
  refine hCl.mono ?_
  rintro e w1 ⟨v, rfl, hown, hb1⟩
  obtain ⟨a', c', rfl⟩ := own_shapeU hown
  rw [HZ.out] at hown
  have q0 := (hb1.block w.heap.size (by rw [HZ.out]; omega)).trans HK.out.1
  have q1 := (hb1.block (w.heap.size + 1) (by rw [HZ.out]; omega)).trans HK.out.2
  have HBW := hide (HB0.out.trans (hb1.mono HB0.out.size))
  have HO := hide hown
  have HQ := hide (And.intro q0 q1)
  have hs1 : w.heap.size + 2 ≤ w1.heap.size := by have := hb1.size; rw [HZ.out] at this; exact this
  obtain ⟨cc, ff⟩ := one_block q0
  have c0 := cc 0
  have c1 := cc 1
  have c2 := cc 2
  have c3 := cc 3
  clear cc hCl hb1 q0 q1 hown HK HB0
  have HX : Hid ((w1.setCell ⟨w.heap.size, 3, none⟩ (.slice a' nx c')).heap[w.heap.size]? = some (.cells #[.int .u16 xo, .int .u32 xt, .int .u32 xr, .slice a' nx c'] 63 (0, 0))) := by have h := HQ.out.1; show _ = _; simp [World.setCell, Array.getElem?_modify, h]
  have HX1 : Hid ((w1.setCell ⟨w.heap.size, 3, none⟩ (.slice a' nx c')).heap[w.heap.size + 1]? = some (.cells #[.int .u16 0, .int .u32 0, .int .u32 0, .slice none 0 0] 63 (0, 0))) := (Below.heap_setCell _ _ _ _ (by simp)).trans HQ.out.2
  have HXB : Hid (Below w.heap.size w (w1.setCell ⟨w.heap.size, 3, none⟩ (.slice a' nx c'))) := HBW.out.setCell (p := ⟨w.heap.size, 3, none⟩) (Nat.le_refl _) _
  have HXO : Hid ((w1.setCell ⟨w.heap.size, 3, none⟩ (.slice a' nx c')).ownsRow (w.heap.size + 2) 105 3 (.slice a' nx c') nx (xl.flatMap argC)) := ownsRow_setCell_below HO.out (a := ⟨w.heap.size, 3, none⟩) (by simp) _
  have HXS : Hid (w.heap.size + 2 ≤ (w1.setCell ⟨w.heap.size, 3, none⟩ (.slice a' nx c')).heap.size) := by show _ ≤ _; rw [World.size_setCell]; exact hs1
  go_wp2_with fail
  clear c0 c1 c2 c3 ff HQ HO HBW hs1
  generalize (w1.setCell ⟨w.heap.size, 3, none⟩ (.slice a' nx c')) = X1 at *
  refine (HC.out X1 xt HXB.out hpt).mono ?_
  rintro e y1 ⟨rfl, rfl⟩
  obtain ⟨cc, ff⟩ := one_block HX.out
  have c0 := cc 0
  have c1 := cc 1
  have c2 := cc 2
  have c3 := cc 3
  clear cc
  have HX' : Hid ((X1.setCell ⟨w.heap.size, 1, none⟩ (.int .u32 (f xt))).heap[w.heap.size]? = some (.cells #[.int .u16 xo, .int .u32 (f xt), .int .u32 (xr), .slice a' nx c'] 63 (0, 0))) := by have h := HX.out; show _ = _; simp [World.setCell, Array.getElem?_modify, h]
  have HX1' : Hid ((X1.setCell ⟨w.heap.size, 1, none⟩ (.int .u32 (f xt))).heap[w.heap.size + 1]? = some (.cells #[.int .u16 0, .int .u32 0, .int .u32 0, .slice none 0 0] 63 (0, 0))) := (Below.heap_setCell _ _ _ _ (by simp)).trans HX1.out
  have HXB' : Hid (Below w.heap.size w (X1.setCell ⟨w.heap.size, 1, none⟩ (.int .u32 (f xt)))) := HXB.out.setCell (p := ⟨w.heap.size, 1, none⟩) (Nat.le_refl _) _
  have HXO' : Hid ((X1.setCell ⟨w.heap.size, 1, none⟩ (.int .u32 (f xt))).ownsRow (w.heap.size + 2) 105 3 (.slice a' nx c') nx (xl.flatMap argC)) := ownsRow_setCell_below HXO.out (a := ⟨w.heap.size, 1, none⟩) (by simp) _
  have HXS' : Hid (w.heap.size + 2 ≤ (X1.setCell ⟨w.heap.size, 1, none⟩ (.int .u32 (f xt))).heap.size) := by show _ ≤ _; rw [World.size_setCell]; exact HXS.out
  go_wp2_with fail
  clear HX HX1 HXB HXO HXS c0 c1 c2 c3 ff
  generalize X1.setCell ⟨w.heap.size, 1, none⟩ (.int .u32 (f xt)) = X2 at *
  have HX := HX'
  have HX1 := HX1'
  have HXB := HXB'
  have HXO := HXO'
  have HXS := HXS'
  clear HX' HX1' HXB' HXO' HXS'
  refine (HC.out X2 xr HXB.out hpr).mono ?_
  rintro e y2 ⟨rfl, rfl⟩
  obtain ⟨cc, ff⟩ := one_block HX.out
  have c0 := cc 0
  have c1 := cc 1
  have c2 := cc 2
  have c3 := cc 3
  clear cc
  have HX' : Hid ((X2.setCell ⟨w.heap.size, 2, none⟩ (.int .u32 (f xr))).heap[w.heap.size]? = some (.cells #[.int .u16 xo, .int .u32 (f xt), .int .u32 (f xr), .slice a' nx c'] 63 (0, 0))) := by have h := HX.out; show _ = _; simp [World.setCell, Array.getElem?_modify, h]
  have HX1' : Hid ((X2.setCell ⟨w.heap.size, 2, none⟩ (.int .u32 (f xr))).heap[w.heap.size + 1]? = some (.cells #[.int .u16 0, .int .u32 0, .int .u32 0, .slice none 0 0] 63 (0, 0))) := (Below.heap_setCell _ _ _ _ (by simp)).trans HX1.out
  have HXB' : Hid (Below w.heap.size w (X2.setCell ⟨w.heap.size, 2, none⟩ (.int .u32 (f xr)))) := HXB.out.setCell (p := ⟨w.heap.size, 2, none⟩) (Nat.le_refl _) _
  have HXO' : Hid ((X2.setCell ⟨w.heap.size, 2, none⟩ (.int .u32 (f xr))).ownsRow (w.heap.size + 2) 105 3 (.slice a' nx c') nx (xl.flatMap argC)) := ownsRow_setCell_below HXO.out (a := ⟨w.heap.size, 2, none⟩) (by simp) _
  have HXS' : Hid (w.heap.size + 2 ≤ (X2.setCell ⟨w.heap.size, 2, none⟩ (.int .u32 (f xr))).heap.size) := by show _ ≤ _; rw [World.size_setCell]; exact HXS.out
  go_wp2_with fail
  clear HX HX1 HXB HXO HXS c0 c1 c2 c3 ff
  generalize X2.setCell ⟨w.heap.size, 2, none⟩ (.int .u32 (f xr)) = X3 at *
  have HX := HX'
  have HX1 := HX1'
  have HXB := HXB'
  have HXO := HXO'
  have HXS := HXS'
  clear HX' HX1' HXB' HXO' HXS'
  have HO0 : Hid (X3.ownsRow (w.heap.size + 2) 105 3 (.slice a' nx c') nx ((turnTo f xl 0).flatMap argC)) := by rw [turnTo_zero]; exact HXO
  have HTA : Hid (turnTo f xl nx = xl.map (tA f)) := by show _ = _; rw [← HL.out]; exact turnTo_all f xl
  have HTS : Hid (∀ k, k < nx → (nthA xl k).1 = 1 → ((turnTo f xl k).flatMap argC).set (k * 3 + 1) (.int .u32 (f (nthA xl k).2.1)) = (turnTo f xl (k + 1)).flatMap argC) := fun k hk h => turn_set f xl k (by rw [HL.out]; exact hk) h
  have HTE : Hid (∀ k, k < nx → (nthA xl k).1 ≠ 1 → turnTo f xl (k + 1) = turnTo f xl k) := fun k hk h => turnTo_same f xl k (by rw [HL.out]; exact hk) h
  have HTC : Hid (∀ k j, k < nx → j < 3 → ((turnTo f xl k).flatMap argC)[k * 3 + j]? = (argC (nthA xl k))[j]?) := fun k j hk hj => by rw [flat_argU _ _ _ (by rw [turnTo_len, HL.out]; exact hk) hj, turnTo_at f xl k (by rw [HL.out]; exact hk)]
  have HTL : Hid (∀ k, ((turnTo f xl k).flatMap argC).length = nx * 3) := fun k => by rw [flat_lenU, turnTo_len, HL.out]
  go_loopw [30] (fun i wr => ∃ k : Nat, k ≤ nx ∧ i = .int .i64 k ∧ wr.ownsRow (w.heap.size + 2) 105 3 (.slice a' nx c') nx ((turnTo f xl k).flatMap argC) ∧ wr.heap[w.heap.size]? = some (.cells #[.int .u16 xo, .int .u32 (f xt), .int .u32 (f xr), .slice a' nx c'] 63 (0, 0)) ∧ wr.heap[w.heap.size + 1]? = some (.cells #[.int .u16 0, .int .u32 0, .int .u32 0, .slice none 0 0] 63 (0, 0)) ∧ w.heap.size + 2 ≤ wr.heap.size ∧ Below w.heap.size w wr) (fun i _ => nx - (intOf i).toNat)
  case atStart => exact ⟨0, Nat.zero_le _, rfl, HO0.out, HX.out, HX1.out, HXS.out, HXB.out⟩
  case round =>
    obtain ⟨k, hk, rfl, hO, hx, hx1, hxs, hB⟩ := hrel
    clear HO0 HX HX1 HXB HXO HXS
    obtain ⟨cc, ff⟩ := one_block hx
    have hkb : (k : Int) < 140737488351232 := by have := HN.out; omega
    by_cases hlt : k < nx
    · have hki : (k : Int) < (nx : Int) := by omega
      have hk0 : (0 : Int) ≤ (k : Int) := by omega
      have c3 : wr.cell? ⟨w.heap.size, 3, none⟩ = some (.slice a' nx c') := cc 3
      obtain ⟨g, rfl, hgl, hgs⟩ : ∃ g, a' = some ⟨g, 0, none⟩ ∧ w.heap.size + 2 ≤ g ∧ g < wr.heap.size := by
        rcases hO.2 with ⟨h1, h2⟩ | ⟨g, cap', cur, h1, h2, h3, _⟩
        · omega
        · cases h1; exact ⟨g, rfl, h2, (Array.getElem?_eq_some_iff.1 h3).1⟩
      have hln := HTL.out k
      have e0 : wr.cell? ⟨g, k * 3, none⟩ = some (.int .u8 (nthA xl k).1) := by have := hO.cellAt (k * 3) (by omega); rw [this]; exact HTC.out k 0 hlt (by omega)
      have e1 : wr.cell? ⟨g, k * 3 + 1, none⟩ = some (.int .u32 (nthA xl k).2.1) := by have := hO.cellAt (k * 3 + 1) (by omega); rw [this]; exact HTC.out k 1 hlt (by omega)
      have e2 : wr.cell? ⟨g, k * 3 + 2, none⟩ = some (.string (nthA xl k).2.2) := by have := hO.cellAt (k * 3 + 2) (by omega); rw [this]; exact HTC.out k 2 hlt (by omega)
      have hpk := HPA.out k hlt
      have hts := HTS.out k hlt
      have hte := HTE.out k hlt
      generalize nthA xl k = z at *
      obtain ⟨z1, z2, z3⟩ := z
      simp only at *
      have hba : Below wr.heap.size wr (wr.alloc (.cells #[.int .u8 z1, .int .u32 z2, .string z3] 105)) := (Below.refl _ wr).alloc (Nat.le_refl _) _
      have HOa := hide (own_below hO hba)
      have HXa := hide (And.intro ((hba.block _ (by omega)).trans hx) ((hba.block _ (by omega)).trans hx1))
      have HBa := hide (hB.trans (hba.mono hB.size))
      have HSa : Hid (w.heap.size + 2 ≤ (wr.alloc (.cells #[.int .u8 z1, .int .u32 z2, .string z3] 105)).heap.size ∧ (wr.alloc (.cells #[.int .u8 z1, .int .u32 z2, .string z3] 105)).heap.size = wr.heap.size + 1) := ⟨Nat.le_trans hxs hba.size, by simp⟩
      by_cases h1 : z1 = 1
      · subst h1
        have HE := hide (hts rfl)
        have hz1 : (wr.alloc (.cells #[.int .u8 1, .int .u32 z2, .string z3] 105)).cell? ⟨wr.heap.size, 1, none⟩ = some (.int .u32 z2) := (one_block (heap_alloc_new wr (.cells #[.int .u8 1, .int .u32 z2, .string z3] 105))).1 1
        have HZ1 := hide hz1
        have HPK := hide (hpk rfl)
        have g1 : (wr.alloc (.cells #[.int .u8 1, .int .u32 z2, .string z3] 105)).cell? ⟨g, k * 3 + 1, none⟩ = some (.int .u32 z2) := (hba.cell (p := ⟨g, k * 3 + 1, none⟩) hgs).trans e1
        have hg1 : (wr.alloc (.cells #[.int .u8 1, .int .u32 z2, .string z3] 105)).frozen? ⟨g, k * 3 + 1, none⟩ = false := HOa.out.frozenAt (k * 3 + 1)
        have b3 : (wr.alloc (.cells #[.int .u8 1, .int .u32 z2, .string z3] 105)).cell? ⟨w.heap.size, 3, none⟩ = some (.slice (some ⟨g, 0, none⟩) nx c') := (hba.cell (p := ⟨w.heap.size, 3, none⟩) (by simp; omega)).trans c3
        have HGG := hide (And.intro g1 (And.intro hg1 b3))
        clear hts hte hpk hO hx hx1 hB hba cc ff hz1 g1 hg1 b3
        go_wp2_with fail
        generalize wr.alloc (.cells #[.int .u8 1, .int .u32 z2, .string z3] 105) = Y at *
        obtain ⟨g1, hg1, b3⟩ := HGG.out
        have hz1 := HZ1.out
        clear c3 e0 e1 e2
        go_region_with ((go_at_call 34; refine (HC.out _ z2 ?_ HPK.out).mono ?_; (first | exact HBa.out | exact HBa.out.drew); rintro e y3 ⟨rfl, rfl⟩))
        all_goals
          have hO2 := (HOa.out.stored (k * 3 + 1) (.int .u32 (f z2))).1
          rw [HE.out] at hO2
          have hx2 := setFar1V HXa.out.1 (show w.heap.size ≠ g by omega) (k * 3 + 1) (.int .u32 (f z2))
          have hx3 := setFar1V HXa.out.2 (show w.heap.size + 1 ≠ g by omega) (k * 3 + 1) (.int .u32 (f z2))
          have hB2 := HBa.out.setCell (p := ⟨g, k * 3 + 1, none⟩) (by simp; omega) (.int .u32 (f z2))
          have HF := hide (And.intro hO2 (And.intro hx2 (And.intro hx3 hB2)))
          have HS2 : Hid (w.heap.size + 2 ≤ (Y.setCell ⟨g, k * 3 + 1, none⟩ (.int .u32 (f z2))).heap.size) := by show _ ≤ _; rw [World.size_setCell]; exact HSa.out.1
          clear hO2 hx2 hx3 hB2 g1 hg1 b3 hz1 HGG HZ1 HOa HXa HBa
          go_wp2_with fail
          go_roundw
          case rel => exact ⟨k + 1, by omega, by go_num, HF.out.1, HF.out.2.1, HF.out.2.2.1, HS2.out, by first | exact HF.out.2.2.2 | exact HF.out.2.2.2.drew⟩
          case measure => simp [intOf]; omega
      · have h1' : (z1 == 1) = false := by simpa using h1
        have HE := hide (hte h1)
        clear hts hte hpk hO hx hx1 hB hba cc ff h1
        go_wp2_with fail
        go_roundw
        case rel => exact ⟨k + 1, by omega, by go_num, by rw [HE.out]; exact HOa.out, HXa.out.1, HXa.out.2, HSa.out.1, HBa.out⟩
        case measure => simp [intOf]; omega
    · obtain rfl : k = nx := by omega
      have c0 := cc 0
      have c1 := cc 1
      have c2 := cc 2
      have c3 := cc 3
      obtain ⟨rr, fr⟩ := one_block hx1
      have r0 := rr 0
      have r1 := rr 1
      have r2 := rr 2
      have r3 := rr 3
      rw [HTA.out] at hO
      have HOF := hide (ownsRow_setCell_below (ownsRow_setCell_below (ownsRow_setCell_below (ownsRow_setCell_below hO (a := ⟨w.heap.size + 1, 0, none⟩) (by simp) (.int .u16 xo)) (a := ⟨w.heap.size + 1, 1, none⟩) (by simp) (.int .u32 (f xt))) (a := ⟨w.heap.size + 1, 2, none⟩) (by simp) (.int .u32 (f xr))) (a := ⟨w.heap.size + 1, 3, none⟩) (by simp) (.slice a' k c'))
      have HXF := hide (four_putVR hx1 (.int .u16 xo) (.int .u32 (f xt)) (.int .u32 (f xr)) (.slice a' k c'))
      have HBF := hide ((((hB.setCell (p := ⟨w.heap.size + 1, 0, none⟩) (by simp) (.int .u16 xo)).setCell (p := ⟨w.heap.size + 1, 1, none⟩) (by simp) (.int .u32 (f xt))).setCell (p := ⟨w.heap.size + 1, 2, none⟩) (by simp) (.int .u32 (f xr))).setCell (p := ⟨w.heap.size + 1, 3, none⟩) (by simp) (.slice a' k c'))
      clear cc rr hO hx hx1 hB
      go_wp2_with fail
      generalize (((wr.setCell ⟨w.heap.size + 1, 0, none⟩ (.int .u16 xo)).setCell ⟨w.heap.size + 1, 1, none⟩ (.int .u32 (f xt))).setCell ⟨w.heap.size + 1, 2, none⟩ (.int .u32 (f xr))).setCell ⟨w.heap.size + 1, 3, none⟩ (.slice a' k c') = Z at *
      obtain ⟨dd, _⟩ := one_block HXF.out
      have d0 := dd 0
      have d1 := dd 1
      have d2 := dd 2
      have d3 := dd 3
      refine bodyPost_ret (v := .agg #[.int .u16 xo, .int .u32 (f xt), .int .u32 (f xr), .slice a' k c']) (by simp [results, Tryz.results82, go_sem, d0, d1, d2, d3]) rfl ⟨a', c', by first | rw [HT.out, HR.out] | rw [HT.out], HOF.out, HBF.out⟩

set_option maxHeartbeats 8000000 in
theorem turnedR_tf (f : Int → Int) (P : Int → Prop) (cb : Nat) (xo xt xr : Int) (xl : List ArgT) (ax : Option Addr) (nx cx : Nat) (w : World) (hv : ArgsV w ax xl) (hl : xl.length = nx) (hn : 24 * nx ≤ 140737488351232)
    (hC : ∀ wx id, Below w.heap.size w wx → P id → Calls Tryz.prog 34 #[.int .u32 id, .pointer (some ⟨cb, 0, none⟩)] wx fun e w' => e = .returned (.int .u32 (f id)) ∧ wx = w')
    (ht : xt ≠ 0) (hr : xr = 0) (pt : xt ≠ 0 → P xt) (pr : xr ≠ 0 → P xr) (pa : ∀ k, k < nx → (nthA xl k).1 = 1 → P (nthA xl k).2.1) :
    Calls Tryz.prog 82 #[.agg #[.int .u16 xo, .int .u32 xt, .int .u32 xr, .slice ax nx cx], .func (.func 34) #[] #[.pointer (some ⟨cb, 0, none⟩)]] w fun e w' => ∃ a c, e = .returned (.agg #[.int .u16 xo, .int .u32 (tN f xt), .int .u32 (tN f xr), .slice a nx c]) ∧ w'.ownsRow (w.heap.size + 2) 105 3 (.slice a nx c) nx ((xl.map (tA f)).flatMap argC) ∧ Below w.heap.size w w' := by
  have ht' : (xt != 0) = true := by simpa using ht
  have hpt := pt ht
  have HT : Hid (tN f xt = f xt) := by show _ = _; unfold tN; rw [if_neg ht]
  clear ht
  subst hr
  have HR : Hid (tN f 0 = 0) := by show _ = _; unfold tN; rw [if_pos rfl]
  have hb0 : Below w.heap.size w ((w.alloc (.cells #[.int .u16 xo, .int .u32 xt, .int .u32 0, .slice ax nx cx] 63)).alloc (.cells #[.int .u16 0, .int .u32 0, .int .u32 0, .slice none 0 0] 63)) := ((Below.refl _ w).alloc (Nat.le_refl _) _).alloc (by simp) _
  have hCl := cloneA_any ax nx cx xl _ (hv.below hb0) hl hn
  have k0 : ((w.alloc (.cells #[.int .u16 xo, .int .u32 xt, .int .u32 0, .slice ax nx cx] 63)).alloc (.cells #[.int .u16 0, .int .u32 0, .int .u32 0, .slice none 0 0] 63)).heap[w.heap.size]? = some (.cells #[.int .u16 xo, .int .u32 xt, .int .u32 0, .slice ax nx cx] 63 (0, 0)) := by rw [Below.heap_alloc _ _ _ (by simp)]; exact heap_alloc_new _ _
  have k1 : ((w.alloc (.cells #[.int .u16 xo, .int .u32 xt, .int .u32 0, .slice ax nx cx] 63)).alloc (.cells #[.int .u16 0, .int .u32 0, .int .u32 0, .slice none 0 0] 63)).heap[w.heap.size + 1]? = some (.cells #[.int .u16 0, .int .u32 0, .int .u32 0, .slice none 0 0] 63 (0, 0)) := by have := heap_alloc_new (w.alloc (.cells #[.int .u16 xo, .int .u32 xt, .int .u32 0, .slice ax nx cx] 63)) (.cells #[.int .u16 0, .int .u32 0, .int .u32 0, .slice none 0 0] 63); simpa using this
  have HZ : Hid (((w.alloc (.cells #[.int .u16 xo, .int .u32 xt, .int .u32 0, .slice ax nx cx] 63)).alloc (.cells #[.int .u16 0, .int .u32 0, .int .u32 0, .slice none 0 0] 63)).heap.size = w.heap.size + 2) := by show _ = _; simp
  have HK := hide (And.intro k0 k1)
  have HB0 := hide hb0
  have HC := hide hC
  have HPA := hide pa
  have HL := hide hl
  have HN : Hid (24 * nx ≤ 140737488351232) := hn
  clear hC pt pr pa hv hl hn hb0 k0 k1
  go_enter Tryz.func82, Tryz.ntmps82
  go_wp2_with fail
  generalize (w.alloc (.cells #[.int .u16 xo, .int .u32 xt, .int .u32 0, .slice ax nx cx] 63)).alloc (.cells #[.int .u16 0, .int .u32 0, .int .u32 0, .slice none 0 0] 63) = W0 at *
  refine hCl.mono ?_
  rintro e w1 ⟨v, rfl, hown, hb1⟩
  obtain ⟨a', c', rfl⟩ := own_shapeU hown
  rw [HZ.out] at hown
  have q0 := (hb1.block w.heap.size (by rw [HZ.out]; omega)).trans HK.out.1
  have q1 := (hb1.block (w.heap.size + 1) (by rw [HZ.out]; omega)).trans HK.out.2
  have HBW := hide (HB0.out.trans (hb1.mono HB0.out.size))
  have HO := hide hown
  have HQ := hide (And.intro q0 q1)
  have hs1 : w.heap.size + 2 ≤ w1.heap.size := by have := hb1.size; rw [HZ.out] at this; exact this
  obtain ⟨cc, ff⟩ := one_block q0
  have c0 := cc 0
  have c1 := cc 1
  have c2 := cc 2
  have c3 := cc 3
  clear cc hCl hb1 q0 q1 hown HK HB0
  have HX : Hid ((w1.setCell ⟨w.heap.size, 3, none⟩ (.slice a' nx c')).heap[w.heap.size]? = some (.cells #[.int .u16 xo, .int .u32 xt, .int .u32 0, .slice a' nx c'] 63 (0, 0))) := by have h := HQ.out.1; show _ = _; simp [World.setCell, Array.getElem?_modify, h]
  have HX1 : Hid ((w1.setCell ⟨w.heap.size, 3, none⟩ (.slice a' nx c')).heap[w.heap.size + 1]? = some (.cells #[.int .u16 0, .int .u32 0, .int .u32 0, .slice none 0 0] 63 (0, 0))) := (Below.heap_setCell _ _ _ _ (by simp)).trans HQ.out.2
  have HXB : Hid (Below w.heap.size w (w1.setCell ⟨w.heap.size, 3, none⟩ (.slice a' nx c'))) := HBW.out.setCell (p := ⟨w.heap.size, 3, none⟩) (Nat.le_refl _) _
  have HXO : Hid ((w1.setCell ⟨w.heap.size, 3, none⟩ (.slice a' nx c')).ownsRow (w.heap.size + 2) 105 3 (.slice a' nx c') nx (xl.flatMap argC)) := ownsRow_setCell_below HO.out (a := ⟨w.heap.size, 3, none⟩) (by simp) _
  have HXS : Hid (w.heap.size + 2 ≤ (w1.setCell ⟨w.heap.size, 3, none⟩ (.slice a' nx c')).heap.size) := by show _ ≤ _; rw [World.size_setCell]; exact hs1
  go_wp2_with fail
  clear c0 c1 c2 c3 ff HQ HO HBW hs1
  generalize (w1.setCell ⟨w.heap.size, 3, none⟩ (.slice a' nx c')) = X1 at *
  refine (HC.out X1 xt HXB.out hpt).mono ?_
  rintro e y1 ⟨rfl, rfl⟩
  obtain ⟨cc, ff⟩ := one_block HX.out
  have c0 := cc 0
  have c1 := cc 1
  have c2 := cc 2
  have c3 := cc 3
  clear cc
  have HX' : Hid ((X1.setCell ⟨w.heap.size, 1, none⟩ (.int .u32 (f xt))).heap[w.heap.size]? = some (.cells #[.int .u16 xo, .int .u32 (f xt), .int .u32 (0), .slice a' nx c'] 63 (0, 0))) := by have h := HX.out; show _ = _; simp [World.setCell, Array.getElem?_modify, h]
  have HX1' : Hid ((X1.setCell ⟨w.heap.size, 1, none⟩ (.int .u32 (f xt))).heap[w.heap.size + 1]? = some (.cells #[.int .u16 0, .int .u32 0, .int .u32 0, .slice none 0 0] 63 (0, 0))) := (Below.heap_setCell _ _ _ _ (by simp)).trans HX1.out
  have HXB' : Hid (Below w.heap.size w (X1.setCell ⟨w.heap.size, 1, none⟩ (.int .u32 (f xt)))) := HXB.out.setCell (p := ⟨w.heap.size, 1, none⟩) (Nat.le_refl _) _
  have HXO' : Hid ((X1.setCell ⟨w.heap.size, 1, none⟩ (.int .u32 (f xt))).ownsRow (w.heap.size + 2) 105 3 (.slice a' nx c') nx (xl.flatMap argC)) := ownsRow_setCell_below HXO.out (a := ⟨w.heap.size, 1, none⟩) (by simp) _
  have HXS' : Hid (w.heap.size + 2 ≤ (X1.setCell ⟨w.heap.size, 1, none⟩ (.int .u32 (f xt))).heap.size) := by show _ ≤ _; rw [World.size_setCell]; exact HXS.out
  go_wp2_with fail
  clear HX HX1 HXB HXO HXS c0 c1 c2 c3 ff
  generalize X1.setCell ⟨w.heap.size, 1, none⟩ (.int .u32 (f xt)) = X2 at *
  have HX := HX'
  have HX1 := HX1'
  have HXB := HXB'
  have HXO := HXO'
  have HXS := HXS'
  clear HX' HX1' HXB' HXO' HXS'
  have HO0 : Hid (X2.ownsRow (w.heap.size + 2) 105 3 (.slice a' nx c') nx ((turnTo f xl 0).flatMap argC)) := by rw [turnTo_zero]; exact HXO
  have HTA : Hid (turnTo f xl nx = xl.map (tA f)) := by show _ = _; rw [← HL.out]; exact turnTo_all f xl
  have HTS : Hid (∀ k, k < nx → (nthA xl k).1 = 1 → ((turnTo f xl k).flatMap argC).set (k * 3 + 1) (.int .u32 (f (nthA xl k).2.1)) = (turnTo f xl (k + 1)).flatMap argC) := fun k hk h => turn_set f xl k (by rw [HL.out]; exact hk) h
  have HTE : Hid (∀ k, k < nx → (nthA xl k).1 ≠ 1 → turnTo f xl (k + 1) = turnTo f xl k) := fun k hk h => turnTo_same f xl k (by rw [HL.out]; exact hk) h
  have HTC : Hid (∀ k j, k < nx → j < 3 → ((turnTo f xl k).flatMap argC)[k * 3 + j]? = (argC (nthA xl k))[j]?) := fun k j hk hj => by rw [flat_argU _ _ _ (by rw [turnTo_len, HL.out]; exact hk) hj, turnTo_at f xl k (by rw [HL.out]; exact hk)]
  have HTL : Hid (∀ k, ((turnTo f xl k).flatMap argC).length = nx * 3) := fun k => by rw [flat_lenU, turnTo_len, HL.out]
  go_loopw [30] (fun i wr => ∃ k : Nat, k ≤ nx ∧ i = .int .i64 k ∧ wr.ownsRow (w.heap.size + 2) 105 3 (.slice a' nx c') nx ((turnTo f xl k).flatMap argC) ∧ wr.heap[w.heap.size]? = some (.cells #[.int .u16 xo, .int .u32 (f xt), .int .u32 (0), .slice a' nx c'] 63 (0, 0)) ∧ wr.heap[w.heap.size + 1]? = some (.cells #[.int .u16 0, .int .u32 0, .int .u32 0, .slice none 0 0] 63 (0, 0)) ∧ w.heap.size + 2 ≤ wr.heap.size ∧ Below w.heap.size w wr) (fun i _ => nx - (intOf i).toNat)
  case atStart => exact ⟨0, Nat.zero_le _, rfl, HO0.out, HX.out, HX1.out, HXS.out, HXB.out⟩
  case round =>
    obtain ⟨k, hk, rfl, hO, hx, hx1, hxs, hB⟩ := hrel
    clear HO0 HX HX1 HXB HXO HXS
    obtain ⟨cc, ff⟩ := one_block hx
    have hkb : (k : Int) < 140737488351232 := by have := HN.out; omega
    by_cases hlt : k < nx
    · have hki : (k : Int) < (nx : Int) := by omega
      have hk0 : (0 : Int) ≤ (k : Int) := by omega
      have c3 : wr.cell? ⟨w.heap.size, 3, none⟩ = some (.slice a' nx c') := cc 3
      obtain ⟨g, rfl, hgl, hgs⟩ : ∃ g, a' = some ⟨g, 0, none⟩ ∧ w.heap.size + 2 ≤ g ∧ g < wr.heap.size := by
        rcases hO.2 with ⟨h1, h2⟩ | ⟨g, cap', cur, h1, h2, h3, _⟩
        · omega
        · cases h1; exact ⟨g, rfl, h2, (Array.getElem?_eq_some_iff.1 h3).1⟩
      have hln := HTL.out k
      have e0 : wr.cell? ⟨g, k * 3, none⟩ = some (.int .u8 (nthA xl k).1) := by have := hO.cellAt (k * 3) (by omega); rw [this]; exact HTC.out k 0 hlt (by omega)
      have e1 : wr.cell? ⟨g, k * 3 + 1, none⟩ = some (.int .u32 (nthA xl k).2.1) := by have := hO.cellAt (k * 3 + 1) (by omega); rw [this]; exact HTC.out k 1 hlt (by omega)
      have e2 : wr.cell? ⟨g, k * 3 + 2, none⟩ = some (.string (nthA xl k).2.2) := by have := hO.cellAt (k * 3 + 2) (by omega); rw [this]; exact HTC.out k 2 hlt (by omega)
      have hpk := HPA.out k hlt
      have hts := HTS.out k hlt
      have hte := HTE.out k hlt
      generalize nthA xl k = z at *
      obtain ⟨z1, z2, z3⟩ := z
      simp only at *
      have hba : Below wr.heap.size wr (wr.alloc (.cells #[.int .u8 z1, .int .u32 z2, .string z3] 105)) := (Below.refl _ wr).alloc (Nat.le_refl _) _
      have HOa := hide (own_below hO hba)
      have HXa := hide (And.intro ((hba.block _ (by omega)).trans hx) ((hba.block _ (by omega)).trans hx1))
      have HBa := hide (hB.trans (hba.mono hB.size))
      have HSa : Hid (w.heap.size + 2 ≤ (wr.alloc (.cells #[.int .u8 z1, .int .u32 z2, .string z3] 105)).heap.size ∧ (wr.alloc (.cells #[.int .u8 z1, .int .u32 z2, .string z3] 105)).heap.size = wr.heap.size + 1) := ⟨Nat.le_trans hxs hba.size, by simp⟩
      by_cases h1 : z1 = 1
      · subst h1
        have HE := hide (hts rfl)
        have hz1 : (wr.alloc (.cells #[.int .u8 1, .int .u32 z2, .string z3] 105)).cell? ⟨wr.heap.size, 1, none⟩ = some (.int .u32 z2) := (one_block (heap_alloc_new wr (.cells #[.int .u8 1, .int .u32 z2, .string z3] 105))).1 1
        have HZ1 := hide hz1
        have HPK := hide (hpk rfl)
        have g1 : (wr.alloc (.cells #[.int .u8 1, .int .u32 z2, .string z3] 105)).cell? ⟨g, k * 3 + 1, none⟩ = some (.int .u32 z2) := (hba.cell (p := ⟨g, k * 3 + 1, none⟩) hgs).trans e1
        have hg1 : (wr.alloc (.cells #[.int .u8 1, .int .u32 z2, .string z3] 105)).frozen? ⟨g, k * 3 + 1, none⟩ = false := HOa.out.frozenAt (k * 3 + 1)
        have b3 : (wr.alloc (.cells #[.int .u8 1, .int .u32 z2, .string z3] 105)).cell? ⟨w.heap.size, 3, none⟩ = some (.slice (some ⟨g, 0, none⟩) nx c') := (hba.cell (p := ⟨w.heap.size, 3, none⟩) (by simp; omega)).trans c3
        have HGG := hide (And.intro g1 (And.intro hg1 b3))
        clear hts hte hpk hO hx hx1 hB hba cc ff hz1 g1 hg1 b3
        go_wp2_with fail
        generalize wr.alloc (.cells #[.int .u8 1, .int .u32 z2, .string z3] 105) = Y at *
        obtain ⟨g1, hg1, b3⟩ := HGG.out
        have hz1 := HZ1.out
        clear c3 e0 e1 e2
        go_region_with ((go_at_call 34; refine (HC.out _ z2 ?_ HPK.out).mono ?_; (first | exact HBa.out | exact HBa.out.drew); rintro e y3 ⟨rfl, rfl⟩))
        all_goals
          have hO2 := (HOa.out.stored (k * 3 + 1) (.int .u32 (f z2))).1
          rw [HE.out] at hO2
          have hx2 := setFar1V HXa.out.1 (show w.heap.size ≠ g by omega) (k * 3 + 1) (.int .u32 (f z2))
          have hx3 := setFar1V HXa.out.2 (show w.heap.size + 1 ≠ g by omega) (k * 3 + 1) (.int .u32 (f z2))
          have hB2 := HBa.out.setCell (p := ⟨g, k * 3 + 1, none⟩) (by simp; omega) (.int .u32 (f z2))
          have HF := hide (And.intro hO2 (And.intro hx2 (And.intro hx3 hB2)))
          have HS2 : Hid (w.heap.size + 2 ≤ (Y.setCell ⟨g, k * 3 + 1, none⟩ (.int .u32 (f z2))).heap.size) := by show _ ≤ _; rw [World.size_setCell]; exact HSa.out.1
          clear hO2 hx2 hx3 hB2 g1 hg1 b3 hz1 HGG HZ1 HOa HXa HBa
          go_wp2_with fail
          go_roundw
          case rel => exact ⟨k + 1, by omega, by go_num, HF.out.1, HF.out.2.1, HF.out.2.2.1, HS2.out, by first | exact HF.out.2.2.2 | exact HF.out.2.2.2.drew⟩
          case measure => simp [intOf]; omega
      · have h1' : (z1 == 1) = false := by simpa using h1
        have HE := hide (hte h1)
        clear hts hte hpk hO hx hx1 hB hba cc ff h1
        go_wp2_with fail
        go_roundw
        case rel => exact ⟨k + 1, by omega, by go_num, by rw [HE.out]; exact HOa.out, HXa.out.1, HXa.out.2, HSa.out.1, HBa.out⟩
        case measure => simp [intOf]; omega
    · obtain rfl : k = nx := by omega
      have c0 := cc 0
      have c1 := cc 1
      have c2 := cc 2
      have c3 := cc 3
      obtain ⟨rr, fr⟩ := one_block hx1
      have r0 := rr 0
      have r1 := rr 1
      have r2 := rr 2
      have r3 := rr 3
      rw [HTA.out] at hO
      have HOF := hide (ownsRow_setCell_below (ownsRow_setCell_below (ownsRow_setCell_below (ownsRow_setCell_below hO (a := ⟨w.heap.size + 1, 0, none⟩) (by simp) (.int .u16 xo)) (a := ⟨w.heap.size + 1, 1, none⟩) (by simp) (.int .u32 (f xt))) (a := ⟨w.heap.size + 1, 2, none⟩) (by simp) (.int .u32 (0))) (a := ⟨w.heap.size + 1, 3, none⟩) (by simp) (.slice a' k c'))
      have HXF := hide (four_putVR hx1 (.int .u16 xo) (.int .u32 (f xt)) (.int .u32 (0)) (.slice a' k c'))
      have HBF := hide ((((hB.setCell (p := ⟨w.heap.size + 1, 0, none⟩) (by simp) (.int .u16 xo)).setCell (p := ⟨w.heap.size + 1, 1, none⟩) (by simp) (.int .u32 (f xt))).setCell (p := ⟨w.heap.size + 1, 2, none⟩) (by simp) (.int .u32 (0))).setCell (p := ⟨w.heap.size + 1, 3, none⟩) (by simp) (.slice a' k c'))
      clear cc rr hO hx hx1 hB
      go_wp2_with fail
      generalize (((wr.setCell ⟨w.heap.size + 1, 0, none⟩ (.int .u16 xo)).setCell ⟨w.heap.size + 1, 1, none⟩ (.int .u32 (f xt))).setCell ⟨w.heap.size + 1, 2, none⟩ (.int .u32 (0))).setCell ⟨w.heap.size + 1, 3, none⟩ (.slice a' k c') = Z at *
      obtain ⟨dd, _⟩ := one_block HXF.out
      have d0 := dd 0
      have d1 := dd 1
      have d2 := dd 2
      have d3 := dd 3
      refine bodyPost_ret (v := .agg #[.int .u16 xo, .int .u32 (f xt), .int .u32 (0), .slice a' k c']) (by simp [results, Tryz.results82, go_sem, d0, d1, d2, d3]) rfl ⟨a', c', by first | rw [HT.out, HR.out] | rw [HT.out], HOF.out, HBF.out⟩

set_option maxHeartbeats 8000000 in
theorem turnedR_ft (f : Int → Int) (P : Int → Prop) (cb : Nat) (xo xt xr : Int) (xl : List ArgT) (ax : Option Addr) (nx cx : Nat) (w : World) (hv : ArgsV w ax xl) (hl : xl.length = nx) (hn : 24 * nx ≤ 140737488351232)
    (hC : ∀ wx id, Below w.heap.size w wx → P id → Calls Tryz.prog 34 #[.int .u32 id, .pointer (some ⟨cb, 0, none⟩)] wx fun e w' => e = .returned (.int .u32 (f id)) ∧ wx = w')
    (ht : xt = 0) (hr : xr ≠ 0) (pt : xt ≠ 0 → P xt) (pr : xr ≠ 0 → P xr) (pa : ∀ k, k < nx → (nthA xl k).1 = 1 → P (nthA xl k).2.1) :
    Calls Tryz.prog 82 #[.agg #[.int .u16 xo, .int .u32 xt, .int .u32 xr, .slice ax nx cx], .func (.func 34) #[] #[.pointer (some ⟨cb, 0, none⟩)]] w fun e w' => ∃ a c, e = .returned (.agg #[.int .u16 xo, .int .u32 (tN f xt), .int .u32 (tN f xr), .slice a nx c]) ∧ w'.ownsRow (w.heap.size + 2) 105 3 (.slice a nx c) nx ((xl.map (tA f)).flatMap argC) ∧ Below w.heap.size w w' := by
  subst ht
  have HT : Hid (tN f 0 = 0) := by show _ = _; unfold tN; rw [if_pos rfl]
  have hr' : (xr != 0) = true := by simpa using hr
  have hpr := pr hr
  have HR : Hid (tN f xr = f xr) := by show _ = _; unfold tN; rw [if_neg hr]
  clear hr
  have hb0 : Below w.heap.size w ((w.alloc (.cells #[.int .u16 xo, .int .u32 0, .int .u32 xr, .slice ax nx cx] 63)).alloc (.cells #[.int .u16 0, .int .u32 0, .int .u32 0, .slice none 0 0] 63)) := ((Below.refl _ w).alloc (Nat.le_refl _) _).alloc (by simp) _
  have hCl := cloneA_any ax nx cx xl _ (hv.below hb0) hl hn
  have k0 : ((w.alloc (.cells #[.int .u16 xo, .int .u32 0, .int .u32 xr, .slice ax nx cx] 63)).alloc (.cells #[.int .u16 0, .int .u32 0, .int .u32 0, .slice none 0 0] 63)).heap[w.heap.size]? = some (.cells #[.int .u16 xo, .int .u32 0, .int .u32 xr, .slice ax nx cx] 63 (0, 0)) := by rw [Below.heap_alloc _ _ _ (by simp)]; exact heap_alloc_new _ _
  have k1 : ((w.alloc (.cells #[.int .u16 xo, .int .u32 0, .int .u32 xr, .slice ax nx cx] 63)).alloc (.cells #[.int .u16 0, .int .u32 0, .int .u32 0, .slice none 0 0] 63)).heap[w.heap.size + 1]? = some (.cells #[.int .u16 0, .int .u32 0, .int .u32 0, .slice none 0 0] 63 (0, 0)) := by have := heap_alloc_new (w.alloc (.cells #[.int .u16 xo, .int .u32 0, .int .u32 xr, .slice ax nx cx] 63)) (.cells #[.int .u16 0, .int .u32 0, .int .u32 0, .slice none 0 0] 63); simpa using this
  have HZ : Hid (((w.alloc (.cells #[.int .u16 xo, .int .u32 0, .int .u32 xr, .slice ax nx cx] 63)).alloc (.cells #[.int .u16 0, .int .u32 0, .int .u32 0, .slice none 0 0] 63)).heap.size = w.heap.size + 2) := by show _ = _; simp
  have HK := hide (And.intro k0 k1)
  have HB0 := hide hb0
  have HC := hide hC
  have HPA := hide pa
  have HL := hide hl
  have HN : Hid (24 * nx ≤ 140737488351232) := hn
  clear hC pt pr pa hv hl hn hb0 k0 k1
  go_enter Tryz.func82, Tryz.ntmps82
  go_wp2_with fail
  generalize (w.alloc (.cells #[.int .u16 xo, .int .u32 0, .int .u32 xr, .slice ax nx cx] 63)).alloc (.cells #[.int .u16 0, .int .u32 0, .int .u32 0, .slice none 0 0] 63) = W0 at *
  refine hCl.mono ?_
  rintro e w1 ⟨v, rfl, hown, hb1⟩
  obtain ⟨a', c', rfl⟩ := own_shapeU hown
  rw [HZ.out] at hown
  have q0 := (hb1.block w.heap.size (by rw [HZ.out]; omega)).trans HK.out.1
  have q1 := (hb1.block (w.heap.size + 1) (by rw [HZ.out]; omega)).trans HK.out.2
  have HBW := hide (HB0.out.trans (hb1.mono HB0.out.size))
  have HO := hide hown
  have HQ := hide (And.intro q0 q1)
  have hs1 : w.heap.size + 2 ≤ w1.heap.size := by have := hb1.size; rw [HZ.out] at this; exact this
  obtain ⟨cc, ff⟩ := one_block q0
  have c0 := cc 0
  have c1 := cc 1
  have c2 := cc 2
  have c3 := cc 3
  clear cc hCl hb1 q0 q1 hown HK HB0
  have HX : Hid ((w1.setCell ⟨w.heap.size, 3, none⟩ (.slice a' nx c')).heap[w.heap.size]? = some (.cells #[.int .u16 xo, .int .u32 0, .int .u32 xr, .slice a' nx c'] 63 (0, 0))) := by have h := HQ.out.1; show _ = _; simp [World.setCell, Array.getElem?_modify, h]
  have HX1 : Hid ((w1.setCell ⟨w.heap.size, 3, none⟩ (.slice a' nx c')).heap[w.heap.size + 1]? = some (.cells #[.int .u16 0, .int .u32 0, .int .u32 0, .slice none 0 0] 63 (0, 0))) := (Below.heap_setCell _ _ _ _ (by simp)).trans HQ.out.2
  have HXB : Hid (Below w.heap.size w (w1.setCell ⟨w.heap.size, 3, none⟩ (.slice a' nx c'))) := HBW.out.setCell (p := ⟨w.heap.size, 3, none⟩) (Nat.le_refl _) _
  have HXO : Hid ((w1.setCell ⟨w.heap.size, 3, none⟩ (.slice a' nx c')).ownsRow (w.heap.size + 2) 105 3 (.slice a' nx c') nx (xl.flatMap argC)) := ownsRow_setCell_below HO.out (a := ⟨w.heap.size, 3, none⟩) (by simp) _
  have HXS : Hid (w.heap.size + 2 ≤ (w1.setCell ⟨w.heap.size, 3, none⟩ (.slice a' nx c')).heap.size) := by show _ ≤ _; rw [World.size_setCell]; exact hs1
  go_wp2_with fail
  clear c0 c1 c2 c3 ff HQ HO HBW hs1
  generalize (w1.setCell ⟨w.heap.size, 3, none⟩ (.slice a' nx c')) = X1 at *
  refine (HC.out X1 xr HXB.out hpr).mono ?_
  rintro e y2 ⟨rfl, rfl⟩
  obtain ⟨cc, ff⟩ := one_block HX.out
  have c0 := cc 0
  have c1 := cc 1
  have c2 := cc 2
  have c3 := cc 3
  clear cc
  have HX' : Hid ((X1.setCell ⟨w.heap.size, 2, none⟩ (.int .u32 (f xr))).heap[w.heap.size]? = some (.cells #[.int .u16 xo, .int .u32 (0), .int .u32 (f xr), .slice a' nx c'] 63 (0, 0))) := by have h := HX.out; show _ = _; simp [World.setCell, Array.getElem?_modify, h]
  have HX1' : Hid ((X1.setCell ⟨w.heap.size, 2, none⟩ (.int .u32 (f xr))).heap[w.heap.size + 1]? = some (.cells #[.int .u16 0, .int .u32 0, .int .u32 0, .slice none 0 0] 63 (0, 0))) := (Below.heap_setCell _ _ _ _ (by simp)).trans HX1.out
  have HXB' : Hid (Below w.heap.size w (X1.setCell ⟨w.heap.size, 2, none⟩ (.int .u32 (f xr)))) := HXB.out.setCell (p := ⟨w.heap.size, 2, none⟩) (Nat.le_refl _) _
  have HXO' : Hid ((X1.setCell ⟨w.heap.size, 2, none⟩ (.int .u32 (f xr))).ownsRow (w.heap.size + 2) 105 3 (.slice a' nx c') nx (xl.flatMap argC)) := ownsRow_setCell_below HXO.out (a := ⟨w.heap.size, 2, none⟩) (by simp) _
  have HXS' : Hid (w.heap.size + 2 ≤ (X1.setCell ⟨w.heap.size, 2, none⟩ (.int .u32 (f xr))).heap.size) := by show _ ≤ _; rw [World.size_setCell]; exact HXS.out
  go_wp2_with fail
  clear HX HX1 HXB HXO HXS c0 c1 c2 c3 ff
  generalize X1.setCell ⟨w.heap.size, 2, none⟩ (.int .u32 (f xr)) = X2 at *
  have HX := HX'
  have HX1 := HX1'
  have HXB := HXB'
  have HXO := HXO'
  have HXS := HXS'
  clear HX' HX1' HXB' HXO' HXS'
  have HO0 : Hid (X2.ownsRow (w.heap.size + 2) 105 3 (.slice a' nx c') nx ((turnTo f xl 0).flatMap argC)) := by rw [turnTo_zero]; exact HXO
  have HTA : Hid (turnTo f xl nx = xl.map (tA f)) := by show _ = _; rw [← HL.out]; exact turnTo_all f xl
  have HTS : Hid (∀ k, k < nx → (nthA xl k).1 = 1 → ((turnTo f xl k).flatMap argC).set (k * 3 + 1) (.int .u32 (f (nthA xl k).2.1)) = (turnTo f xl (k + 1)).flatMap argC) := fun k hk h => turn_set f xl k (by rw [HL.out]; exact hk) h
  have HTE : Hid (∀ k, k < nx → (nthA xl k).1 ≠ 1 → turnTo f xl (k + 1) = turnTo f xl k) := fun k hk h => turnTo_same f xl k (by rw [HL.out]; exact hk) h
  have HTC : Hid (∀ k j, k < nx → j < 3 → ((turnTo f xl k).flatMap argC)[k * 3 + j]? = (argC (nthA xl k))[j]?) := fun k j hk hj => by rw [flat_argU _ _ _ (by rw [turnTo_len, HL.out]; exact hk) hj, turnTo_at f xl k (by rw [HL.out]; exact hk)]
  have HTL : Hid (∀ k, ((turnTo f xl k).flatMap argC).length = nx * 3) := fun k => by rw [flat_lenU, turnTo_len, HL.out]
  go_loopw [30] (fun i wr => ∃ k : Nat, k ≤ nx ∧ i = .int .i64 k ∧ wr.ownsRow (w.heap.size + 2) 105 3 (.slice a' nx c') nx ((turnTo f xl k).flatMap argC) ∧ wr.heap[w.heap.size]? = some (.cells #[.int .u16 xo, .int .u32 (0), .int .u32 (f xr), .slice a' nx c'] 63 (0, 0)) ∧ wr.heap[w.heap.size + 1]? = some (.cells #[.int .u16 0, .int .u32 0, .int .u32 0, .slice none 0 0] 63 (0, 0)) ∧ w.heap.size + 2 ≤ wr.heap.size ∧ Below w.heap.size w wr) (fun i _ => nx - (intOf i).toNat)
  case atStart => exact ⟨0, Nat.zero_le _, rfl, HO0.out, HX.out, HX1.out, HXS.out, HXB.out⟩
  case round =>
    obtain ⟨k, hk, rfl, hO, hx, hx1, hxs, hB⟩ := hrel
    clear HO0 HX HX1 HXB HXO HXS
    obtain ⟨cc, ff⟩ := one_block hx
    have hkb : (k : Int) < 140737488351232 := by have := HN.out; omega
    by_cases hlt : k < nx
    · have hki : (k : Int) < (nx : Int) := by omega
      have hk0 : (0 : Int) ≤ (k : Int) := by omega
      have c3 : wr.cell? ⟨w.heap.size, 3, none⟩ = some (.slice a' nx c') := cc 3
      obtain ⟨g, rfl, hgl, hgs⟩ : ∃ g, a' = some ⟨g, 0, none⟩ ∧ w.heap.size + 2 ≤ g ∧ g < wr.heap.size := by
        rcases hO.2 with ⟨h1, h2⟩ | ⟨g, cap', cur, h1, h2, h3, _⟩
        · omega
        · cases h1; exact ⟨g, rfl, h2, (Array.getElem?_eq_some_iff.1 h3).1⟩
      have hln := HTL.out k
      have e0 : wr.cell? ⟨g, k * 3, none⟩ = some (.int .u8 (nthA xl k).1) := by have := hO.cellAt (k * 3) (by omega); rw [this]; exact HTC.out k 0 hlt (by omega)
      have e1 : wr.cell? ⟨g, k * 3 + 1, none⟩ = some (.int .u32 (nthA xl k).2.1) := by have := hO.cellAt (k * 3 + 1) (by omega); rw [this]; exact HTC.out k 1 hlt (by omega)
      have e2 : wr.cell? ⟨g, k * 3 + 2, none⟩ = some (.string (nthA xl k).2.2) := by have := hO.cellAt (k * 3 + 2) (by omega); rw [this]; exact HTC.out k 2 hlt (by omega)
      have hpk := HPA.out k hlt
      have hts := HTS.out k hlt
      have hte := HTE.out k hlt
      generalize nthA xl k = z at *
      obtain ⟨z1, z2, z3⟩ := z
      simp only at *
      have hba : Below wr.heap.size wr (wr.alloc (.cells #[.int .u8 z1, .int .u32 z2, .string z3] 105)) := (Below.refl _ wr).alloc (Nat.le_refl _) _
      have HOa := hide (own_below hO hba)
      have HXa := hide (And.intro ((hba.block _ (by omega)).trans hx) ((hba.block _ (by omega)).trans hx1))
      have HBa := hide (hB.trans (hba.mono hB.size))
      have HSa : Hid (w.heap.size + 2 ≤ (wr.alloc (.cells #[.int .u8 z1, .int .u32 z2, .string z3] 105)).heap.size ∧ (wr.alloc (.cells #[.int .u8 z1, .int .u32 z2, .string z3] 105)).heap.size = wr.heap.size + 1) := ⟨Nat.le_trans hxs hba.size, by simp⟩
      by_cases h1 : z1 = 1
      · subst h1
        have HE := hide (hts rfl)
        have hz1 : (wr.alloc (.cells #[.int .u8 1, .int .u32 z2, .string z3] 105)).cell? ⟨wr.heap.size, 1, none⟩ = some (.int .u32 z2) := (one_block (heap_alloc_new wr (.cells #[.int .u8 1, .int .u32 z2, .string z3] 105))).1 1
        have HZ1 := hide hz1
        have HPK := hide (hpk rfl)
        have g1 : (wr.alloc (.cells #[.int .u8 1, .int .u32 z2, .string z3] 105)).cell? ⟨g, k * 3 + 1, none⟩ = some (.int .u32 z2) := (hba.cell (p := ⟨g, k * 3 + 1, none⟩) hgs).trans e1
        have hg1 : (wr.alloc (.cells #[.int .u8 1, .int .u32 z2, .string z3] 105)).frozen? ⟨g, k * 3 + 1, none⟩ = false := HOa.out.frozenAt (k * 3 + 1)
        have b3 : (wr.alloc (.cells #[.int .u8 1, .int .u32 z2, .string z3] 105)).cell? ⟨w.heap.size, 3, none⟩ = some (.slice (some ⟨g, 0, none⟩) nx c') := (hba.cell (p := ⟨w.heap.size, 3, none⟩) (by simp; omega)).trans c3
        have HGG := hide (And.intro g1 (And.intro hg1 b3))
        clear hts hte hpk hO hx hx1 hB hba cc ff hz1 g1 hg1 b3
        go_wp2_with fail
        generalize wr.alloc (.cells #[.int .u8 1, .int .u32 z2, .string z3] 105) = Y at *
        obtain ⟨g1, hg1, b3⟩ := HGG.out
        have hz1 := HZ1.out
        clear c3 e0 e1 e2
        go_region_with ((go_at_call 34; refine (HC.out _ z2 ?_ HPK.out).mono ?_; (first | exact HBa.out | exact HBa.out.drew); rintro e y3 ⟨rfl, rfl⟩))
        all_goals
          have hO2 := (HOa.out.stored (k * 3 + 1) (.int .u32 (f z2))).1
          rw [HE.out] at hO2
          have hx2 := setFar1V HXa.out.1 (show w.heap.size ≠ g by omega) (k * 3 + 1) (.int .u32 (f z2))
          have hx3 := setFar1V HXa.out.2 (show w.heap.size + 1 ≠ g by omega) (k * 3 + 1) (.int .u32 (f z2))
          have hB2 := HBa.out.setCell (p := ⟨g, k * 3 + 1, none⟩) (by simp; omega) (.int .u32 (f z2))
          have HF := hide (And.intro hO2 (And.intro hx2 (And.intro hx3 hB2)))
          have HS2 : Hid (w.heap.size + 2 ≤ (Y.setCell ⟨g, k * 3 + 1, none⟩ (.int .u32 (f z2))).heap.size) := by show _ ≤ _; rw [World.size_setCell]; exact HSa.out.1
          clear hO2 hx2 hx3 hB2 g1 hg1 b3 hz1 HGG HZ1 HOa HXa HBa
          go_wp2_with fail
          go_roundw
          case rel => exact ⟨k + 1, by omega, by go_num, HF.out.1, HF.out.2.1, HF.out.2.2.1, HS2.out, by first | exact HF.out.2.2.2 | exact HF.out.2.2.2.drew⟩
          case measure => simp [intOf]; omega
      · have h1' : (z1 == 1) = false := by simpa using h1
        have HE := hide (hte h1)
        clear hts hte hpk hO hx hx1 hB hba cc ff h1
        go_wp2_with fail
        go_roundw
        case rel => exact ⟨k + 1, by omega, by go_num, by rw [HE.out]; exact HOa.out, HXa.out.1, HXa.out.2, HSa.out.1, HBa.out⟩
        case measure => simp [intOf]; omega
    · obtain rfl : k = nx := by omega
      have c0 := cc 0
      have c1 := cc 1
      have c2 := cc 2
      have c3 := cc 3
      obtain ⟨rr, fr⟩ := one_block hx1
      have r0 := rr 0
      have r1 := rr 1
      have r2 := rr 2
      have r3 := rr 3
      rw [HTA.out] at hO
      have HOF := hide (ownsRow_setCell_below (ownsRow_setCell_below (ownsRow_setCell_below (ownsRow_setCell_below hO (a := ⟨w.heap.size + 1, 0, none⟩) (by simp) (.int .u16 xo)) (a := ⟨w.heap.size + 1, 1, none⟩) (by simp) (.int .u32 (0))) (a := ⟨w.heap.size + 1, 2, none⟩) (by simp) (.int .u32 (f xr))) (a := ⟨w.heap.size + 1, 3, none⟩) (by simp) (.slice a' k c'))
      have HXF := hide (four_putVR hx1 (.int .u16 xo) (.int .u32 (0)) (.int .u32 (f xr)) (.slice a' k c'))
      have HBF := hide ((((hB.setCell (p := ⟨w.heap.size + 1, 0, none⟩) (by simp) (.int .u16 xo)).setCell (p := ⟨w.heap.size + 1, 1, none⟩) (by simp) (.int .u32 (0))).setCell (p := ⟨w.heap.size + 1, 2, none⟩) (by simp) (.int .u32 (f xr))).setCell (p := ⟨w.heap.size + 1, 3, none⟩) (by simp) (.slice a' k c'))
      clear cc rr hO hx hx1 hB
      go_wp2_with fail
      generalize (((wr.setCell ⟨w.heap.size + 1, 0, none⟩ (.int .u16 xo)).setCell ⟨w.heap.size + 1, 1, none⟩ (.int .u32 (0))).setCell ⟨w.heap.size + 1, 2, none⟩ (.int .u32 (f xr))).setCell ⟨w.heap.size + 1, 3, none⟩ (.slice a' k c') = Z at *
      obtain ⟨dd, _⟩ := one_block HXF.out
      have d0 := dd 0
      have d1 := dd 1
      have d2 := dd 2
      have d3 := dd 3
      refine bodyPost_ret (v := .agg #[.int .u16 xo, .int .u32 (0), .int .u32 (f xr), .slice a' k c']) (by simp [results, Tryz.results82, go_sem, d0, d1, d2, d3]) rfl ⟨a', c', by first | rw [HT.out, HR.out] | rw [HT.out], HOF.out, HBF.out⟩

set_option maxHeartbeats 8000000 in
theorem turnedR_ff (f : Int → Int) (P : Int → Prop) (cb : Nat) (xo xt xr : Int) (xl : List ArgT) (ax : Option Addr) (nx cx : Nat) (w : World) (hv : ArgsV w ax xl) (hl : xl.length = nx) (hn : 24 * nx ≤ 140737488351232)
    (hC : ∀ wx id, Below w.heap.size w wx → P id → Calls Tryz.prog 34 #[.int .u32 id, .pointer (some ⟨cb, 0, none⟩)] wx fun e w' => e = .returned (.int .u32 (f id)) ∧ wx = w')
    (ht : xt = 0) (hr : xr = 0) (pt : xt ≠ 0 → P xt) (pr : xr ≠ 0 → P xr) (pa : ∀ k, k < nx → (nthA xl k).1 = 1 → P (nthA xl k).2.1) :
    Calls Tryz.prog 82 #[.agg #[.int .u16 xo, .int .u32 xt, .int .u32 xr, .slice ax nx cx], .func (.func 34) #[] #[.pointer (some ⟨cb, 0, none⟩)]] w fun e w' => ∃ a c, e = .returned (.agg #[.int .u16 xo, .int .u32 (tN f xt), .int .u32 (tN f xr), .slice a nx c]) ∧ w'.ownsRow (w.heap.size + 2) 105 3 (.slice a nx c) nx ((xl.map (tA f)).flatMap argC) ∧ Below w.heap.size w w' := by
  subst ht
  have HT : Hid (tN f 0 = 0) := by show _ = _; unfold tN; rw [if_pos rfl]
  subst hr
  have HR : Hid (tN f 0 = 0) := by show _ = _; unfold tN; rw [if_pos rfl]
  have hb0 : Below w.heap.size w ((w.alloc (.cells #[.int .u16 xo, .int .u32 0, .int .u32 0, .slice ax nx cx] 63)).alloc (.cells #[.int .u16 0, .int .u32 0, .int .u32 0, .slice none 0 0] 63)) := ((Below.refl _ w).alloc (Nat.le_refl _) _).alloc (by simp) _
  have hCl := cloneA_any ax nx cx xl _ (hv.below hb0) hl hn
  have k0 : ((w.alloc (.cells #[.int .u16 xo, .int .u32 0, .int .u32 0, .slice ax nx cx] 63)).alloc (.cells #[.int .u16 0, .int .u32 0, .int .u32 0, .slice none 0 0] 63)).heap[w.heap.size]? = some (.cells #[.int .u16 xo, .int .u32 0, .int .u32 0, .slice ax nx cx] 63 (0, 0)) := by rw [Below.heap_alloc _ _ _ (by simp)]; exact heap_alloc_new _ _
  have k1 : ((w.alloc (.cells #[.int .u16 xo, .int .u32 0, .int .u32 0, .slice ax nx cx] 63)).alloc (.cells #[.int .u16 0, .int .u32 0, .int .u32 0, .slice none 0 0] 63)).heap[w.heap.size + 1]? = some (.cells #[.int .u16 0, .int .u32 0, .int .u32 0, .slice none 0 0] 63 (0, 0)) := by have := heap_alloc_new (w.alloc (.cells #[.int .u16 xo, .int .u32 0, .int .u32 0, .slice ax nx cx] 63)) (.cells #[.int .u16 0, .int .u32 0, .int .u32 0, .slice none 0 0] 63); simpa using this
  have HZ : Hid (((w.alloc (.cells #[.int .u16 xo, .int .u32 0, .int .u32 0, .slice ax nx cx] 63)).alloc (.cells #[.int .u16 0, .int .u32 0, .int .u32 0, .slice none 0 0] 63)).heap.size = w.heap.size + 2) := by show _ = _; simp
  have HK := hide (And.intro k0 k1)
  have HB0 := hide hb0
  have HC := hide hC
  have HPA := hide pa
  have HL := hide hl
  have HN : Hid (24 * nx ≤ 140737488351232) := hn
  clear hC pt pr pa hv hl hn hb0 k0 k1
  go_enter Tryz.func82, Tryz.ntmps82
  go_wp2_with fail
  generalize (w.alloc (.cells #[.int .u16 xo, .int .u32 0, .int .u32 0, .slice ax nx cx] 63)).alloc (.cells #[.int .u16 0, .int .u32 0, .int .u32 0, .slice none 0 0] 63) = W0 at *
  refine hCl.mono ?_
  rintro e w1 ⟨v, rfl, hown, hb1⟩
  obtain ⟨a', c', rfl⟩ := own_shapeU hown
  rw [HZ.out] at hown
  have q0 := (hb1.block w.heap.size (by rw [HZ.out]; omega)).trans HK.out.1
  have q1 := (hb1.block (w.heap.size + 1) (by rw [HZ.out]; omega)).trans HK.out.2
  have HBW := hide (HB0.out.trans (hb1.mono HB0.out.size))
  have HO := hide hown
  have HQ := hide (And.intro q0 q1)
  have hs1 : w.heap.size + 2 ≤ w1.heap.size := by have := hb1.size; rw [HZ.out] at this; exact this
  obtain ⟨cc, ff⟩ := one_block q0
  have c0 := cc 0
  have c1 := cc 1
  have c2 := cc 2
  have c3 := cc 3
  clear cc hCl hb1 q0 q1 hown HK HB0
  have HX : Hid ((w1.setCell ⟨w.heap.size, 3, none⟩ (.slice a' nx c')).heap[w.heap.size]? = some (.cells #[.int .u16 xo, .int .u32 0, .int .u32 0, .slice a' nx c'] 63 (0, 0))) := by have h := HQ.out.1; show _ = _; simp [World.setCell, Array.getElem?_modify, h]
  have HX1 : Hid ((w1.setCell ⟨w.heap.size, 3, none⟩ (.slice a' nx c')).heap[w.heap.size + 1]? = some (.cells #[.int .u16 0, .int .u32 0, .int .u32 0, .slice none 0 0] 63 (0, 0))) := (Below.heap_setCell _ _ _ _ (by simp)).trans HQ.out.2
  have HXB : Hid (Below w.heap.size w (w1.setCell ⟨w.heap.size, 3, none⟩ (.slice a' nx c'))) := HBW.out.setCell (p := ⟨w.heap.size, 3, none⟩) (Nat.le_refl _) _
  have HXO : Hid ((w1.setCell ⟨w.heap.size, 3, none⟩ (.slice a' nx c')).ownsRow (w.heap.size + 2) 105 3 (.slice a' nx c') nx (xl.flatMap argC)) := ownsRow_setCell_below HO.out (a := ⟨w.heap.size, 3, none⟩) (by simp) _
  have HXS : Hid (w.heap.size + 2 ≤ (w1.setCell ⟨w.heap.size, 3, none⟩ (.slice a' nx c')).heap.size) := by show _ ≤ _; rw [World.size_setCell]; exact hs1
  go_wp2_with fail
  clear c0 c1 c2 c3 ff HQ HO HBW hs1
  generalize (w1.setCell ⟨w.heap.size, 3, none⟩ (.slice a' nx c')) = X1 at *
  have HO0 : Hid (X1.ownsRow (w.heap.size + 2) 105 3 (.slice a' nx c') nx ((turnTo f xl 0).flatMap argC)) := by rw [turnTo_zero]; exact HXO
  have HTA : Hid (turnTo f xl nx = xl.map (tA f)) := by show _ = _; rw [← HL.out]; exact turnTo_all f xl
  have HTS : Hid (∀ k, k < nx → (nthA xl k).1 = 1 → ((turnTo f xl k).flatMap argC).set (k * 3 + 1) (.int .u32 (f (nthA xl k).2.1)) = (turnTo f xl (k + 1)).flatMap argC) := fun k hk h => turn_set f xl k (by rw [HL.out]; exact hk) h
  have HTE : Hid (∀ k, k < nx → (nthA xl k).1 ≠ 1 → turnTo f xl (k + 1) = turnTo f xl k) := fun k hk h => turnTo_same f xl k (by rw [HL.out]; exact hk) h
  have HTC : Hid (∀ k j, k < nx → j < 3 → ((turnTo f xl k).flatMap argC)[k * 3 + j]? = (argC (nthA xl k))[j]?) := fun k j hk hj => by rw [flat_argU _ _ _ (by rw [turnTo_len, HL.out]; exact hk) hj, turnTo_at f xl k (by rw [HL.out]; exact hk)]
  have HTL : Hid (∀ k, ((turnTo f xl k).flatMap argC).length = nx * 3) := fun k => by rw [flat_lenU, turnTo_len, HL.out]
  go_loopw [30] (fun i wr => ∃ k : Nat, k ≤ nx ∧ i = .int .i64 k ∧ wr.ownsRow (w.heap.size + 2) 105 3 (.slice a' nx c') nx ((turnTo f xl k).flatMap argC) ∧ wr.heap[w.heap.size]? = some (.cells #[.int .u16 xo, .int .u32 (0), .int .u32 (0), .slice a' nx c'] 63 (0, 0)) ∧ wr.heap[w.heap.size + 1]? = some (.cells #[.int .u16 0, .int .u32 0, .int .u32 0, .slice none 0 0] 63 (0, 0)) ∧ w.heap.size + 2 ≤ wr.heap.size ∧ Below w.heap.size w wr) (fun i _ => nx - (intOf i).toNat)
  case atStart => exact ⟨0, Nat.zero_le _, rfl, HO0.out, HX.out, HX1.out, HXS.out, HXB.out⟩
  case round =>
    obtain ⟨k, hk, rfl, hO, hx, hx1, hxs, hB⟩ := hrel
    clear HO0 HX HX1 HXB HXO HXS
    obtain ⟨cc, ff⟩ := one_block hx
    have hkb : (k : Int) < 140737488351232 := by have := HN.out; omega
    by_cases hlt : k < nx
    · have hki : (k : Int) < (nx : Int) := by omega
      have hk0 : (0 : Int) ≤ (k : Int) := by omega
      have c3 : wr.cell? ⟨w.heap.size, 3, none⟩ = some (.slice a' nx c') := cc 3
      obtain ⟨g, rfl, hgl, hgs⟩ : ∃ g, a' = some ⟨g, 0, none⟩ ∧ w.heap.size + 2 ≤ g ∧ g < wr.heap.size := by
        rcases hO.2 with ⟨h1, h2⟩ | ⟨g, cap', cur, h1, h2, h3, _⟩
        · omega
        · cases h1; exact ⟨g, rfl, h2, (Array.getElem?_eq_some_iff.1 h3).1⟩
      have hln := HTL.out k
      have e0 : wr.cell? ⟨g, k * 3, none⟩ = some (.int .u8 (nthA xl k).1) := by have := hO.cellAt (k * 3) (by omega); rw [this]; exact HTC.out k 0 hlt (by omega)
      have e1 : wr.cell? ⟨g, k * 3 + 1, none⟩ = some (.int .u32 (nthA xl k).2.1) := by have := hO.cellAt (k * 3 + 1) (by omega); rw [this]; exact HTC.out k 1 hlt (by omega)
      have e2 : wr.cell? ⟨g, k * 3 + 2, none⟩ = some (.string (nthA xl k).2.2) := by have := hO.cellAt (k * 3 + 2) (by omega); rw [this]; exact HTC.out k 2 hlt (by omega)
      have hpk := HPA.out k hlt
      have hts := HTS.out k hlt
      have hte := HTE.out k hlt
      generalize nthA xl k = z at *
      obtain ⟨z1, z2, z3⟩ := z
      simp only at *
      have hba : Below wr.heap.size wr (wr.alloc (.cells #[.int .u8 z1, .int .u32 z2, .string z3] 105)) := (Below.refl _ wr).alloc (Nat.le_refl _) _
      have HOa := hide (own_below hO hba)
      have HXa := hide (And.intro ((hba.block _ (by omega)).trans hx) ((hba.block _ (by omega)).trans hx1))
      have HBa := hide (hB.trans (hba.mono hB.size))
      have HSa : Hid (w.heap.size + 2 ≤ (wr.alloc (.cells #[.int .u8 z1, .int .u32 z2, .string z3] 105)).heap.size ∧ (wr.alloc (.cells #[.int .u8 z1, .int .u32 z2, .string z3] 105)).heap.size = wr.heap.size + 1) := ⟨Nat.le_trans hxs hba.size, by simp⟩
      by_cases h1 : z1 = 1
      · subst h1
        have HE := hide (hts rfl)
        have hz1 : (wr.alloc (.cells #[.int .u8 1, .int .u32 z2, .string z3] 105)).cell? ⟨wr.heap.size, 1, none⟩ = some (.int .u32 z2) := (one_block (heap_alloc_new wr (.cells #[.int .u8 1, .int .u32 z2, .string z3] 105))).1 1
        have HZ1 := hide hz1
        have HPK := hide (hpk rfl)
        have g1 : (wr.alloc (.cells #[.int .u8 1, .int .u32 z2, .string z3] 105)).cell? ⟨g, k * 3 + 1, none⟩ = some (.int .u32 z2) := (hba.cell (p := ⟨g, k * 3 + 1, none⟩) hgs).trans e1
        have hg1 : (wr.alloc (.cells #[.int .u8 1, .int .u32 z2, .string z3] 105)).frozen? ⟨g, k * 3 + 1, none⟩ = false := HOa.out.frozenAt (k * 3 + 1)
        have b3 : (wr.alloc (.cells #[.int .u8 1, .int .u32 z2, .string z3] 105)).cell? ⟨w.heap.size, 3, none⟩ = some (.slice (some ⟨g, 0, none⟩) nx c') := (hba.cell (p := ⟨w.heap.size, 3, none⟩) (by simp; omega)).trans c3
        have HGG := hide (And.intro g1 (And.intro hg1 b3))
        clear hts hte hpk hO hx hx1 hB hba cc ff hz1 g1 hg1 b3
        go_wp2_with fail
        generalize wr.alloc (.cells #[.int .u8 1, .int .u32 z2, .string z3] 105) = Y at *
        obtain ⟨g1, hg1, b3⟩ := HGG.out
        have hz1 := HZ1.out
        clear c3 e0 e1 e2
        go_region_with ((go_at_call 34; refine (HC.out _ z2 ?_ HPK.out).mono ?_; (first | exact HBa.out | exact HBa.out.drew); rintro e y3 ⟨rfl, rfl⟩))
        all_goals
          have hO2 := (HOa.out.stored (k * 3 + 1) (.int .u32 (f z2))).1
          rw [HE.out] at hO2
          have hx2 := setFar1V HXa.out.1 (show w.heap.size ≠ g by omega) (k * 3 + 1) (.int .u32 (f z2))
          have hx3 := setFar1V HXa.out.2 (show w.heap.size + 1 ≠ g by omega) (k * 3 + 1) (.int .u32 (f z2))
          have hB2 := HBa.out.setCell (p := ⟨g, k * 3 + 1, none⟩) (by simp; omega) (.int .u32 (f z2))
          have HF := hide (And.intro hO2 (And.intro hx2 (And.intro hx3 hB2)))
          have HS2 : Hid (w.heap.size + 2 ≤ (Y.setCell ⟨g, k * 3 + 1, none⟩ (.int .u32 (f z2))).heap.size) := by show _ ≤ _; rw [World.size_setCell]; exact HSa.out.1
          clear hO2 hx2 hx3 hB2 g1 hg1 b3 hz1 HGG HZ1 HOa HXa HBa
          go_wp2_with fail
          go_roundw
          case rel => exact ⟨k + 1, by omega, by go_num, HF.out.1, HF.out.2.1, HF.out.2.2.1, HS2.out, by first | exact HF.out.2.2.2 | exact HF.out.2.2.2.drew⟩
          case measure => simp [intOf]; omega
      · have h1' : (z1 == 1) = false := by simpa using h1
        have HE := hide (hte h1)
        clear hts hte hpk hO hx hx1 hB hba cc ff h1
        go_wp2_with fail
        go_roundw
        case rel => exact ⟨k + 1, by omega, by go_num, by rw [HE.out]; exact HOa.out, HXa.out.1, HXa.out.2, HSa.out.1, HBa.out⟩
        case measure => simp [intOf]; omega
    · obtain rfl : k = nx := by omega
      have c0 := cc 0
      have c1 := cc 1
      have c2 := cc 2
      have c3 := cc 3
      obtain ⟨rr, fr⟩ := one_block hx1
      have r0 := rr 0
      have r1 := rr 1
      have r2 := rr 2
      have r3 := rr 3
      rw [HTA.out] at hO
      have HOF := hide (ownsRow_setCell_below (ownsRow_setCell_below (ownsRow_setCell_below (ownsRow_setCell_below hO (a := ⟨w.heap.size + 1, 0, none⟩) (by simp) (.int .u16 xo)) (a := ⟨w.heap.size + 1, 1, none⟩) (by simp) (.int .u32 (0))) (a := ⟨w.heap.size + 1, 2, none⟩) (by simp) (.int .u32 (0))) (a := ⟨w.heap.size + 1, 3, none⟩) (by simp) (.slice a' k c'))
      have HXF := hide (four_putVR hx1 (.int .u16 xo) (.int .u32 (0)) (.int .u32 (0)) (.slice a' k c'))
      have HBF := hide ((((hB.setCell (p := ⟨w.heap.size + 1, 0, none⟩) (by simp) (.int .u16 xo)).setCell (p := ⟨w.heap.size + 1, 1, none⟩) (by simp) (.int .u32 (0))).setCell (p := ⟨w.heap.size + 1, 2, none⟩) (by simp) (.int .u32 (0))).setCell (p := ⟨w.heap.size + 1, 3, none⟩) (by simp) (.slice a' k c'))
      clear cc rr hO hx hx1 hB
      go_wp2_with fail
      generalize (((wr.setCell ⟨w.heap.size + 1, 0, none⟩ (.int .u16 xo)).setCell ⟨w.heap.size + 1, 1, none⟩ (.int .u32 (0))).setCell ⟨w.heap.size + 1, 2, none⟩ (.int .u32 (0))).setCell ⟨w.heap.size + 1, 3, none⟩ (.slice a' k c') = Z at *
      obtain ⟨dd, _⟩ := one_block HXF.out
      have d0 := dd 0
      have d1 := dd 1
      have d2 := dd 2
      have d3 := dd 3
      refine bodyPost_ret (v := .agg #[.int .u16 xo, .int .u32 (0), .int .u32 (0), .slice a' k c']) (by simp [results, Tryz.results82, go_sem, d0, d1, d2, d3]) rfl ⟨a', c', by first | rw [HT.out, HR.out] | rw [HT.out], HOF.out, HBF.out⟩

theorem turnedR_any (f : Int → Int) (P : Int → Prop) (cb : Nat) (x : InstT) (ax : Option Addr) (nx cx : Nat) (w : World) (hv : ArgsV w ax x.2.2.2) (hl : x.2.2.2.length = nx) (hn : 24 * nx ≤ 140737488351232)
    (hC : ∀ wx id, Below w.heap.size w wx → P id → Calls Tryz.prog 34 #[.int .u32 id, .pointer (some ⟨cb, 0, none⟩)] wx fun e w' => e = .returned (.int .u32 (f id)) ∧ wx = w')
    (pt : x.2.1 ≠ 0 → P x.2.1) (pr : x.2.2.1 ≠ 0 → P x.2.2.1) (pa : ∀ k, k < nx → (nthA x.2.2.2 k).1 = 1 → P (nthA x.2.2.2 k).2.1) :
    Calls Tryz.prog 82 #[instV x ax nx cx, .func (.func 34) #[] #[.pointer (some ⟨cb, 0, none⟩)]] w fun e w' => ∃ a c, e = .returned (instV (turnX f x) a nx c) ∧ w'.ownsRow (w.heap.size + 2) 105 3 (.slice a nx c) nx ((turnX f x).2.2.2.flatMap argC) ∧ Below w.heap.size w w' := by
  obtain ⟨xo, xt, xr, xl⟩ := x
  unfold instV turnX
  simp only at *
  by_cases ht : xt = 0
  · by_cases hr : xr = 0
    · exact turnedR_ff f P cb xo xt xr xl ax nx cx w hv hl hn hC ht hr pt pr pa
    · exact turnedR_ft f P cb xo xt xr xl ax nx cx w hv hl hn hC ht hr pt pr pa
  · by_cases hr : xr = 0
    · exact turnedR_tf f P cb xo xt xr xl ax nx cx w hv hl hn hC ht hr pt pr pa
    · exact turnedR_tt f P cb xo xt xr xl ax nx cx w hv hl hn hC ht hr pt pr pa

end Go.Proofs.YtlcaedibmlidlaaGreat
