/-
  Texts laid together in one: CodeRaws, CodeDecode, CodeDecode2, Law04One, Law08One, CodeEncode, Law04Awake, MathL.
-/
import Derived.WalkSpells
import Derived.WalkMore
import Derived.Laws.AppendOwn
import Derived.BigRegion
import Derived.Test.YtonhnflilfjkbaaGreatDoorB03
import Derived.Test.YtonhnflilfjkbaaGreatDoorB08
import Derived.Test.YtonhnflilfjkbaaGreatDoorB09
import Derived.Deep.RegionWith
import Derived.Deep.DrawnRows
import Derived.Test.YtonhnflilfjkbaaGreatDoorB02
import Derived.RangeFuncNested
import Derived.RangeFuncBound
import Derived.RangeFuncCalls
import Derived.RangeFuncLeaves
import Derived.Shelf.Abstract
import Derived.Shelf.RegionOpen
import Derived.WalkKit
import Derived.OwnWalkIn
import Derived.TacticsInMore
import Derived.LoopNIn
import Derived.LoopIn
import Derived.Test.YtonhnflilfjkbaaGreatDoorB07
import Derived.Test.YtonhnflilfjkbaaGreatDoorB01
import Derived.Test.YtonhnflilfjkbaaGreatDoorB06
/-
  What raws of the package code answers: a module's instructions as words, or the first that is wrong.
-/
namespace Go.Proofs.YtonhnflilfjkbaaGreatDoor
open Go.RowKit
set_option linter.unusedVariables false
set_option linter.unusedSimpArgs false
set_option maxRecDepth 10000

set_option maxHeartbeats 2000000 in
/-- Of a bound that may not be. -/
theorem raws_bad (gen bound : Int) (a : Option Addr) (n cap : Nat) (l : List InstT) (w : World) (hg0 : 0 ≤ gen) (hg1 : gen < 4294967296) (hb0 : 0 ≤ bound) (hb1 : bound < 4294967296) (hv : InstsV w a l) (hok : InstsOk l) (hl : l.length = n) (hn : 40 * n ≤ 140737488351232) (h1 : bound = 0 ∨ 65536 < bound) :
    Calls Tryz.prog 36 #[modV gen bound a n cap] w fun e w' => Below w.heap.size w w' ∧ ∃ ax cx m, e = .returned (.tuple #[.slice ax m cx, .agg #[.int .i64 (shapeE bound l).1, .int .i64 (shapeE bound l).2]]) ∧ (rawsR bound l).length = m ∧ m ≤ cx ∧ RawsV w' ax (rawsR bound l) := by
  have hH := fun w => headOf_any gen bound a n cap w
  have hW := fun w => writeC gen bound none 0 0 [] w hg0 hg1 hb0 hb1 rawsV_nil (fun j hj => by simp at hj) rfl (by omega) (by omega)
  unfold modV at hH ⊢
  have HL : Hid (l.length = n) := hl
  have e1 : writeE bound [] = (24, 0) := by unfold writeE; rw [if_pos h1]
  have e2 : shapeE bound l = (24, 0) := by unfold shapeE; rw [if_pos h1]
  have e3 : rawsR bound l = [] := by unfold rawsR; rw [e2]; rfl
  rw [e1] at hW
  rw [e2, e3]
  clear e1 e2 e3 h1 hv hok hl
  go_enter Tryz.func36, Tryz.ntmps36
  go_wp2_with fail
  have hB0 : Below w.heap.size w ((w.alloc (.cells #[.int .u32 gen, .int .u32 bound, .slice a n cap] 25)).alloc (.cells #[.int .i64 0, .int .i64 0] 28)) := ((Below.refl _ w).alloc (Nat.le_refl _) _).alloc (by simp) _
  have kX : ((w.alloc (.cells #[.int .u32 gen, .int .u32 bound, .slice a n cap] 25)).alloc (.cells #[.int .i64 0, .int .i64 0] 28)).heap[w.heap.size + 1]? = some (.cells #[.int .i64 0, .int .i64 0] 28 (0, 0)) := by simpa using alloc_new (w.alloc (.cells #[.int .u32 gen, .int .u32 bound, .slice a n cap] 25)) #[.int .i64 0, .int .i64 0] 28
  generalize (w.alloc (.cells #[.int .u32 gen, .int .u32 bound, .slice a n cap] 25)).alloc (.cells #[.int .i64 0, .int .i64 0] 28) = W0 at *
  have l0 := (Array.getElem?_eq_some_iff.1 kX).1
  refine (hH _).mono ?_
  rintro e w1 ⟨rfl, hb1'⟩
  have s1 := hb1'.size
  go_wp2_with fail
  refine (hW _).mono ?_
  rintro e w2 ⟨hb2, ax, cx, m, rfl, hm, hown⟩
  have s2 := hb2.size
  have hb3 : Below w2.heap.size w2 (w2.alloc (.cells #[.int .i64 24, .int .i64 0] 28)) := (Below.refl _ _).alloc (Nat.le_refl _) _
  have hbA := hb1'.trans ((hb2.trans (hb3.mono s2)).mono s1)
  have kX3 := (hbA.block _ l0).trans kX
  have kS := alloc_new w2 #[.int .i64 24, .int .i64 0] 28
  have hbW := hB0.trans (hbA.mono hB0.size)
  obtain ⟨c0, c1, _⟩ := cell_of_two kX3
  have f0 := (one_block kX3).2 0
  have f1 := (one_block kX3).2 1
  obtain ⟨d0, d1, _⟩ := cell_of_two kS
  have hne : w2.heap.size ≠ w.heap.size + 1 := by omega
  clear hb1' hb2 hb3 hbA hown hm hH hW
  have hz : ((0 : Nat) : Int) = 0 := rfl
  go_wp2
  go_region
  go_wp2
  have hB := two_put2 kX3 (.int .i64 24) (.int .i64 0)
  have hBel := (hbW.trans ((two_below (w2.alloc (.cells #[.int .i64 24, .int .i64 0] 28)) (w.heap.size + 1) (.int .i64 24) (.int .i64 0)).mono (by omega))).drew
  have hB' : ((((w2.alloc (.cells #[.int .i64 24, .int .i64 0] 28)).setCell ⟨w.heap.size + 1, 0, none⟩ (.int .i64 24)).setCell ⟨w.heap.size + 1, 1, none⟩ (.int .i64 0)).drew).heap[w.heap.size + 1]? = some (.cells #[.int .i64 24, .int .i64 0] 28 (0, 0)) := hB
  clear c0 c1 f0 f1 d0 d1 kX3 kS hB
  generalize (((w2.alloc (.cells #[.int .i64 24, .int .i64 0] 28)).setCell ⟨w.heap.size + 1, 0, none⟩ (.int .i64 24)).setCell ⟨w.heap.size + 1, 1, none⟩ (.int .i64 0)).drew = WF at hB' hBel ⊢
  obtain ⟨g0, g1, _⟩ := cell_of_two hB'
  refine bodyPost_ret (v := .tuple #[.slice none 0 0, .agg #[.int .i64 24, .int .i64 0]]) ?_ rfl ⟨hBel, none, 0, 0, rfl, rfl, Nat.le_refl _, rawsV_nil⟩
  simp [results, Tryz.results36, go_sem, g0, g1]

theorem Raws.info : (Tryz.prog.info? 54).map (fun i => (i.zero, i.size, i.bytes)) = some (some (.agg #[.int .u16 0, .slice none 0 0]), 2, 32) := by kernel_rfl

/-- A module's words while they are gathered. -/
structure RawsS (w wr : World) (gen bound : Int) (a : Option Addr) (n cap : Nat) (v : Value) (rs : List (Int × List Int)) : Prop where
  row : ∃ cs, wr.ownsRow (w.heap.size + 2) 54 2 v rs.length cs ∧ RowO wr (w.heap.size + 2) v.ownBlock rs cs
  mbox : wr.heap[w.heap.size]? = some (.cells #[.int .u32 gen, .int .u32 bound, .slice a n cap] 25 (0, 0))
  sbox : wr.heap[w.heap.size + 1]? = some (.cells #[.int .i64 0, .int .i64 0] 28 (0, 0))
  bel : Below w.heap.size w wr

theorem RawsS.below {w wr wr' : World} {gen bound : Int} {a : Option Addr} {n cap : Nat} {v : Value} {rs : List (Int × List Int)} (h : RawsS w wr gen bound a n cap v rs) (hb : Below wr.heap.size wr wr') : RawsS w wr' gen bound a n cap v rs := by
  obtain ⟨cs, h1, h2⟩ := h.row
  exact ⟨⟨cs, own_below h1 hb, h2.below hb⟩, (hb.block _ (Array.getElem?_eq_some_iff.1 h.mbox).1).trans h.mbox, (hb.block _ (Array.getElem?_eq_some_iff.1 h.sbox).1).trans h.sbox, h.bel.trans (hb.mono h.bel.size)⟩
theorem RawsS.push {w wr W w6 : World} {gen bound : Int} {a : Option Addr} {n cap : Nat} {v v' : Value} {rs : List (Int × List Int)} {cs : List Value} {op : Int} {ms : List Int} {aj : Option Addr} {nj cj g' : Nat} (h : RawsS w wr gen bound a n cap v rs) (h1 : wr.ownsRow (w.heap.size + 2) 54 2 v rs.length cs) (h2 : RowO wr (w.heap.size + 2) v.ownBlock rs cs)
    (hb : Below wr.heap.size wr W) (hs : W.ownsRow wr.heap.size 22 1 (.slice aj nj cj) nj (ms.map (Value.int .u32))) (hl : ms.length = nj) (hg : W.grownBy w6 v.ownBlock) (hat : v.ownBlock = some g' ∨ g' = W.heap.size) (hv' : v'.ownBlock = some g')
    (hown : w6.ownsRow (w.heap.size + 2) 54 2 v' (rs.length + 1) (cs ++ [.int .u16 op, .slice aj nj cj])) : RawsS w w6 gen bound a n cap v' (rs ++ [(op, ms)]) := by
  have hlo : ∀ g, v.ownBlock = some g → w.heap.size + 2 ≤ g ∧ g < wr.heap.size := fun g e => h1.lt g e
  have hl1 := (Array.getElem?_eq_some_iff.1 h.sbox).1
  have hS := h.below hb
  have hl2 := (Array.getElem?_eq_some_iff.1 hS.sbox).1
  refine ⟨⟨_, by rw [List.length_append]; exact hown, by rw [hv']; exact h2.push hb hs hl (fun b e => (hlo b e).2) (by omega) hg hat⟩, ?_, ?_, ?_⟩
  · exact (hg.block _ (by omega) (fun e => by have := (hlo _ e.symm).1; omega)).trans hS.mbox
  · exact (hg.block _ hl2 (fun e => by have := (hlo _ e.symm).1; omega)).trans hS.sbox
  · exact hS.bel.grown hg hS.bel.size (fun k e => by have := (hlo k e).1; omega)

theorem spot_store {w wr : World} {gen bound : Int} {a : Option Addr} {n cap : Nat} {v : Value} {rs : List (Int × List Int)} (h : RawsS w wr gen bound a n cap v rs) : wr.cell? ⟨w.heap.size + 1, 0, none⟩ = some (.int .i64 0) ∧ wr.cell? ⟨w.heap.size + 1, 1, none⟩ = some (.int .i64 0) ∧ wr.frozen? ⟨w.heap.size + 1, 0, none⟩ = false ∧ wr.frozen? ⟨w.heap.size + 1, 1, none⟩ = false := by
  obtain ⟨hc, hf⟩ := one_block h.sbox
  exact ⟨hc 0, hc 1, hf 0, hf 1⟩

set_option maxHeartbeats 4000000 in
/-- Of a bound that may be. -/
theorem raws_ok (gen bound : Int) (a : Option Addr) (n cap : Nat) (l : List InstT) (w : World) (hg0 : 0 ≤ gen) (hg1 : gen < 4294967296) (hb0 : 0 ≤ bound) (hb1 : bound < 4294967296) (hv : InstsV w a l) (hok : InstsOk l) (hl : l.length = n) (hn : 40 * n ≤ 140737488351232) (h1 : ¬ (bound = 0 ∨ 65536 < bound)) :
    Calls Tryz.prog 36 #[modV gen bound a n cap] w fun e w' => Below w.heap.size w w' ∧ ∃ ax cx m, e = .returned (.tuple #[.slice ax m cx, .agg #[.int .i64 (shapeE bound l).1, .int .i64 (shapeE bound l).2]]) ∧ (rawsR bound l).length = m ∧ m ≤ cx ∧ RawsV w' ax (rawsR bound l) := by
  obtain ⟨i0, hi, hz0, hz1, hz2⟩ := info_parts Raws.info
  have HI : Hid (Tryz.prog.info? 54 = some i0 ∧ i0.zero = some (.agg #[.int .u16 0, .slice none 0 0]) ∧ i0.size = 2 ∧ i0.bytes = 32) := ⟨hi, hz0, hz1, hz2⟩
  clear hi hz0 hz1 hz2
  have hH := fun w => headOf_any gen bound a n cap w
  have hW := fun w => writeC gen bound none 0 0 [] w hg0 hg1 hb0 hb1 rawsV_nil (fun j hj => by simp at hj) rfl (by omega) (by omega)
  unfold modV at hH ⊢
  have HL : Hid (l.length = n) := hl
  have e1 : writeE bound [] = (0, 0) := by unfold writeE; rw [if_neg h1]; rfl
  have e2 : writeL gen bound [] = [119734787, 65536, gen, bound, 0] := by unfold writeL; rw [e1]; rfl
  rw [e1, e2] at hW
  have HE : Hid (shapeE bound l = shapeF bound 0 5 l) := by show _ = _; unfold shapeE; rw [if_neg h1]
  have HV : Hid (InstsV w a l) := hv
  have HOK : Hid (InstsOk l) := hok
  clear e1 e2 h1 hv hok hl
  obtain ⟨E, hE⟩ : ∃ E, E = shapeE bound l := ⟨_, rfl⟩
  obtain ⟨RR, hRR⟩ : ∃ RR, RR = rawsR bound l := ⟨_, rfl⟩
  rw [← hE, ← hRR]
  have HEE : Hid (E = shapeE bound l) := hE
  have HRR : Hid (RR = rawsR bound l) := hRR
  clear hE hRR
  go_enter Tryz.func36, Tryz.ntmps36
  go_wp2_with fail
  have hB0 : Below w.heap.size w ((w.alloc (.cells #[.int .u32 gen, .int .u32 bound, .slice a n cap] 25)).alloc (.cells #[.int .i64 0, .int .i64 0] 28)) := ((Below.refl _ w).alloc (Nat.le_refl _) _).alloc (by simp) _
  have hS0 : RawsS w ((w.alloc (.cells #[.int .u32 gen, .int .u32 bound, .slice a n cap] 25)).alloc (.cells #[.int .i64 0, .int .i64 0] 28)) gen bound a n cap (.slice none 0 0) [] :=
    ⟨⟨[], World.ownsRow_nil _ _ _ _, rowO_nil⟩, (Below.heap_alloc _ _ _ (by simp)).trans (alloc_new w _ _), by simpa using alloc_new (w.alloc (.cells #[.int .u32 gen, .int .u32 bound, .slice a n cap] 25)) #[.int .i64 0, .int .i64 0] 28, hB0⟩
  clear hB0
  generalize (w.alloc (.cells #[.int .u32 gen, .int .u32 bound, .slice a n cap] 25)).alloc (.cells #[.int .i64 0, .int .i64 0] 28) = W0 at *
  refine (hH _).mono ?_
  rintro e w1 ⟨rfl, hb1'⟩
  have hS1 := hS0.below hb1'
  clear hS0 hb1' hH
  go_wp2_with fail
  refine (hW _).mono ?_
  rintro e w2 ⟨hb2, ax, cx, m, rfl, hm, hown⟩
  obtain rfl : 5 = m := hm
  have hS2 := hS1.below hb2
  have hS3 := hS2.below ((Below.refl _ w2).alloc (Nat.le_refl _) (.cells #[.int .i64 0, .int .i64 0] 28))
  obtain ⟨d0, d1, _⟩ := cell_of_two (alloc_new w2 #[.int .i64 0, .int .i64 0] 28)
  have m2 := (one_block hS3.mbox).1 2
  have HS3 : Hid _ := hS3
  clear hS1 hb2 hS2 hS3 hown hW
  go_wp2
  go_loopw [6, 7, 27] (fun c v i wr => ∃ k : Nat, k ≤ n ∧ i = .int .i64 k ∧ c = .int .i64 (sizeTo (rawsL bound l) k) ∧ sizeTo (rawsL bound l) k ≤ 1048576 ∧ E = shapeF bound k (sizeTo (rawsL bound l) k) (l.drop k) ∧ RawsS w wr gen bound a n cap v (rawsL bound (l.take k))) (fun _ _ i _ => n - (intOf i).toNat)
  case atStart => exact ⟨0, Nat.zero_le _, rfl, rfl, by rw [sizeTo_zero]; decide, by rw [HEE.out, HE.out, sizeTo_zero]; rfl, HS3.out⟩
  case round =>
    obtain ⟨k, hk, rfl, rfl, hsz, hEk, hS⟩ := hrel
    clear HS3 d0 d1 m2 HE
    have HEK : Hid (E = shapeF bound k (sizeTo (rawsL bound l) k) (l.drop k)) := hEk
    clear hEk
    have hA := HV.out.below hS.bel
    obtain ⟨a', cap', rfl⟩ : ∃ a cap, u7 = .slice a (rawsL bound (l.take k)).length cap := by
      obtain ⟨cs, h1, _⟩ := hS.row
      rcases h1.2 with ⟨rfl, h0⟩ | ⟨g, cap, cur, rfl, _⟩
      · exact ⟨none, 0, by rw [h0]⟩
      · exact ⟨_, _, rfl⟩
    have hlk : (rawsL bound (l.take k)).length = k := by rw [rawsL_len, List.length_take, HL.out]; omega
    rw [hlk] at hS ⊢
    by_cases hlt : k < n
    · have hkl : k < l.length := by rw [HL.out]; exact hlt
      obtain ⟨b1, o1, aj, cj, nj, rfl, hbl, p1, p2, p3, p4, p5, p6, p7⟩ := hA k hkl
      have hEs := shape_step bound l k hkl
      have hss := sizeTo_succ (rawsL bound l) k (by rw [rawsL_len]; exact hkl)
      rw [nthR_raws bound l k hkl] at hss
      have htk := rawsL_take bound l k hkl
      have hRn := HRR.out
      have hox := HOK.out k hkl
      have hRaw := fun wx (hx : Below wr.heap.size wr wx) => raw_any (nthI l k) bound aj nj cj wx (p6.below hx) hox p5
      have hEk := HEK.out
      rw [hEs] at hEk
      have HEK2 : Hid _ := hEk
      have HSS : Hid _ := hss
      have HTK : Hid _ := htk
      have hro : rawE (nthI l k) bound = 0 → rawO (nthI l k) bound = (nthI l k).1 := fun h => by unfold rawO; rw [if_pos h]
      clear hEs hss htk HEK hEk hRn hA p6 hox
      generalize hx : nthI l k = x at *
      have hki : (k : Int) < (n : Int) := by omega
      have hk0 : (0 : Int) ≤ (k : Int) := by omega
      obtain ⟨xo, xt, xr, xl⟩ := x
      unfold instV at hRaw
      simp only at *
      have mb := (one_block (hS.below ((Below.refl _ wr).alloc (Nat.le_refl _) (.cells #[.int .u16 xo, .int .u32 xt, .int .u32 xr, .slice aj nj cj] 38))).mbox).1 1
      have hbA : Below wr.heap.size wr (wr.alloc (.cells #[.int .u16 xo, .int .u32 xt, .int .u32 xr, .slice aj nj cj] 38)) := (Below.refl _ wr).alloc (Nat.le_refl _) _
      have hC := hRaw _ hbA
      go_wp2_with fail
      generalize wr.alloc (.cells #[.int .u16 xo, .int .u32 xt, .int .u32 xr, .slice aj nj cj] 38) = WA at *
      refine hC.mono ?_
      rintro e w5 ⟨hb5, a5, m5, c5, rfl, hm5, hown5⟩
      have hbB : Below wr.heap.size wr w5 := hbA.trans (hb5.mono hbA.size)
      have hS5 := hS.below hbB
      have hown5' := own_lo hown5 hbA.size
      clear hC hRaw hb5 hbA mb p1 p2 p3 p4 hown5
      have HM5 : Hid _ := hm5
      by_cases hr : rawE (xo, xt, xr, xl) bound = 0
      · have hro' := hro hr
        rw [hr, hro']
        have hEk := HEK2.out
        rw [if_neg (by simp [hr])] at hEk
        have HEK3 : Hid _ := hEk
        clear hro hro' hEk HEK2
        have hbC : Below wr.heap.size wr (w5.alloc (.cells #[.int .u16 xo, .slice a5 m5 c5] 54)) := hbB.alloc hbB.size _
        obtain ⟨q0, q1, _⟩ := cell_of_two (alloc_new w5 #[.int .u16 xo, .slice a5 m5 c5] 54)
        have hss : (sizeTo (rawsL bound l) (k + 1) : Nat) = sizeTo (rawsL bound l) k + 1 + m5 := by rw [HSS.out, HM5.out]
        have hm5b : m5 < 65535 := by rw [← HM5.out]; exact rawWs_len _ _
        by_cases hbig : 1048576 < sizeTo (rawsL bound l) (k + 1)
        · have hE4 : E = (4, k) := by rw [HEK3.out, if_pos hbig]
          have hbig' : (1048576 : Int) < (sizeTo (rawsL bound l) k : Int) + (1 + (m5 : Int)) := by omega
          generalize sizeTo (rawsL bound l) k = sz at *
          clear hbC hbig hss HEK3 HSS HTK hr HM5 hm5
          have hR : RR = [] := by rw [HRR.out, rawsR, ← HEE.out, hE4, if_neg (by first | exact hr | simp)]
          subst hR hE4
          have hS6 := hS5.below ((Below.refl _ w5).alloc (Nat.le_refl _) (.cells #[.int .u16 xo, .slice a5 m5 c5] 54))
          obtain ⟨s0, s1, f0, f1⟩ := spot_store hS6
          have hB3 := two_put2 hS6.sbox (.int .i64 4) (.int .i64 (k : Int))
          have hBel := hS6.bel.trans ((two_below (w5.alloc (.cells #[.int .u16 xo, .slice a5 m5 c5] 54)) (w.heap.size + 1) (.int .i64 4) (.int .i64 (k : Int))).mono (by omega))
          have HB3 : Hid _ := hB3
          have HBel : Hid _ := hBel
          clear hS6 hS5 hS hbB hown5' hB3 hBel HRR HEE HV HOK
          go_wp2
          have hB3 := HB3.out
          have hBel := HBel.out
          clear HB3 HBel s0 s1 f0 f1
          generalize ((w5.alloc _).setCell _ _).setCell _ _ = W at hB3 hBel ⊢
          obtain ⟨hd, _⟩ := one_block hB3
          have d0 := hd 0
          have d1 := hd 1
          refine bodyPost_ret (v := .tuple #[.slice none 0 0, .agg #[.int .i64 4, .int .i64 (k : Int)]]) ?_ rfl ⟨hBel, none, 0, 0, rfl, rfl, Nat.le_refl _, rawsV_nil⟩
          simp [results, Tryz.results36, go_sem, d0, d1]
        · have hE5 : E = shapeF bound (k + 1) (sizeTo (rawsL bound l) (k + 1)) (l.drop (k + 1)) := by rw [HEK3.out, if_neg hbig]
          have HE5 : Hid _ := hE5
          have hbig' : ¬ (1048576 : Int) < (sizeTo (rawsL bound l) k : Int) + (1 + (m5 : Int)) := by omega
          have HBG : Hid (sizeTo (rawsL bound l) (k + 1) ≤ 1048576) := by show _ ≤ _; omega
          have HSK : Hid ((sizeTo (rawsL bound l) k : Int) + (1 + (m5 : Int)) = (sizeTo (rawsL bound l) (k + 1) : Nat)) := by show _ = _; omega
          obtain ⟨cs, hc1, hc2⟩ := hS.row
          have N0 : Below wr.heap.size wr ((w5.alloc (.cells #[.int .u16 xo, .slice a5 m5 c5] 54)).alloc (.cells #[.int .u16 xo, .slice a5 m5 c5] 54)) := hbC.alloc hbC.size _
          have N1 : Hid (((w5.alloc (.cells #[.int .u16 xo, .slice a5 m5 c5] 54)).alloc (.cells #[.int .u16 xo, .slice a5 m5 c5] 54)).ownsRow (w.heap.size + 2) 54 2 (.slice a' k cap') k cs) := own_below (by rw [hlk] at hc1; exact hc1) N0
          have N2 : Hid (∀ (j : Nat) (u : Value), [Value.int .u16 xo, .slice a5 m5 c5][j]? = some u → ((w5.alloc (.cells #[.int .u16 xo, .slice a5 m5 c5] 54)).alloc (.cells #[.int .u16 xo, .slice a5 m5 c5] 54)).cell? ((⟨w5.heap.size + 1, 0, none⟩ : Addr).add j) = some u) := World.news_of_block (cs := #[.int .u16 xo, .slice a5 m5 c5]) (t := 54) (fr := (0, 0)) (by first | exact alloc_new _ _ _ | simpa using alloc_new (w5.alloc (.cells #[.int .u16 xo, .slice a5 m5 c5] 54)) #[.int .u16 xo, .slice a5 m5 c5] 54)
          have N3 : Hid (∀ u : Value, u ∈ [Value.int .u16 xo, .slice a5 m5 c5] → u.oneCell' = true) := by intro u hu; simp at hu; rcases hu with rfl | rfl <;> rfl
          have N4 : k + 1 ≤ maxLen := by unfold maxLen; omega
          have N5 : (k + 1) * 32 ≤ 140737488355328 := by omega
          have hl1 := (Array.getElem?_eq_some_iff.1 hS.sbox).1
          have N6 : Hid (w.heap.size + 2 ≤ ((w5.alloc (.cells #[.int .u16 xo, .slice a5 m5 c5] 54)).alloc (.cells #[.int .u16 xo, .slice a5 m5 c5] 54)).heap.size) := by show _ ≤ _; have := N0.size; omega
          have N7 : Hid (((w5.alloc (.cells #[.int .u16 xo, .slice a5 m5 c5] 54)).alloc (.cells #[.int .u16 xo, .slice a5 m5 c5] 54)).ownsRow wr.heap.size 22 1 (.slice a5 m5 c5) m5 ((rawWs (xo, xt, xr, xl) bound).map (Value.int .u32))) := own_below (own_below hown5' ((Below.refl _ w5).alloc (Nat.le_refl _) _)) ((Below.refl _ _).alloc (Nat.le_refl _) _)
          have HN0 : Hid _ := N0
          have HS : Hid _ := hS
          have HC1 : Hid _ := hc1
          have HC2 : Hid _ := hc2
          have HLK : Hid _ := hlk
          clear hS hS5 hbB hbC hown5' N0 hc1 hc2 hss hbig hr HEK3 hE5 hm5 hlk hl1
          generalize sizeTo (rawsL bound l) k = sz at *
          go_wp2_with (at_builtin; refine wpList_append_lies _ rfl (.tmp 54) (.tmp 56) 71 rfl (w.heap.size + 2) 54 i0 (.agg #[.int .u16 0, .slice none 0 0]) 2 32 Tryz.underlying71 HI.out.1 HI.out.2.1 HI.out.2.2.1 HI.out.2.2.2 rfl (by decide) (.slice a' k cap') k cs rfl N1.out ⟨w5.heap.size + 1, 0, none⟩ 1 1 [.int .u16 xo, .slice a5 m5 c5] rfl rfl N2.out N3.out (by decide) N4 N5 N6.out _ rfl ?_)
          intro g6 cap6 w6 hown6 hgr6 hat6 hlt6
          have hS6 := HS.out.push (v' := .slice (some ⟨g6, 0, none⟩) (k + 1) cap6) HC1.out HC2.out HN0.out N7.out HM5.out hgr6 (by simpa using hat6) rfl (by rw [HLK.out]; exact hown6)
          rw [← HTK.out] at hS6
          have HS6 : Hid _ := hS6
          clear hS6 hown6 hgr6 hat6 N1 N2 N3 N6 N7 HN0 HS HC1 HC2 q0 q1
          go_wp2
          go_roundw
          case rel => exact ⟨k + 1, by omega, by go_num, by first | exact congrArg (Value.int .i64) HSK.out | (rw [← HSK.out]), HBG.out, HE5.out, HS6.out⟩
          case measure => simp [intOf]; omega
      · have hE4 : E = (rawE (xo, xt, xr, xl) bound, k) := by rw [HEK2.out, if_pos hr]
        generalize rawE (xo, xt, xr, xl) bound = er at *
        generalize rawO (xo, xt, xr, xl) bound = ro at *
        generalize sizeTo (rawsL bound l) k = sz at *
        clear HEK2 HSS HTK HM5 hm5 hro
        have hR : RR = [] := by rw [HRR.out, rawsR, ← HEE.out, hE4, if_neg (by first | exact hr | simp)]
        subst hR hE4
        have hS6 := hS5.below ((Below.refl _ w5).alloc (Nat.le_refl _) (.cells #[.int .u16 ro, .slice a5 m5 c5] 54))
        obtain ⟨s0, s1, f0, f1⟩ := spot_store hS6
        have hB3 := two_put2 hS6.sbox (.int .i64 er) (.int .i64 (k : Int))
        have hBel := hS6.bel.trans ((two_below (w5.alloc (.cells #[.int .u16 ro, .slice a5 m5 c5] 54)) (w.heap.size + 1) (.int .i64 er) (.int .i64 (k : Int))).mono (by omega))
        have HB3 : Hid _ := hB3
        have HBel : Hid _ := hBel
        clear hS6 hS5 hS hbB hown5' hB3 hBel HRR HEE HV HOK
        go_wp2
        have hB3 := HB3.out
        have hBel := HBel.out
        clear HB3 HBel s0 s1 f0 f1
        generalize ((w5.alloc _).setCell _ _).setCell _ _ = W at hB3 hBel ⊢
        obtain ⟨hd, _⟩ := one_block hB3
        have d0 := hd 0
        have d1 := hd 1
        refine bodyPost_ret (v := .tuple #[.slice none 0 0, .agg #[.int .i64 er, .int .i64 (k : Int)]]) ?_ rfl ⟨hBel, none, 0, 0, rfl, rfl, Nat.le_refl _, rawsV_nil⟩
        simp [results, Tryz.results36, go_sem, d0, d1]
    · obtain rfl : k = n := by omega
      have hR : RR = rawsL bound (l.take k) := by
        rw [HRR.out, rawsR, ← HEE.out, HEK.out, shape_end bound l k _ (by rw [HL.out]; exact Nat.le_refl _), if_pos rfl, List.take_of_length_le (by rw [HL.out]; exact Nat.le_refl _)]
      have hE0 : E = (0, 0) := by rw [HEK.out, shape_end bound l k _ (by rw [HL.out]; exact Nat.le_refl _)]
      subst hR hE0
      obtain ⟨s0, s1, f0, f1⟩ := spot_store hS
      obtain ⟨cs, hown, hrow⟩ := hS.row
      rw [hlk] at hown
      have hcap : k ≤ cap' := by
        rcases hown.2 with ⟨h1, h2⟩ | ⟨g, c', cur, h1, _, _, h4, _⟩
        · omega
        · cases h1; exact h4
      have hB3 := two_put2 hS.sbox (.int .i64 0) (.int .i64 0)
      have hBel := hS.bel.trans ((two_below wr (w.heap.size + 1) (.int .i64 0) (.int .i64 0)).mono (by omega))
      have hV3 : RawsV ((wr.setCell ⟨w.heap.size + 1, 0, none⟩ (.int .i64 0)).setCell ⟨w.heap.size + 1, 1, none⟩ (.int .i64 0)) a' (rawsL bound (l.take k)) := by
        refine ((hrow.grown ((grown_setCell wr (w.heap.size + 1) 0 _).trans (grown_setCell _ (w.heap.size + 1) 1 _)) (fun g e => .inl (by cases e; omega))).own (own_apartly hown ((grown_setCell wr (w.heap.size + 1) 0 _).trans (grown_setCell _ (w.heap.size + 1) 1 _)) (fun g e => .inl (by cases e; omega))) hlk).view
      have HV3 : Hid _ := hV3
      clear hown hrow hV3 HOK HV HRR HEE HEK hA
      go_wp2
      generalize (wr.setCell ⟨w.heap.size + 1, 0, none⟩ (.int .i64 0)).setCell ⟨w.heap.size + 1, 1, none⟩ (.int .i64 0) = W at hB3 hBel HV3 ⊢
      obtain ⟨hd, _⟩ := one_block hB3
      have d0 := hd 0
      have d1 := hd 1
      refine bodyPost_ret (v := .tuple #[.slice a' k cap', .agg #[.int .i64 0, .int .i64 0]]) ?_ rfl ⟨hBel, a', cap', k, rfl, by first | exact hlk | rfl, hcap, HV3.out⟩
      simp [results, Tryz.results36, go_sem, d0, d1]

theorem raws_any (gen bound : Int) (a : Option Addr) (n cap : Nat) (l : List InstT) (w : World) (hg0 : 0 ≤ gen) (hg1 : gen < 4294967296) (hb0 : 0 ≤ bound) (hb1 : bound < 4294967296) (hv : InstsV w a l) (hok : InstsOk l) (hl : l.length = n) (hn : 40 * n ≤ 140737488351232) :
    Calls Tryz.prog 36 #[modV gen bound a n cap] w fun e w' => Below w.heap.size w w' ∧ ∃ ax cx m, e = .returned (.tuple #[.slice ax m cx, .agg #[.int .i64 (shapeE bound l).1, .int .i64 (shapeE bound l).2]]) ∧ (rawsR bound l).length = m ∧ m ≤ cx ∧ RawsV w' ax (rawsR bound l) := by
  by_cases h1 : bound = 0 ∨ 65536 < bound
  · exact raws_bad gen bound a n cap l w hg0 hg1 hb0 hb1 hv hok hl hn h1
  · exact raws_ok gen bound a n cap l w hg0 hg1 hb0 hb1 hv hok hl hn h1

end Go.Proofs.YtonhnflilfjkbaaGreatDoor

/-
  What Decode of the package code answers, for all bytes that are no module.
-/
namespace Go.Proofs.YtonhnflilfjkbaaGreatDoor
open Go.RowKit
set_option linter.unusedVariables false
set_option linter.unusedSimpArgs false
set_option maxRecDepth 10000

/-- The boxes of Decode's answer. -/
structure DecB (w W : World) (v0 v1 v2 v3 v4 : Value) : Prop where
  mod : W.heap[w.heap.size]? = some (.cells #[v0, v1, v2] 25 (0, 0))
  spot : W.heap[w.heap.size + 1]? = some (.cells #[v3, v4] 28 (0, 0))
  bel : Below w.heap.size w W

theorem DecB.below {w W W' : World} {v0 v1 v2 v3 v4 : Value} (h : DecB w W v0 v1 v2 v3 v4) (hb : Below W.heap.size W W') : DecB w W' v0 v1 v2 v3 v4 :=
  ⟨(hb.block _ (Array.getElem?_eq_some_iff.1 h.mod).1).trans h.mod, (hb.block _ (Array.getElem?_eq_some_iff.1 h.spot).1).trans h.spot, h.bel.trans (hb.mono h.bel.size)⟩
theorem DecB.cells {w W : World} {v0 v1 v2 v3 v4 : Value} (h : DecB w W v0 v1 v2 v3 v4) : W.cell? ⟨w.heap.size, 0, none⟩ = some v0 ∧ W.cell? ⟨w.heap.size, 1, none⟩ = some v1 ∧ W.cell? ⟨w.heap.size, 2, none⟩ = some v2 ∧ W.cell? ⟨w.heap.size + 1, 0, none⟩ = some v3 ∧ W.cell? ⟨w.heap.size + 1, 1, none⟩ = some v4 := by
  obtain ⟨h1, _⟩ := one_block h.mod
  obtain ⟨h2, _⟩ := one_block h.spot
  exact ⟨h1 0, h1 1, h1 2, h2 0, h2 1⟩
theorem DecB.free {w W : World} {v0 v1 v2 v3 v4 : Value} (h : DecB w W v0 v1 v2 v3 v4) : W.frozen? ⟨w.heap.size, 0, none⟩ = false ∧ W.frozen? ⟨w.heap.size, 1, none⟩ = false ∧ W.frozen? ⟨w.heap.size, 2, none⟩ = false ∧ W.frozen? ⟨w.heap.size + 1, 0, none⟩ = false ∧ W.frozen? ⟨w.heap.size + 1, 1, none⟩ = false := by
  obtain ⟨_, h1⟩ := one_block h.mod
  obtain ⟨_, h2⟩ := one_block h.spot
  exact ⟨h1 0, h1 1, h1 2, h2 0, h2 1⟩
/-- All five cells are stored. -/
def fiveW (w W : World) (u0 u1 u2 u3 u4 : Value) : World := ((((W.setCell ⟨w.heap.size, 0, none⟩ u0).setCell ⟨w.heap.size, 1, none⟩ u1).setCell ⟨w.heap.size, 2, none⟩ u2).setCell ⟨w.heap.size + 1, 0, none⟩ u3).setCell ⟨w.heap.size + 1, 1, none⟩ u4
theorem DecB.put {w W : World} {v0 v1 v2 v3 v4 : Value} (h : DecB w W v0 v1 v2 v3 v4) (u0 u1 u2 u3 u4 : Value) : DecB w (fiveW w W u0 u1 u2 u3 u4) u0 u1 u2 u3 u4 := by
  have k1 := three_set3 h.mod u0 u1 u2
  have k2 : (((W.setCell ⟨w.heap.size, 0, none⟩ u0).setCell ⟨w.heap.size, 1, none⟩ u1).setCell ⟨w.heap.size, 2, none⟩ u2).heap[w.heap.size + 1]? = some (.cells #[v3, v4] 28 (0, 0)) := (Below.heap_setCell _ _ _ _ (by simp)).trans ((Below.heap_setCell _ _ _ _ (by simp)).trans ((Below.heap_setCell _ _ _ _ (by simp)).trans h.spot))
  refine ⟨(Below.heap_setCell _ _ _ _ (by simp)).trans ((Below.heap_setCell _ _ _ _ (by simp)).trans k1), two_put2 k2 u3 u4, ?_⟩
  exact ((((h.bel.setCell (by simp) _).setCell (by simp) _).setCell (by simp) _).setCell (by simp) _).setCell (by simp) _
theorem DecB.drew {w W : World} {v0 v1 v2 v3 v4 : Value} (h : DecB w W v0 v1 v2 v3 v4) : DecB w W.drew v0 v1 v2 v3 v4 := h.below (below_drew W)
end Go.Proofs.YtonhnflilfjkbaaGreatDoor

/-
  What Decode of the package code answers, for all words that have a frame.
-/
namespace Go.Proofs.YtonhnflilfjkbaaGreatDoor
open Go.RowKit Go.Shelf
attribute [local go_sem] Oper.semAt_some
set_option linter.unusedVariables false
set_option linter.unusedSimpArgs false

end Go.Proofs.YtonhnflilfjkbaaGreatDoor

/-
  one of the laws of layer 4 answers a module of one instruction, in new memory.
-/
namespace Go.Proofs.YtonhnflilfjkbaaGreatDoor
open Go.RowKit Go.Shelf
attribute [local go_sem] Oper.semAt_some
set_option linter.unusedVariables false
set_option linter.unusedSimpArgs false

/-- That instruction. -/
def oneI : InstT := (128, 1, 2, [(1, 3, ⟨#[]⟩), (1, 4, ⟨#[]⟩)])

theorem kitId_any (n : Int) (w : World) : Calls Tryz.prog 41 #[.int .u32 n] w fun e w' => e = .returned (.agg #[.int .u8 1, .int .u32 n, .string ⟨#[]⟩]) ∧ Below w.heap.size w w' := by
  go_enter Tryz.func41, Tryz.ntmps41
  go_wp2
  refine bodyPost_ret (v := .agg #[.int .u8 1, .int .u32 n, .string ⟨#[]⟩]) ?_ rfl ⟨rfl, ?_⟩
  · simp [results, Tryz.results41, go_sem]
  · exact (Below.refl _ _).alloc (Nat.le_refl _) _

end Go.Proofs.YtonhnflilfjkbaaGreatDoor

/-
  one of the laws of layer 8 answers a module of one instruction, in new memory.
-/
namespace Go.Proofs.YtonhnflilfjkbaaGreatDoor
open Go.RowKit Go.Shelf
attribute [local go_sem] Oper.semAt_some
set_option linter.unusedVariables false
set_option linter.unusedSimpArgs false

set_option maxRecDepth 100000 in
set_option maxHeartbeats 4000000 in
theorem one8_any (w : World) : Calls Tryz.prog 23 #[] w fun e w' => ∃ g c, e = .returned (modV 7 9 (some ⟨g, 0, none⟩) 1 c) ∧ InstsV w' (some ⟨g, 0, none⟩) [oneI] ∧ Below w.heap.size w w' := by
  have h3 := fun w => kitId_any 3 w
  have h4 := fun w => kitId_any 4 w
  obtain ⟨i0, hi, hz0, hz1, hz2⟩ := info_parts CopyModule.info
  have hmix : Tryz.prog.follows .mixedOrders = true := by kernel_rfl
  unfold modV
  refine (callsIn_wide (n := 0)).1 ?_
  refine callsIn_of_wp_marks Tryz.func23 rfl trivial ?_ rfl
  simp only [Tryz.ntmps23, List.size_toArray, List.length_cons, List.length_nil, Nat.reduceAdd, Nat.reduceSub, Array.replicate_succ, Array.replicate_zero, List.push_toArray, List.append_toArray, List.nil_append, List.cons_append]
  gi_wp2_with fail
  have hB0 : Below w.heap.size w ((w.alloc (.cells #[.int .u32 0, .int .u32 0, .slice none 0 0] 25)).alloc (.cells #[.int .u32 7, .int .u32 9, .slice none 0 0] 25)) := ((Below.refl _ w).alloc (Nat.le_refl _) _).alloc (by simp) _
  have kR : ((w.alloc (.cells #[.int .u32 0, .int .u32 0, .slice none 0 0] 25)).alloc (.cells #[.int .u32 7, .int .u32 9, .slice none 0 0] 25)).heap[w.heap.size]? = some (.cells #[.int .u32 0, .int .u32 0, .slice none 0 0] 25 (0, 0)) := (Below.heap_alloc _ _ _ (by simp)).trans (alloc_new w _ _)
  have kM : ((w.alloc (.cells #[.int .u32 0, .int .u32 0, .slice none 0 0] 25)).alloc (.cells #[.int .u32 7, .int .u32 9, .slice none 0 0] 25)).heap[w.heap.size + 1]? = some (.cells #[.int .u32 7, .int .u32 9, .slice none 0 0] 25 (0, 0)) := by simpa using alloc_new (w.alloc (.cells #[.int .u32 0, .int .u32 0, .slice none 0 0] 25)) #[.int .u32 7, .int .u32 9, .slice none 0 0] 25
  generalize (w.alloc (.cells #[.int .u32 0, .int .u32 0, .slice none 0 0] 25)).alloc (.cells #[.int .u32 7, .int .u32 9, .slice none 0 0] 25) = W at *
  have lM := (Array.getElem?_eq_some_iff.1 kM).1
  have hC0 : Below W.heap.size W W.drew := below_drew W
  have L2 : Hid (∀ w', Below W.heap.size W w' → w'.cell? ⟨w.heap.size + 1, 2, none⟩ = some (.slice none 0 0)) := fun w' hC => (one_block ((hC.block _ lM).trans kM)).1 2
  refine wpIn_normal (wpIn_region_any hmix (wpAnyE_sound (C := Below W.heap.size W) (E := fun i => i == 9) _ _ _ _ ?_))
  change wpAnyE _ _ _ _ _ _ _ _ _ _ _ (World.drew _)
  refine wpAnyE_takeD (i := 0) (some 3) (v := .pointer (some ⟨w.heap.size + 1, 2, none⟩)) (fun _ => trivial) (by kernel_rfl) rfl rfl (by kernel_rfl) (by kernel_rfl) (by kernel_rfl) (by kernel_rfl) (fun _ _ _ h => by cases h.1) hC0 (Or.inl ⟨by kernel_rfl, fun w' hC => by clear hC; go_simp⟩) ?_
  simp only [Act.put, List.setIfInBounds_toArray, List.set_cons_succ, List.set_cons_zero]
  refine wpAnyE_takeD (i := 1) (some 4) (v := .slice none 0 0) (fun _ => trivial) (by kernel_rfl) rfl rfl (by kernel_rfl) (by kernel_rfl) (by kernel_rfl) (by kernel_rfl) (fun _ _ _ h => by cases h.1) hC0 (Or.inl ⟨by kernel_rfl, fun w' hC => by have e := L2.out w' hC; clear hC; go_simp⟩) ?_
  simp only [Act.put, List.setIfInBounds_toArray, List.set_cons_succ, List.set_cons_zero]
  refine wpAnyE_ready (rs := [2]) (by kernel_rfl) (by simp) ?_
  refine AllE.cons rfl (fun K hK => ?_) AllE.nil
  go_simp
  refine ⟨trivial, rfl, (callsIn_wide.2 (h3 _)).mono ?_⟩
  rintro e w3 ⟨rfl, hb3⟩
  dsimp only
  have hC3 : Below W.heap.size W w3 := hC0.trans hb3
  refine hK _ _ (.inr hC3) ?_
  clear hK K hb3
  refine wpAnyE_ready (rs := [3]) (by kernel_rfl) (by simp) ?_
  refine AllE.cons rfl (fun K hK => ?_) AllE.nil
  go_simp
  refine ⟨trivial, rfl, (callsIn_wide.2 (h4 _)).mono ?_⟩
  rintro e w4 ⟨rfl, hb4⟩
  dsimp only
  have hC4 : Below W.heap.size W w4 := hC3.trans (hb4.mono hC3.size)
  refine hK _ _ (.inr hC4) ?_
  clear hK K hb4
  refine wpAnyE_ready (rs := [4]) (by kernel_rfl) (by simp) ?_
  refine AllE.cons rfl (fun K hK => ?_) AllE.nil
  go_simp
  have hC5 : Below W.heap.size W (w4.alloc (.cells #[.int .u8 1, .int .u32 3, .string ⟨#[]⟩, .int .u8 1, .int .u32 4, .string ⟨#[]⟩] 61)) := hC4.alloc hC4.size _
  refine hK _ _ (.inr hC5) ?_
  clear hK K
  refine wpAnyE_ready (rs := [5]) (by kernel_rfl) (by simp) ?_
  refine AllE.cons rfl (fun K hK => ?_) AllE.nil
  go_simp
  refine hK _ _ (.inr hC5) ?_
  clear hK K
  refine wpAnyE_ready (rs := [6]) (by kernel_rfl) (by simp) ?_
  refine AllE.cons rfl (fun K hK => ?_) AllE.nil
  go_simp
  have hC6 : Below W.heap.size W ((w4.alloc (.cells #[.int .u8 1, .int .u32 3, .string ⟨#[]⟩, .int .u8 1, .int .u32 4, .string ⟨#[]⟩] 61)).alloc (.cells #[.int .u16 128, .int .u32 1, .int .u32 2, .slice (some ⟨w4.heap.size, 0, none⟩) 2 2] 38)) := hC5.alloc hC5.size _
  refine hK _ _ (.inr hC6) ?_
  clear hK K
  refine wpAnyE_ready (rs := [7]) (by kernel_rfl) (by simp) ?_
  refine AllE.cons rfl (fun K hK => ?_) AllE.nil
  have hA : ArgsV ((w4.alloc (.cells #[.int .u8 1, .int .u32 3, .string ⟨#[]⟩, .int .u8 1, .int .u32 4, .string ⟨#[]⟩] 61)).alloc (.cells #[.int .u16 128, .int .u32 1, .int .u32 2, .slice (some ⟨w4.heap.size, 0, none⟩) 2 2] 38)) (some ⟨w4.heap.size, 0, none⟩) [(1, 3, ⟨#[]⟩), (1, 4, ⟨#[]⟩)] := by
    have kA := (Below.heap_alloc (w4.alloc (.cells #[.int .u8 1, .int .u32 3, .string ⟨#[]⟩, .int .u8 1, .int .u32 4, .string ⟨#[]⟩] 61)) (.cells #[.int .u16 128, .int .u32 1, .int .u32 2, .slice (some ⟨w4.heap.size, 0, none⟩) 2 2] 38) w4.heap.size (by simp)).trans (alloc_new w4 #[.int .u8 1, .int .u32 3, .string ⟨#[]⟩, .int .u8 1, .int .u32 4, .string ⟨#[]⟩] 61)
    obtain ⟨hc, _⟩ := one_block kA
    intro j hj
    refine ⟨w4.heap.size, 0, rfl, by simp; omega, ?_⟩
    match j, hj with
    | 0, _ => exact ⟨hc 0, hc 1, hc 2⟩
    | 1, _ => exact ⟨hc 3, hc 4, hc 5⟩
  have sW : W.heap.size ≤ w4.heap.size := hC4.size
  refine stepAny_append _ (fun _ => trivial) rfl (.tmp 4) (.tmp 9) 23 rfl W.heap.size 38 i0 (.agg #[.int .u16 0, .int .u32 0, .int .u32 0, .slice none 0 0]) 4 40 Tryz.underlying23 hi hz0 hz1 hz2 rfl (by decide) (.slice none 0 0) 0 [] rfl (World.ownsRow_nil _ _ _ _) ⟨w4.heap.size + 1, 0, none⟩ 1 1 [.int .u16 128, .int .u32 1, .int .u32 2, .slice (some ⟨w4.heap.size, 0, none⟩) 2 2] rfl rfl (World.news_of_block (cs := #[.int .u16 128, .int .u32 1, .int .u32 2, .slice (some ⟨w4.heap.size, 0, none⟩) 2 2]) (t := 38) (fr := (0, 0)) (by simpa using alloc_new (w4.alloc (.cells #[.int .u8 1, .int .u32 3, .string ⟨#[]⟩, .int .u8 1, .int .u32 4, .string ⟨#[]⟩] 61)) #[.int .u16 128, .int .u32 1, .int .u32 2, .slice (some ⟨w4.heap.size, 0, none⟩) 2 2] 38)) (by intro u hu; simp at hu; rcases hu with rfl | rfl | rfl | rfl <;> rfl) (by decide) (by unfold maxLen; decide) (by decide) (by simp; omega) ?_
  intro g7 cap7 w7 hown7 hgr7
  have hb7 : Below ((w4.alloc (.cells #[.int .u8 1, .int .u32 3, .string ⟨#[]⟩, .int .u8 1, .int .u32 4, .string ⟨#[]⟩] 61)).alloc (.cells #[.int .u16 128, .int .u32 1, .int .u32 2, .slice (some ⟨w4.heap.size, 0, none⟩) 2 2] 38)).heap.size ((w4.alloc (.cells #[.int .u8 1, .int .u32 3, .string ⟨#[]⟩, .int .u8 1, .int .u32 4, .string ⟨#[]⟩] 61)).alloc (.cells #[.int .u16 128, .int .u32 1, .int .u32 2, .slice (some ⟨w4.heap.size, 0, none⟩) 2 2] 38)) w7 := (Below.refl _ _).grown hgr7 (Nat.le_refl _) (fun k e => by simp [Value.ownBlock] at e)
  have hC7 : Below W.heap.size W w7 := hC6.trans (hb7.mono hC6.size)
  have hA7 := hA.below hb7
  have hV7 : InstsV w7 (some ⟨g7, 0, none⟩) [oneI] := by
    intro j hj
    obtain rfl : j = 0 := by simp at hj; exact hj
    have c0 := hown7.cellAt 0 (by decide)
    have c1 := hown7.cellAt 1 (by decide)
    have c2 := hown7.cellAt 2 (by decide)
    have c3 := hown7.cellAt 3 (by decide)
    exact ⟨g7, 0, some ⟨w4.heap.size, 0, none⟩, 2, 2, rfl, World.block_lt_of_cell? _ _ c0, c0, c1, c2, c3, rfl, hA7, Nat.le_refl _⟩
  have hg7 : W.heap.size ≤ g7 := (hown7.lt g7 rfl).1
  have HVX : Hid (∀ X : World, (∀ k, W.heap.size ≤ k → X.heap[k]? = w7.heap[k]?) → w7.heap.size ≤ X.heap.size → InstsV X (some ⟨g7, 0, none⟩) [oneI]) := by
    intro X hX hs j hj
    obtain ⟨b, off, aj, cj, nj, e, hlt, c1, c2, c3, c4, c5, c6, c7⟩ := hV7 j hj
    obtain rfl : j = 0 := by simp at hj; exact hj
    have hc0 := hown7.cellAt 3 (by decide)
    cases e
    have e4 : aj = some ⟨w4.heap.size, 0, none⟩ := by
      rw [show w7.cell? ⟨g7, 0 + 0 * 4 + 3, none⟩ = w7.cell? ⟨g7, 3, none⟩ from rfl, hc0] at c4
      simp at c4
      exact c4.1.symm
    subst e4
    have cell : ∀ b o, W.heap.size ≤ b → X.cell? ⟨b, o, none⟩ = w7.cell? ⟨b, o, none⟩ := fun b o hb => World.cell?_of_block (hX b hb)
    refine ⟨g7, 0, some ⟨w4.heap.size, 0, none⟩, cj, nj, rfl, by omega, (cell _ _ hg7).trans c1, (cell _ _ hg7).trans c2, (cell _ _ hg7).trans c3, (cell _ _ hg7).trans c4, c5, ?_, c7⟩
    intro i hi
    obtain ⟨b, off, e, hlt, a1, a2, a3⟩ := c6 i hi
    cases e
    exact ⟨_, _, rfl, by omega, (cell _ _ sW).trans a1, (cell _ _ sW).trans a2, (cell _ _ sW).trans a3⟩
  simp only [Act.put, List.setIfInBounds_toArray, List.set_cons_succ, List.set_cons_zero]
  refine hK _ _ (.inr hC7) ?_
  clear hK K hgr7 hb7 hA hA7 hown7
  refine wpAnyE_ready (rs := [8]) (by kernel_rfl) (by simp) ?_
  refine AllE.cons rfl (fun K hK => ?_) AllE.nil
  go_simp
  refine hK _ _ (.inr hC7) ?_
  clear hK K
  refine wpAnyE_ready (rs := [9]) (by kernel_rfl) (by simp) ?_
  refine AllE.cons rfl (fun K hK => ?_) AllE.nil
  have kM7 := (hC7.block _ lM).trans kM
  have kR7 := (hC7.block _ (by omega)).trans kR
  obtain ⟨m7, mf7⟩ := one_block kM7
  have y2 := m7 2
  have yf := mf7 2
  go_simp
  refine hK _ _ (.inl rfl) ?_
  clear hK K y2 yf m7 mf7
  refine wpAnyE_done (by kernel_rfl) ⟨rfl, ?_⟩ _
  have kM8 : (w7.setCell ⟨w.heap.size + 1, 2, none⟩ (.slice (some ⟨g7, 0, none⟩) 1 cap7)).heap[w.heap.size + 1]? = some (.cells #[.int .u32 7, .int .u32 9, .slice (some ⟨g7, 0, none⟩) 1 cap7] 25 (0, 0)) := by simp [World.setCell, Array.getElem?_modify, kM7]
  have kR8 : (w7.setCell ⟨w.heap.size + 1, 2, none⟩ (.slice (some ⟨g7, 0, none⟩) 1 cap7)).heap[w.heap.size]? = some (.cells #[.int .u32 0, .int .u32 0, .slice none 0 0] 25 (0, 0)) := (Below.heap_setCell _ _ _ _ (by simp)).trans kR7
  have hBw : Below w.heap.size w (w7.setCell ⟨w.heap.size + 1, 2, none⟩ (.slice (some ⟨g7, 0, none⟩) 1 cap7)) := (hB0.trans (hC7.mono hB0.size)).setCell (by simp) _
  have HV8 : Hid (InstsV (((((w7.setCell ⟨w.heap.size + 1, 2, none⟩ (.slice (some ⟨g7, 0, none⟩) 1 cap7)).setCell ⟨w.heap.size, 0, none⟩ (.int .u32 7)).setCell ⟨w.heap.size, 1, none⟩ (.int .u32 9)).setCell ⟨w.heap.size, 2, none⟩ (.slice (some ⟨g7, 0, none⟩) 1 cap7))) (some ⟨g7, 0, none⟩) [oneI]) :=
    HVX.out _ (fun k hk => by
      rw [Below.heap_setCell _ _ _ _ (by simp; omega), Below.heap_setCell _ _ _ _ (by simp; omega), Below.heap_setCell _ _ _ _ (by simp; omega), Below.heap_setCell _ _ _ _ (by simp; omega)]) (by simp)
  have hB9 := three_set3 kR8 (.int .u32 7) (.int .u32 9) (.slice (some ⟨g7, 0, none⟩) 1 cap7)
  have hBel := hBw.trans (three_below3 (w7.setCell ⟨w.heap.size + 1, 2, none⟩ (.slice (some ⟨g7, 0, none⟩) 1 cap7)) w.heap.size (.int .u32 7) (.int .u32 9) (.slice (some ⟨g7, 0, none⟩) 1 cap7))
  obtain ⟨mc, _⟩ := one_block kM8
  have m0 := mc 0
  have m1 := mc 1
  have m2 := mc 2
  obtain ⟨rc, rf⟩ := one_block kR8
  have r0 := rc 0
  have r1 := rc 1
  have r2 := rc 2
  have e0 := rf 0
  have e1 := rf 1
  have e2 := rf 2
  have HB9 : Hid _ := hB9
  have HBel : Hid _ := hBel
  clear kM8 kR8 hBw hB9 hBel mc rc rf kM7 kR7 hC0 hC3 hC4 hC5 hC6 hC7 kM kR hB0 HVX
  generalize w7.setCell ⟨w.heap.size + 1, 2, none⟩ (.slice (some ⟨g7, 0, none⟩) 1 cap7) = X at *
  gi_wp2_with fail
  have hB9 := HB9.out
  have hBel := HBel.out
  have hV8 := HV8.out
  clear r0 r1 r2 e0 e1 e2 m0 m1 m2 HB9 HBel HV8
  generalize ((X.setCell _ _).setCell _ _).setCell _ _ = Y at *
  obtain ⟨d, _⟩ := one_block hB9
  have d0 := d 0
  have d1 := d 1
  have d2 := d 2
  refine ⟨.agg #[.int .u32 7, .int .u32 9, .slice (some ⟨g7, 0, none⟩) 1 cap7], by simp [results, Tryz.results23, go_sem, d0, d1, d2], g7, cap7, rfl, hV8, hBel⟩

end Go.Proofs.YtonhnflilfjkbaaGreatDoor

/-
  What Shape and Encode of the package code answer, for every module.
-/
namespace Go.Proofs.YtonhnflilfjkbaaGreatDoor
open Go.RowKit
set_option linter.unusedVariables false
set_option linter.unusedSimpArgs false
set_option maxRecDepth 10000

set_option maxHeartbeats 2000000 in
theorem codeShape_any (gen bound : Int) (a : Option Addr) (n cap : Nat) (l : List InstT) (w : World) (hg0 : 0 ≤ gen) (hg1 : gen < 4294967296) (hb0 : 0 ≤ bound) (hb1 : bound < 4294967296) (hv : InstsV w a l) (hok : InstsOk l) (hl : l.length = n) (hn : 40 * n ≤ 140737488351232) :
    Calls Tryz.prog 21 #[modV gen bound a n cap] w fun e w' => e = .returned (.agg #[.int .i64 (shapeE bound l).1, .int .i64 (shapeE bound l).2]) ∧ Below w.heap.size w w' := by
  have hR := fun wx (hb : Below w.heap.size w wx) => raws_any gen bound a n cap l wx hg0 hg1 hb0 hb1 (hv.below hb) hok hl hn
  generalize (shapeE bound l).1 = e1 at *
  generalize (shapeE bound l).2 = e2 at *
  have HL : Hid (l.length = n) := hl
  unfold modV at *
  clear hv hok hl
  have hB0 : Below w.heap.size w ((w.alloc (.cells #[.int .u32 gen, .int .u32 bound, .slice a n cap] 25)).alloc (.cells #[.int .i64 0, .int .i64 0] 28)) := ((Below.refl _ w).alloc (Nat.le_refl _) _).alloc (by simp) _
  have hC := hR _ hB0
  have kX : ((w.alloc (.cells #[.int .u32 gen, .int .u32 bound, .slice a n cap] 25)).alloc (.cells #[.int .i64 0, .int .i64 0] 28)).heap[w.heap.size + 1]? = some (.cells #[.int .i64 0, .int .i64 0] 28 (0, 0)) := by simpa using alloc_new (w.alloc (.cells #[.int .u32 gen, .int .u32 bound, .slice a n cap] 25)) #[.int .i64 0, .int .i64 0] 28
  have HB0 : Hid _ := hB0
  have HX : Hid _ := kX
  clear hR hB0 kX
  go_enter Tryz.func21, Tryz.ntmps21
  go_wp2_with fail
  have hB0 := HB0.out
  have kX := HX.out
  clear HB0 HX
  generalize (w.alloc (.cells #[.int .u32 gen, .int .u32 bound, .slice a n cap] 25)).alloc (.cells #[.int .i64 0, .int .i64 0] 28) = W0 at *
  refine hC.mono ?_
  rintro e w1 ⟨hb1', ax, cx, m, rfl, hm, _, hV1⟩
  have l0 := (Array.getElem?_eq_some_iff.1 kX).1
  have s1 := hb1'.size
  have hb2 : Below W0.heap.size W0 (w1.alloc (.cells #[.int .i64 e1, .int .i64 e2] 28)) := hb1'.alloc s1 _
  have kX2 := (hb2.block _ l0).trans kX
  obtain ⟨d0, d1, _⟩ := cell_of_two (alloc_new w1 #[.int .i64 e1, .int .i64 e2] 28)
  obtain ⟨hcX, hfX⟩ := one_block kX2
  have c0 := hcX 0
  have c1 := hcX 1
  have f0 := hfX 0
  have f1 := hfX 1
  have hBel := hB0.trans (hb2.mono hB0.size)
  have hB3 := two_put2 kX2 (.int .i64 e1) (.int .i64 e2)
  have hBel2 := hBel.trans ((two_below (w1.alloc (.cells #[.int .i64 e1, .int .i64 e2] 28)) (w.heap.size + 1) (.int .i64 e1) (.int .i64 e2)).mono (by omega))
  have HB3 : Hid _ := hB3
  have HBel2 : Hid _ := hBel2
  have hne : w1.heap.size ≠ w.heap.size + 1 := by omega
  clear hC hb1' hb2 kX kX2 hcX hfX hB0 hBel hB3 hBel2 hV1 hm
  go_wp2
  have hB3 := HB3.out
  have hBel := HBel2.out
  clear HB3 HBel2 c0 c1 f0 f1 d0 d1
  generalize ((w1.alloc _).setCell _ _).setCell _ _ = W at hB3 hBel ⊢
  obtain ⟨hd, _⟩ := one_block hB3
  have d0 := hd 0
  have d1 := hd 1
  refine bodyPost_ret (v := .agg #[.int .i64 e1, .int .i64 e2]) ?_ rfl ⟨rfl, hBel⟩
  simp [results, Tryz.results21, go_sem, d0, d1]

end Go.Proofs.YtonhnflilfjkbaaGreatDoor

/-
  awake of the laws of layer 4 answers true.
-/
namespace Go.Proofs.YtonhnflilfjkbaaGreatDoor
open Go.RowKit Go.Shelf
attribute [local go_sem] Oper.semAt_some
set_option linter.unusedVariables false
set_option linter.unusedSimpArgs false

theorem oneB_shape : shapeE 9 [oneI] = (0, 0) := by decide +kernel
theorem oneI_ok : InstsOk [oneI] := by
  intro j hj
  obtain rfl : j = 0 := by simp at hj; exact hj
  refine ⟨by decide, by decide, by decide, by decide, by decide, by decide, ?_, by decide⟩
  intro k hk
  have hk2 : k < 2 := hk
  match k, hk2 with
  | 0, _ => exact ⟨by decide, by decide, by decide, by decide, by decide⟩
  | 1, _ => exact ⟨by decide, by decide, by decide, by decide, by decide⟩

end Go.Proofs.YtonhnflilfjkbaaGreatDoor

/-
  Plain facts on the layer lex: kinds of bytes, numbers in digits, runs. No condition but what each names.
-/
namespace Go.Proofs.YtonhnflilfjkbaaGreatDoor
open Go.RowKit

/-- Letters, digits, blanks, bytes of a run, digits to the base 16. -/
def letterB (c : Int) : Bool := c == 95 || decide (65 ≤ c ∧ c ≤ 90) || decide (97 ≤ c ∧ c ≤ 122)
def digitB (c : Int) : Bool := decide (48 ≤ c ∧ c ≤ 57)
def blankB (c : Int) : Bool := c == 9 || c == 13 || c == 32
def runB (c : Int) : Bool := letterB c || digitB c
def hexB (c : Int) : Bool := digitB c || decide (97 ≤ c ∧ c ≤ 102) || decide (65 ≤ c ∧ c ≤ 70)
def printB (c : Int) : Bool := decide (32 ≤ c ∧ c ≤ 126)
/-- What a digit is worth. -/
def worthI (c : Int) : Int := if c ≤ 57 then c - 48 else if 97 ≤ c then c - 87 else c - 55
/-- .. of another byte more than any digit. -/
def dvI (c : Int) : Int := if hexB c then worthI c else 18446744073709551615
/-- A byte's kind, as the code numbers them. -/
def kindL (c : Int) : Int := if letterB c then 3 else if digitB c then 4 else if blankB c then 2 else if c = 37 then 5 else if c = 45 then 6 else if c = 34 then 7 else if c = 92 then 8 else if c = 61 then 9 else if c = 59 then 10 else 1

theorem worth_lo {c : Int} (h : hexB c = true) : 0 ≤ worthI c := by
  simp only [hexB, digitB, Bool.or_eq_true, decide_eq_true_eq] at h
  unfold worthI; split
  · omega
  · split <;> omega
theorem worth_hi {c : Int} (h : hexB c = true) : worthI c < 16 := by
  simp only [hexB, digitB, Bool.or_eq_true, decide_eq_true_eq] at h
  unfold worthI; split
  · omega
  · split <;> omega
theorem dv_lo (c : Int) : 0 ≤ dvI c := by
  unfold dvI; split
  · exact worth_lo (by assumption)
  · omega
theorem dv_hi (c : Int) : dvI c < 18446744073709551616 := by
  unfold dvI; split
  · have := worth_hi (c := c) (by assumption); omega
  · omega
theorem dv_hex (c : Int) : dvI c < 16 ↔ hexB c = true := by
  unfold dvI; split
  · have := worth_hi (c := c) (by assumption)
    constructor
    · intro _; assumption
    · intro _; omega
  · constructor
    · intro h; omega
    · intro h; contradiction
theorem digit_hex {c : Int} (h : digitB c = true) : hexB c = true := by simp [hexB, h]
theorem dv_digit (c : Int) : dvI c < 10 ↔ digitB c = true := by
  unfold dvI; split
  · rename_i h
    simp only [hexB, digitB, Bool.or_eq_true, decide_eq_true_eq] at h ⊢
    unfold worthI; split
    · constructor <;> intro _ <;> omega
    · split <;> constructor <;> intro _ <;> omega
  · rename_i h
    constructor
    · intro h; omega
    · intro h'; exact absurd (digit_hex h') h

/-! ### numbers in digits -/

/-- What digits say to a base, behind a number. -/
def valF (b : Int) : Int → List Int → Int
  | n, [] => n
  | n, c :: r => valF b (n * b + dvI c) r
/-- Digits to a base. -/
def allD (b : Int) (l : List Int) : Bool := l.all fun c => decide (dvI c < b)

theorem valF_snoc (b n : Int) (l : List Int) (c : Int) : valF b n (l ++ [c]) = valF b n l * b + dvI c := by
  induction l generalizing n with
  | nil => rfl
  | cons x l ih => simp only [List.cons_append, valF]; exact ih _
theorem valF_take (b : Int) (l : List Int) (k : Nat) (h : k < l.length) : valF b 0 (l.take (k + 1)) = valF b 0 (l.take k) * b + dvI (nth l k) := by
  rw [take_snoc l k h, valF_snoc]
theorem valF_ge (b n : Int) (l : List Int) (hb : 1 ≤ b) (hn : 0 ≤ n) : n ≤ valF b n l := by
  induction l generalizing n with
  | nil => exact Int.le_refl _
  | cons c l ih =>
    have h0 := dv_lo c
    have h1 : n * 1 ≤ n * b := Int.mul_le_mul_of_nonneg_left hb hn
    have := ih (n * b + dvI c) (by omega)
    simp only [valF]; omega
theorem valF_lo (b : Int) (l : List Int) (hb : 1 ≤ b) : 0 ≤ valF b 0 l := valF_ge b 0 l hb (Int.le_refl _)
theorem valF_append (b n : Int) (l m : List Int) : valF b n (l ++ m) = valF b (valF b n l) m := by
  induction l generalizing n with
  | nil => rfl
  | cons x l ih => simp only [List.cons_append, valF]; exact ih _
theorem valF_take_le (b : Int) (l : List Int) (k : Nat) (hb : 1 ≤ b) : valF b 0 (l.take k) ≤ valF b 0 l := by
  have e : l = l.take k ++ l.drop k := (List.take_append_drop k l).symm
  have h := valF_ge b (valF b 0 (l.take k)) (l.drop k) hb (valF_lo b _ hb)
  rw [← valF_append, ← e] at h
  exact h
/-- Below the base to the power of how many there are. -/
theorem valF_lt (b : Int) (l : List Int) (hb : 1 ≤ b) (h : allD b l = true) (n : Int) (j : Nat) (hn : n < b ^ j) : valF b n l < b ^ (j + l.length) := by
  induction l generalizing n j with
  | nil => simpa [valF] using hn
  | cons c l ih =>
    simp only [allD, List.all_cons, Bool.and_eq_true, decide_eq_true_eq] at h
    have h1 : (n + 1) * b ≤ b ^ j * b := Int.mul_le_mul_of_nonneg_right (by omega) (by omega)
    have e : (n + 1) * b = n * b + b := by rw [Int.add_mul]; omega
    have := ih h.2 (n * b + dvI c) (j + 1) (by rw [Int.pow_succ]; omega)
    simp only [valF, List.length_cons]
    rw [show j + (l.length + 1) = j + 1 + l.length by omega]
    exact this
theorem valF_pow (b n : Int) (l : List Int) (hb : 1 ≤ b) (hn : 0 ≤ n) : n * b ^ l.length ≤ valF b n l := by
  induction l generalizing n with
  | nil => simp [valF]
  | cons c l ih =>
    have h0 := dv_lo c
    have hm : 0 ≤ n * b := Int.mul_nonneg hn (by omega)
    have h1 := ih (n * b + dvI c) (by omega)
    have h2 : n * b * b ^ l.length ≤ (n * b + dvI c) * b ^ l.length := Int.mul_le_mul_of_nonneg_right (by omega) (Int.le_of_lt (Int.pow_pos (by omega)))
    simp only [valF, List.length_cons, Int.pow_succ]
    have e : n * (b ^ l.length * b) = n * b * b ^ l.length := by rw [Int.mul_comm (b ^ l.length) b, Int.mul_assoc]
    omega

/-- The digits to a base that say a number below 2^32. -/
def digsB (b : Int) (l : List Int) : Bool := !l.isEmpty && allD b l && decide (valF b 0 l < 4294967296)
/-- A plain number. -/
def plainB (l : List Int) : Bool := !(decide (1 < l.length) && nth l 0 == 48) && digsB 10 l

theorem allD_at {b : Int} {l : List Int} (h : allD b l = true) {k : Nat} (hk : k < l.length) : dvI (nth l k) < b := by
  simp only [allD, List.all_eq_true, decide_eq_true_eq] at h
  have e : nth l k = l[k] := by simp [nth, List.getD, hk]
  rw [e]; exact h _ (List.getElem_mem hk)
theorem allD_snoc {b : Int} {l : List Int} {k : Nat} (hk : k < l.length) (h : allD b (l.take k) = true) (h1 : dvI (nth l k) < b) : allD b (l.take (k + 1)) = true := by
  rw [take_snoc l k hk]
  simp only [allD, List.all_append, Bool.and_eq_true] at h ⊢
  exact ⟨h, by simpa using h1⟩
theorem digs_not {b : Int} {l : List Int} {k : Nat} (hk : k < l.length) (h1 : b ≤ dvI (nth l k)) : digsB b l = false := by
  cases e : digsB b l
  · rfl
  · simp only [digsB, Bool.and_eq_true] at e
    have := allD_at e.1.2 hk
    omega
theorem digs_large {b : Int} {l : List Int} {k : Nat} (hb : 1 ≤ b) (h1 : 4294967296 ≤ valF b 0 (l.take k)) : digsB b l = false := by
  cases e : digsB b l
  · rfl
  · simp only [digsB, Bool.and_eq_true, decide_eq_true_eq] at e
    have := valF_take_le b l k hb
    omega
theorem digs_all {b : Int} {l : List Int} (h : allD b l = true) (h1 : valF b 0 l < 4294967296) : digsB b l = !l.isEmpty := by
  simp [digsB, h, h1]
theorem plain_zero {l : List Int} (h : 1 < l.length) (h0 : nth l 0 = 48) : plainB l = false := by simp [plainB, h, h0]
theorem plain_digs {l : List Int} (h : ¬ (1 < l.length ∧ nth l 0 = 48)) : plainB l = digsB 10 l := by
  have e : (decide (1 < l.length) && nth l 0 == 48) = false := by
    cases e : (decide (1 < l.length) && nth l 0 == 48)
    · rfl
    · simp at e; exact absurd e h
  rw [plainB, e]; rfl
/-- More than ten digits, the first not 0: 2^32 or more. -/
theorem plain_long {l : List Int} (h : 10 < l.length) : plainB l = false := by
  cases e : plainB l
  · rfl
  · match l, h with
    | c :: r, h =>
      simp only [plainB, digsB, Bool.and_eq_true, decide_eq_true_eq, Bool.not_eq_true'] at e
      obtain ⟨e1, ⟨_, e3⟩, e4⟩ := e
      have hc : dvI c < 10 := by have := allD_at e3 (k := 0) (by simp); exact this
      have hd := (dv_digit c).1 hc
      have hne : c ≠ 48 := by
        intro hc; subst hc
        have : decide (1 < (48 :: r).length) = true := decide_eq_true (by simp at h ⊢; omega)
        rw [this] at e1
        simp [nth] at e1
      have h1 : 1 ≤ dvI c := by
        have := digit_hex hd
        simp only [digitB, decide_eq_true_eq] at hd
        unfold dvI worthI; rw [if_pos this, if_pos (by omega)]; omega
      have h2 := valF_pow 10 (0 * 10 + dvI c) r (by omega) (by omega)
      have e5 : valF 10 0 (c :: r) = valF 10 (0 * 10 + dvI c) r := rfl
      have h3 : (10 : Int) ^ 10 ≤ 10 ^ r.length := by
        have hl : 10 ≤ r.length := by simp at h; omega
        obtain ⟨m, hm⟩ : ∃ m, r.length = 10 + m := ⟨r.length - 10, by omega⟩
        rw [hm, Int.pow_add]
        have h0 : (0 : Int) < 10 ^ m := Int.pow_pos (by decide)
        have : (1 : Int) ≤ 10 ^ m := by omega
        have := Int.mul_le_mul_of_nonneg_left this (show (0 : Int) ≤ 10 ^ 10 by decide)
        omega
      have h4 : 1 * (10 : Int) ^ r.length ≤ (0 * 10 + dvI c) * 10 ^ r.length := Int.mul_le_mul_of_nonneg_right (by omega) (Int.le_of_lt (Int.pow_pos (by decide)))
      omega

/-- A number's text, and what it says. -/
def numB (l : List Int) : Bool :=
  if l.take 1 = [45] then plainB (l.drop 1) && decide (1 ≤ valF 10 0 (l.drop 1) ∧ valF 10 0 (l.drop 1) ≤ 2147483648)
  else if l.take 2 = [48, 120] then digsB 16 (l.drop 2) && decide (l.length ≤ 10)
  else plainB l
def numV (l : List Int) : Int :=
  if l.take 1 = [45] then 4294967296 - valF 10 0 (l.drop 1)
  else if l.take 2 = [48, 120] then valF 16 0 (l.drop 2)
  else valF 10 0 l
/-- What Number answers. -/
def numOut (l : List Int) : Int := if numB l then numV l else 0
def numErr (l : List Int) : Int := if numB l then 0 else 62

/-! ### strings and their numbers -/

theorem strI_inj {s t : ByteArray} (h : strI s = strI t) : s = t := by rw [← str_of_strI s, ← str_of_strI t, h]
theorem strI_of {l : List Int} (h : Within 256 l) : strI (strOfNums l) = l := by
  unfold strI strOfNums
  simp only [List.map_map]
  apply List.ext_getElem (by simp)
  intro k h1 h2
  simp only [List.getElem_map, Function.comp_def]
  have := h (l[k]) (List.getElem_mem h2)
  have hlt : l[k].toNat < 256 := by omega
  rw [UInt8.toNat_ofNat_of_lt' (by simpa using hlt)]
  omega
theorem strI_extract (s : ByteArray) (a b : Nat) : strI (s.extract a b) = ((strI s).take b).drop a := by
  unfold strI
  rw [ByteArray.data_extract]
  simp [List.map_drop, List.map_take, List.extract_eq_take_drop, List.drop_take]
theorem strOfNums_append (a b : List Int) : strOfNums (a ++ b) = strOfNums a ++ strOfNums b := by
  unfold strOfNums
  apply ByteArray.ext
  rw [ByteArray.data_append]; simp

end Go.Proofs.YtonhnflilfjkbaaGreatDoor
