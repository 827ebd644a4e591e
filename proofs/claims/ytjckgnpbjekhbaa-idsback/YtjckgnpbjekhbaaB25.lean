/-
  Texts laid together in one: LawIdsBack.
-/
import Derived.WalkSpells
import Derived.WalkMore
import Derived.BigRegion
import Derived.Deep.RegionHeld2
import Derived.Test.YtjckgnpbjekhbaaProg
import Derived.Test.YtjckgnpbjekhbaaB20
import Derived.Test.YtjckgnpbjekhbaaB22
import Derived.Test.YtjckgnpbjekhbaaB24
import Derived.Test.YtjckgnpbjekhbaaB01
import Derived.Test.YtjckgnpbjekhbaaB02
import Derived.Test.YtjckgnpbjekhbaaB17
import Derived.Test.YtjckgnpbjekhbaaB09
/-
  IdsBack is true for every module and every list.
-/
namespace Go.Proofs.Ytjckgnpbjekhbaa
open Go.RowKit
set_option linter.unusedVariables false
set_option linter.unusedSimpArgs false
set_option maxRecDepth 10000

def oneB : List InstT := [(20, 0, 1, [])]
theorem oneB_ok : InstsOk oneB := fun j hj => by
  obtain rfl : j = 0 := by simp [oneB] at hj; exact hj
  exact ⟨by decide, by decide, by decide, by decide, by decide, by decide, argsOk_nil, by decide⟩
theorem oneB_shape : shapeE ((2 : Nat) : Int) oneB = (0, 0) := by decide +kernel
theorem within01 : Within 4294967296 [0, 1] := fun z hz => by simp at hz; rcases hz with rfl | rfl <;> decide
theorem way01 : IsWay [0, 1] ((2 : Nat) : Int) := ⟨rfl, rfl, by decide, by decide⟩
theorem oneB_turn : turnL (fW [0, 1]) oneB = oneB := rfl
theorem blocks5 (w : World) (o0 o1 o2 o3 o4 : Obj) : (((((w.alloc o0).alloc o1).alloc o2).alloc o3).alloc o4).heap[w.heap.size]? = some o0 ∧ (((((w.alloc o0).alloc o1).alloc o2).alloc o3).alloc o4).heap[w.heap.size + 1]? = some o1 ∧ (((((w.alloc o0).alloc o1).alloc o2).alloc o3).alloc o4).heap[w.heap.size + 1 + 1]? = some o2 ∧ (((((w.alloc o0).alloc o1).alloc o2).alloc o3).alloc o4).heap[w.heap.size + 1 + 1 + 1]? = some o3 ∧ (((((w.alloc o0).alloc o1).alloc o2).alloc o3).alloc o4).heap[w.heap.size + 1 + 1 + 1 + 1]? = some o4 ∧ Below w.heap.size w (((((w.alloc o0).alloc o1).alloc o2).alloc o3).alloc o4) := by
  refine ⟨?_, ?_, ?_, ?_, ?_, ((((Below.refl _ w).alloc (Nat.le_refl _) _).alloc (by simp) _).alloc (by simp; omega) _ |>.alloc (by simp; omega) _).alloc (by simp; omega) _⟩
  · rw [Below.heap_alloc _ _ _ (by simp; omega), Below.heap_alloc _ _ _ (by simp; omega), Below.heap_alloc _ _ _ (by simp; omega), Below.heap_alloc _ _ _ (by simp)]; exact heap_alloc_new _ _
  · rw [Below.heap_alloc _ _ _ (by simp), Below.heap_alloc _ _ _ (by simp), Below.heap_alloc _ _ _ (by simp)]; have := heap_alloc_new (w.alloc o0) o1; simpa using this
  · rw [Below.heap_alloc _ _ _ (by simp), Below.heap_alloc _ _ _ (by simp)]; have := heap_alloc_new ((w.alloc o0).alloc o1) o2; simpa using this
  · rw [Below.heap_alloc _ _ _ (by simp)]; have := heap_alloc_new (((w.alloc o0).alloc o1).alloc o2) o3; simpa using this
  · have := heap_alloc_new ((((w.alloc o0).alloc o1).alloc o2).alloc o3) o4; simpa using this
theorem blocks2 (w : World) (o0 o1 : Obj) : ((w.alloc o0).alloc o1).heap[w.heap.size]? = some o0 ∧ ((w.alloc o0).alloc o1).heap[w.heap.size + 1]? = some o1 ∧ Below w.heap.size w ((w.alloc o0).alloc o1) := by
  refine ⟨?_, ?_, ((Below.refl _ w).alloc (Nat.le_refl _) _).alloc (by simp) _⟩
  · rw [Below.heap_alloc _ _ _ (by simp)]; exact heap_alloc_new _ _
  · have := heap_alloc_new (w.alloc o0) o1; simpa using this
theorem oneB_view {w : World} {b T : Nat} (h : w.heap[b]? = some (.cells #[.int .u16 20, .int .u32 0, .int .u32 1, .slice none 0 0] T (0, 0))) : InstsV w (some ⟨b, 0, none⟩) oneB := fun j hj => by
  obtain rfl : j = 0 := by simp [oneB] at hj; exact hj
  have hc := (one_block h).1
  exact ⟨b, 0, none, 0, 0, rfl, (Array.getElem?_eq_some_iff.1 h).1, by rw [hc]; rfl, by rw [hc]; rfl, by rw [hc]; rfl, by rw [hc]; rfl, rfl, argsV_nil, Nat.le_refl _⟩
theorem view01 {w : World} {b T : Nat} (h : w.heap[b]? = some (.cells #[.int .u32 0, .int .u32 1] T (0, 0))) : View .u32 w (some ⟨b, 0, none⟩) [0, 1] := fun j hj => by
  have hc := (one_block h).1
  have hb := (Array.getElem?_eq_some_iff.1 h).1
  rcases (show j = 0 ∨ j = 1 by simp at hj; omega) with rfl | rfl
  · exact ⟨b, 0, rfl, hb, by rw [hc]; rfl⟩
  · exact ⟨b, 0, rfl, hb, by rw [hc]; rfl⟩

theorem growB {W w w' : World} (h : Below W.heap.size W w) (hb : Below w.heap.size w w') : Below W.heap.size W w' := h.trans (hb.mono h.size)
/-- What stands while the law goes on: the boxes of m and x, and what they and to hold. -/
structure BkB (w W : World) (gen : Int) (N : Nat) (a : Option Addr) (n c : Nat) (l : List InstT) (X : Nat) (a3 : Option Addr) (n3 c3 : Nat) (L : List InstT) (ta : Option Addr) (zs : List Int) : Prop where
  mbox : W.heap[w.heap.size]? = some (.cells #[.int .u32 gen, .int .u32 (N : Int), .slice a n c] 25 (0, 0))
  xbox : W.heap[X]? = some (.cells #[.int .u32 gen, .int .u32 (N : Int), .slice a3 n3 c3] 25 (0, 0))
  lv : InstsV W a l
  xv : InstsV W a3 L
  tv : View .u32 W ta zs
  bel : Below w.heap.size w W
theorem BkB.below {w W W' : World} {gen : Int} {N : Nat} {a : Option Addr} {n c : Nat} {l : List InstT} {X : Nat} {a3 : Option Addr} {n3 c3 : Nat} {L : List InstT} {ta : Option Addr} {zs : List Int} (h : BkB w W gen N a n c l X a3 n3 c3 L ta zs) (hb : Below W.heap.size W W') : BkB w W' gen N a n c l X a3 n3 c3 L ta zs :=
  ⟨(hb.block _ (Array.getElem?_eq_some_iff.1 h.mbox).1).trans h.mbox, (hb.block _ (Array.getElem?_eq_some_iff.1 h.xbox).1).trans h.xbox, h.lv.below hb, h.xv.below hb, h.tv.below hb, h.bel.trans (hb.mono h.bel.size)⟩

set_option maxHeartbeats 8000000 in
theorem idsBack_bad (w : World) (gen : Int) (N : Nat) (a : Option Addr) (n c : Nat) (l : List InstT) (hl : l.length = n) (hv : InstsV w a l) (hok : InstsOk l) (hn : 40 * n ≤ 140737488351232) (ta : Option Addr) (tn tc : Nat) (zs : List Int) (tl : zs.length = tn) (tv : View .u32 w ta zs) (tr : 4 * tn ≤ 140737488351232)
    (E1 E2 : Int) (hE : (E1 != 0) = true)
    (hIds : ∀ wx g tg, InstsV wx (some ⟨g, 0, none⟩) l → View .u32 wx (some ⟨tg, 0, none⟩) zs → Calls Try.prog 9 #[.agg #[.int .u32 gen, .int .u32 (N : Int), .slice (some ⟨g, 0, none⟩) n n], .slice (some ⟨tg, 0, none⟩) tn tn] wx fun e w' => ∃ a' n' c', e = .returned (.tuple #[.agg #[.int .u32 0, .int .u32 0, .slice a' n' c'], .agg #[.int .i64 E1, .int .i64 E2]]) ∧ ([] : List InstT).length = n' ∧ InstsV w' a' ([] : List InstT) ∧ Below wx.heap.size wx w') :
    Calls Try.prog 4 #[.agg #[.int .u32 gen, .int .u32 (N : Int), .slice a n c], .slice ta tn tc] w fun e w' => e = .returned (.bool true) ∧ Below w.heap.size w w' := by
  have HCP := hide fun wx (h : InstsV wx a l) => copyModule_any gen (N : Int) a n c l wx h hok hl hn
  have HCW := hide fun wx (h : View .u32 wx ta zs) => copyWords_any ta tn tc zs wx h tl tr
  have HID := hide hIds
  have HON := hide fun wx g tg (h1 : InstsV wx (some ⟨g, 0, none⟩) oneB) (h2 : View .u32 wx (some ⟨tg, 0, none⟩) [0, 1]) => idsRename_ok 0 2 (some ⟨g, 0, none⟩) 1 1 oneB (some ⟨tg, 0, none⟩) 2 2 [0, 1] wx h1 oneB_ok rfl (by decide) (by decide) (by decide) (by decide) h2 rfl within01 (by decide) oneB_shape way01
  have HKO := hide fun wx ax bx (h1 : InstsV wx ax oneB) (h2 : InstsV wx bx oneB) => kitModule_any 0 2 0 2 oneB oneB ax bx 1 1 1 1 wx h1 h2 rfl rfl oneB_ok oneB_ok (by decide) (by decide) true (by simp)
  unfold modV at *
  have HV := hide hv
  have HTV := hide tv
  have HTL := hide tl
  have HL := hide hl
  have hba : Below w.heap.size w (w.alloc (.cells #[.int .u32 gen, .int .u32 (N : Int), .slice a n c] 25)) := (Below.refl _ w).alloc (Nat.le_refl _) _
  have HM0 := hide (heap_alloc_new w (.cells #[.int .u32 gen, .int .u32 (N : Int), .slice a n c] 25))
  have hcp := HCP.out _ (hv.below hba)
  have HBA := hide hba
  have HLW : Hid ((w.alloc (.cells #[.int .u32 gen, .int .u32 (N : Int), .slice a n c] 25)).heap.size = w.heap.size + 1) := by show _ = _; simp
  clear hv hIds hba hok tv hl tl
  go_enter Try.func4, Try.ntmps4
  go_wp2_with fail
  generalize w.alloc (.cells #[.int .u32 gen, .int .u32 (N : Int), .slice a n c] 25) = W0 at *
  refine hcp.mono ?_
  rintro e w1 ⟨g1, rfl, hg1, hv1, hb1⟩
  have HB01 := hide (HBA.out.trans (hb1.mono HBA.out.size))
  have HV1 := hide hv1
  have HM1 := hide ((hb1.block w.heap.size (by rw [HLW.out]; omega)).trans HM0.out)
  have hcw := HCW.out _ (HTV.out.below HB01.out)
  clear hcp hb1 hv1 hg1 HCW HBA HM0
  go_wp2_with fail
  refine hcw.mono ?_
  rintro e w2 ⟨rfl, hown2, hb2⟩
  have hid := HID.out w2 g1 w1.heap.size (HV1.out.below hb2) (View.ofOwn hown2 HTL.out)
  have HB02 := hide (HB01.out.trans (hb2.mono HB01.out.size))
  have HM2 := hide ((hb2.block w.heap.size (Array.getElem?_eq_some_iff.1 HM1.out).1).trans HM1.out)
  clear hcw hown2 hb2 HM1 HB01 HV1
  go_wp2_with fail
  refine hid.mono ?_
  rintro e w3 ⟨a3, n3, c3, rfl, hn3, hv3, hb3⟩
  have HB03 := hide (HB02.out.trans (hb3.mono HB02.out.size))
  have HM3 := hide ((hb3.block w.heap.size (Array.getElem?_eq_some_iff.1 HM2.out).1).trans HM2.out)
  have HV3 := hide hv3
  have HN3 := hide hn3
  clear hid hb3 hv3 hn3 HM2 HB02
  go_wp2_with fail
  obtain ⟨k0, k1, k2, k3, k4, hba3⟩ := blocks5 w3 (.cells #[.int .u32 0, .int .u32 0, .slice a3 n3 c3] 25) (.cells #[.int .i64 E1, .int .i64 E2] 31) (.cells #[.int .u16 20, .int .u32 0, .int .u32 1, .slice none 0 0] 38) (.cells #[.int .u32 0, .int .u32 2, .slice (some ⟨w3.heap.size + 1 + 1, 0, none⟩) 1 1] 25) (.cells #[.int .u32 0, .int .u32 1] 22)
  generalize ((((w3.alloc (.cells #[.int .u32 0, .int .u32 0, .slice a3 n3 c3] 25)).alloc (.cells #[.int .i64 E1, .int .i64 E2] 31)).alloc (.cells #[.int .u16 20, .int .u32 0, .int .u32 1, .slice none 0 0] 38)).alloc (.cells #[.int .u32 0, .int .u32 2, .slice (some ⟨w3.heap.size + 1 + 1, 0, none⟩) 1 1] 25)).alloc (.cells #[.int .u32 0, .int .u32 1] 22) = W3 at *
  have hon := HON.out W3 (w3.heap.size + 1 + 1) (w3.heap.size + 1 + 1 + 1 + 1) (oneB_view k2) (view01 k4)
  refine hon.mono ?_
  rintro e w4 ⟨g4, rfl, _, hr4, hb4⟩
  obtain ⟨j0, j1, hba4⟩ := blocks2 w4 (.cells #[.int .u32 0, .int .u32 2, .slice (some ⟨g4, 0, none⟩) 1 1] 25) (.cells #[.int .i64 0, .int .i64 0] 31)
  have hb34 := hb4.trans (hba4.mono hb4.size)
  have HB04 := hide (HB03.out.trans ((hba3.trans (hb34.mono hba3.size)).mono HB03.out.size))
  have z0 := (hb34.block _ (Array.getElem?_eq_some_iff.1 k0).1).trans k0
  have z1 := (hb34.block _ (Array.getElem?_eq_some_iff.1 k1).1).trans k1
  have z2 := (hb34.block _ (Array.getElem?_eq_some_iff.1 k2).1).trans k2
  have z3 := (hb34.block _ (Array.getElem?_eq_some_iff.1 k3).1).trans k3
  have zM := ((hba3.trans (hb34.mono hba3.size)).block _ (Array.getElem?_eq_some_iff.1 HM3.out).1).trans HM3.out
  have hko := HKO.out _ (some ⟨g4, 0, none⟩) (some ⟨w3.heap.size + 1 + 1, 0, none⟩) ((by have := hr4.view (by rw [turnL_len]; rfl); rw [oneB_turn] at this; exact this : InstsV w4 _ oneB).below hba4) (oneB_view z2)
  have HV4 := hide (HV3.out.below (hba3.trans (hb34.mono hba3.size)))
  have HZ := hide (And.intro z0 (And.intro z1 zM))
  have y0 := (one_block j0).1 0
  have y1 := (one_block j0).1 1
  have y2 := (one_block j0).1 2
  obtain ⟨t0, t1, _⟩ := cell_of_two j1
  have x0 := (one_block z3).1 0
  have x1 := (one_block z3).1 1
  have x2 := (one_block z3).1 2
  clear k0 k1 k2 k3 k4 hba3 hon hr4 hb4 j0 j1 hba4 hb34 z0 z1 z2 z3 zM HON HKO HM3 HV3 HB03 HCP
  go_wp2_with fail
  generalize (w4.alloc (.cells #[.int .u32 0, .int .u32 2, .slice (some ⟨g4, 0, none⟩) 1 1] 25)).alloc (.cells #[.int .i64 0, .int .i64 0] 31) = W4 at *
  refine hko.mono ?_
  rintro e w5 ⟨rfl, hb5⟩
  have HB05 := hide (HB04.out.trans (hb5.mono HB04.out.size))
  have HV5 := hide (HV4.out.below hb5)
  obtain ⟨z0, z1, zM⟩ := HZ.out
  have u0 := (hb5.block _ (Array.getElem?_eq_some_iff.1 z0).1).trans z0
  have u1 := (hb5.block _ (Array.getElem?_eq_some_iff.1 z1).1).trans z1
  have uM := (hb5.block _ (Array.getElem?_eq_some_iff.1 zM).1).trans zM
  have HU := hide (And.intro u0 (And.intro u1 uM))
  obtain ⟨s0, s1, _⟩ := cell_of_two u1
  clear hko hb5 z0 z1 zM HZ HV4 HB04 y0 y1 y2 t0 t1 x0 x1 x2
  have x0 := (one_block u0).1 0
  have x1 := (one_block u0).1 1
  have x2 := (one_block u0).1 2
  obtain rfl : n3 = 0 := HN3.out.symm
  have hno := kitNone_none a3 c3 w5
  unfold modV at hno
  clear u0 u1 uM
  go_wp2_with fail
  refine hno.mono ?_
  rintro e w6 ⟨rfl, hb6⟩
  clear hno x0 x1 x2
  go_wp2_with fail
  go_ret
  exact ⟨rfl, HB05.out.trans (hb6.mono HB05.out.size)⟩

set_option maxHeartbeats 8000000 in
theorem idsBack_good (w : World) (gen : Int) (N : Nat) (a : Option Addr) (n c : Nat) (l : List InstT) (hl : l.length = n) (hv : InstsV w a l) (hok : InstsOk l) (hn : 40 * n ≤ 140737488351232) (ta : Option Addr) (tn tc : Nat) (zs : List Int) (tl : zs.length = tn) (tv : View .u32 w ta zs) (tr : 4 * tn ≤ 140737488351232)
    (L : List InstT) (gg0 : 0 ≤ gen) (gg1 : gen < 4294967296) (hok2 : InstsOk L) (hs : (shapeE (N : Int) l).1 = 0) (tw : Within 4294967296 zs) (hway : IsWay zs (N : Int)) (hL : L = turnL (fW zs) l)
    (hIds : ∀ wx g tg, InstsV wx (some ⟨g, 0, none⟩) l → View .u32 wx (some ⟨tg, 0, none⟩) zs → Calls Try.prog 9 #[.agg #[.int .u32 gen, .int .u32 (N : Int), .slice (some ⟨g, 0, none⟩) n n], .slice (some ⟨tg, 0, none⟩) tn tn] wx fun e w' => ∃ a' n' c', e = .returned (.tuple #[.agg #[.int .u32 gen, .int .u32 (N : Int), .slice a' n' c'], .agg #[.int .i64 0, .int .i64 0]]) ∧ L.length = n' ∧ InstsV w' a' L ∧ Below wx.heap.size wx w') :
    Calls Try.prog 4 #[.agg #[.int .u32 gen, .int .u32 (N : Int), .slice a n c], .slice ta tn tc] w fun e w' => e = .returned (.bool true) ∧ Below w.heap.size w w' := by
  have hWF := way_wayF hok hs tw hway
  have hsb := shape_bound hs
  have hs2 : shapeE (N : Int) L = (0, 0) := by rw [hL]; exact shape_turn hs hWF (by omega) (by omega)
  have hLn : L.length = n := by rw [hL, turnL_len, hl]
  have htN : tn = N := by have := hway.1; omega
  have hN0 : 0 < N ∧ N < 4294967296 := by omega
  have HCX := hide fun wx a3 c3 (h : InstsV wx a3 L) => copyModule_any gen (N : Int) a3 n c3 L wx h hok2 hLn hn
  have HCP2 := hide fun wx (h : InstsV wx a l) => copyModule_any gen (N : Int) a n c l wx h hok hl hn
  have HRE : Hid (∀ wx g b, InstsV wx (some ⟨g, 0, none⟩) L → View .u32 wx (some ⟨b, 0, none⟩) (bkL zs tn tn) → Calls Try.prog 9 #[.agg #[.int .u32 gen, .int .u32 (N : Int), .slice (some ⟨g, 0, none⟩) n n], .slice (some ⟨b, 0, none⟩) tn tn] wx fun e w' => ∃ g', e = .returned (.tuple #[.agg #[.int .u32 gen, .int .u32 (N : Int), .slice (some ⟨g', 0, none⟩) n n], .agg #[.int .i64 0, .int .i64 0]]) ∧ InstsV w' (some ⟨g', 0, none⟩) l ∧ Below wx.heap.size wx w') := by
    subst htN
    intro wx g b h1 h2
    refine (idsRename_ok gen tn (some ⟨g, 0, none⟩) n n L (some ⟨b, 0, none⟩) tn tn (bkL zs tn tn) wx h1 hok2 hLn hn gg0 gg1 hN0.2 h2 (bkL_len _ _ _) (fun z hz => by have := bk_within hN0.1 hN0.2 tn (Nat.le_refl _) z hz; omega) tr hs2 (bk_way tw hway hN0.1 hN0.2)).mono ?_
    rintro e w' ⟨g', rfl, _, hr, hb⟩
    refine ⟨g', rfl, ?_, hb⟩
    have := hr.view (by rw [turnL_len]; exact hLn)
    rw [hL, turn_back hok hs tw hway] at this
    exact this
  have HKM := hide fun wx g (h1 : InstsV wx (some ⟨g, 0, none⟩) l) (h2 : InstsV wx a l) => kitModule_any gen (N : Int) gen (N : Int) l l (some ⟨g, 0, none⟩) a n n n c wx h1 h2 hl hl hok hok (by omega) (by omega) true (by simp)
  have hie : idsE (N : Int) L = idsE (N : Int) l := by rw [hL]; exact ids_turn hok hs hWF (by omega) (by omega)
  have HCKX : Hid (∀ wx g, InstsV wx (some ⟨g, 0, none⟩) L → Calls Try.prog 13 #[.agg #[.int .u32 gen, .int .u32 (N : Int), .slice (some ⟨g, 0, none⟩) n n]] wx fun e w' => e = .returned (.agg #[.int .i64 (idsE (N : Int) l).1, .int .i64 ((idsE (N : Int) l).2 : Int)]) ∧ Below wx.heap.size wx w') := fun wx g h => by rw [← hie]; exact idsCheck_any gen (N : Int) (some ⟨g, 0, none⟩) n n L wx h hok2 hLn hn gg0 gg1 (by omega) (by omega)
  have HCKM := hide fun wx g (h : InstsV wx (some ⟨g, 0, none⟩) l) => idsCheck_any gen (N : Int) (some ⟨g, 0, none⟩) n n l wx h hok hl hn gg0 gg1 (by omega) (by omega)
  have HAL := hide fun wx g g' (h1 : InstsV wx (some ⟨g, 0, none⟩) l) (h2 : InstsV wx (some ⟨g', 0, none⟩) L) => idsAlike_any gen (N : Int) gen (N : Int) l L (some ⟨g, 0, none⟩) (some ⟨g', 0, none⟩) n n n n wx h1 h2 hok hok2 hl hLn hn hn gg0 gg1 (by omega) (by omega) gg0 gg1 (by omega) (by omega) true ⟨fun _ => by rw [hL]; exact alike_turn gen hs hWF (by omega) (by omega), fun _ => rfl⟩
  have HAR := hide fun wx a3 c3 (h1 : InstsV wx a3 L) (h2 : InstsV wx a l) => idsAlike_any gen (N : Int) gen (N : Int) L l a3 a n n c3 c wx h1 h2 hok2 hok hLn hl hn hn gg0 gg1 (by omega) (by omega) gg0 gg1 (by omega) (by omega) true ⟨fun _ => by rw [hL]; exact alike_back gen hok hs tw hway, fun _ => rfl⟩
  have HLN := hide hLn
  generalize hgE : idsE (N : Int) l = E at *
  obtain ⟨E1, E2⟩ := E
  simp only at HCKX HCKM
  clear hWF hsb hs2 hLn htN hN0 hie hgE hL
  have HCP := hide fun wx (h : InstsV wx a l) => copyModule_any gen (N : Int) a n c l wx h hok hl hn
  have HCW := hide fun wx (h : View .u32 wx ta zs) => copyWords_any ta tn tc zs wx h tl tr
  have HID := hide hIds
  have HON := hide fun wx g tg (h1 : InstsV wx (some ⟨g, 0, none⟩) oneB) (h2 : View .u32 wx (some ⟨tg, 0, none⟩) [0, 1]) => idsRename_ok 0 2 (some ⟨g, 0, none⟩) 1 1 oneB (some ⟨tg, 0, none⟩) 2 2 [0, 1] wx h1 oneB_ok rfl (by decide) (by decide) (by decide) (by decide) h2 rfl within01 (by decide) oneB_shape way01
  have HKO := hide fun wx ax bx (h1 : InstsV wx ax oneB) (h2 : InstsV wx bx oneB) => kitModule_any 0 2 0 2 oneB oneB ax bx 1 1 1 1 wx h1 h2 rfl rfl oneB_ok oneB_ok (by decide) (by decide) true (by simp)
  unfold modV at *
  have HV := hide hv
  have HTV := hide tv
  have HTL := hide tl
  have HL := hide hl
  have hba : Below w.heap.size w (w.alloc (.cells #[.int .u32 gen, .int .u32 (N : Int), .slice a n c] 25)) := (Below.refl _ w).alloc (Nat.le_refl _) _
  have HM0 := hide (heap_alloc_new w (.cells #[.int .u32 gen, .int .u32 (N : Int), .slice a n c] 25))
  have hcp := HCP.out _ (hv.below hba)
  have HBA := hide hba
  have HLW : Hid ((w.alloc (.cells #[.int .u32 gen, .int .u32 (N : Int), .slice a n c] 25)).heap.size = w.heap.size + 1) := by show _ = _; simp
  clear hv hIds hba hok tv hl tl
  go_enter Try.func4, Try.ntmps4
  go_wp2_with fail
  generalize w.alloc (.cells #[.int .u32 gen, .int .u32 (N : Int), .slice a n c] 25) = W0 at *
  refine hcp.mono ?_
  rintro e w1 ⟨g1, rfl, hg1, hv1, hb1⟩
  have HB01 := hide (HBA.out.trans (hb1.mono HBA.out.size))
  have HV1 := hide hv1
  have HM1 := hide ((hb1.block w.heap.size (by rw [HLW.out]; omega)).trans HM0.out)
  have hcw := HCW.out _ (HTV.out.below HB01.out)
  clear hcp hb1 hv1 hg1 HCW HBA HM0
  go_wp2_with fail
  refine hcw.mono ?_
  rintro e w2 ⟨rfl, hown2, hb2⟩
  have hid := HID.out w2 g1 w1.heap.size (HV1.out.below hb2) (View.ofOwn hown2 HTL.out)
  have HB02 := hide (HB01.out.trans (hb2.mono HB01.out.size))
  have HM2 := hide ((hb2.block w.heap.size (Array.getElem?_eq_some_iff.1 HM1.out).1).trans HM1.out)
  clear hcw hown2 hb2 HM1 HB01 HV1
  go_wp2_with fail
  refine hid.mono ?_
  rintro e w3 ⟨a3, nq, c3, rfl, hn3, hv3, hb3⟩
  obtain rfl : n = nq := HLN.out.symm.trans hn3
  have HB03 := hide (HB02.out.trans (hb3.mono HB02.out.size))
  have HM3 := hide ((hb3.block w.heap.size (Array.getElem?_eq_some_iff.1 HM2.out).1).trans HM2.out)
  have HV3 := hide hv3
  have HN3 := hide hn3
  clear hid hb3 hv3 hn3 HM2 HB02
  go_wp2_with fail
  obtain ⟨k0, k1, k2, k3, k4, hba3⟩ := blocks5 w3 (.cells #[.int .u32 gen, .int .u32 (N : Int), .slice a3 n c3] 25) (.cells #[.int .i64 0, .int .i64 0] 31) (.cells #[.int .u16 20, .int .u32 0, .int .u32 1, .slice none 0 0] 38) (.cells #[.int .u32 0, .int .u32 2, .slice (some ⟨w3.heap.size + 1 + 1, 0, none⟩) 1 1] 25) (.cells #[.int .u32 0, .int .u32 1] 22)
  generalize ((((w3.alloc (.cells #[.int .u32 gen, .int .u32 (N : Int), .slice a3 n c3] 25)).alloc (.cells #[.int .i64 0, .int .i64 0] 31)).alloc (.cells #[.int .u16 20, .int .u32 0, .int .u32 1, .slice none 0 0] 38)).alloc (.cells #[.int .u32 0, .int .u32 2, .slice (some ⟨w3.heap.size + 1 + 1, 0, none⟩) 1 1] 25)).alloc (.cells #[.int .u32 0, .int .u32 1] 22) = W3 at *
  have hon := HON.out W3 (w3.heap.size + 1 + 1) (w3.heap.size + 1 + 1 + 1 + 1) (oneB_view k2) (view01 k4)
  refine hon.mono ?_
  rintro e w4 ⟨g4, rfl, _, hr4, hb4⟩
  obtain ⟨j0, j1, hba4⟩ := blocks2 w4 (.cells #[.int .u32 0, .int .u32 2, .slice (some ⟨g4, 0, none⟩) 1 1] 25) (.cells #[.int .i64 0, .int .i64 0] 31)
  have hb34 := hb4.trans (hba4.mono hb4.size)
  have HB04 := hide (HB03.out.trans ((hba3.trans (hb34.mono hba3.size)).mono HB03.out.size))
  have z0 := (hb34.block _ (Array.getElem?_eq_some_iff.1 k0).1).trans k0
  have z1 := (hb34.block _ (Array.getElem?_eq_some_iff.1 k1).1).trans k1
  have z2 := (hb34.block _ (Array.getElem?_eq_some_iff.1 k2).1).trans k2
  have z3 := (hb34.block _ (Array.getElem?_eq_some_iff.1 k3).1).trans k3
  have zM := ((hba3.trans (hb34.mono hba3.size)).block _ (Array.getElem?_eq_some_iff.1 HM3.out).1).trans HM3.out
  have hko := HKO.out _ (some ⟨g4, 0, none⟩) (some ⟨w3.heap.size + 1 + 1, 0, none⟩) ((by have := hr4.view (by rw [turnL_len]; rfl); rw [oneB_turn] at this; exact this : InstsV w4 _ oneB).below hba4) (oneB_view z2)
  have HV4 := hide (HV3.out.below (hba3.trans (hb34.mono hba3.size)))
  have HZ := hide (And.intro z0 (And.intro z1 zM))
  have y0 := (one_block j0).1 0
  have y1 := (one_block j0).1 1
  have y2 := (one_block j0).1 2
  obtain ⟨t0, t1, _⟩ := cell_of_two j1
  have x0 := (one_block z3).1 0
  have x1 := (one_block z3).1 1
  have x2 := (one_block z3).1 2
  clear k0 k1 k2 k3 k4 hba3 hon hr4 hb4 j0 j1 hba4 hb34 z0 z1 z2 z3 zM HON HKO HM3 HV3 HB03 HCP
  go_wp2_with fail
  generalize (w4.alloc (.cells #[.int .u32 0, .int .u32 2, .slice (some ⟨g4, 0, none⟩) 1 1] 25)).alloc (.cells #[.int .i64 0, .int .i64 0] 31) = W4 at *
  refine hko.mono ?_
  rintro e w5 ⟨rfl, hb5⟩
  have HB05 := hide (HB04.out.trans (hb5.mono HB04.out.size))
  have HV5 := hide (HV4.out.below hb5)
  obtain ⟨z0, z1, zM⟩ := HZ.out
  have u0 := (hb5.block _ (Array.getElem?_eq_some_iff.1 z0).1).trans z0
  have u1 := (hb5.block _ (Array.getElem?_eq_some_iff.1 z1).1).trans z1
  have uM := (hb5.block _ (Array.getElem?_eq_some_iff.1 zM).1).trans zM
  have HU := hide (And.intro u0 (And.intro u1 uM))
  obtain ⟨s0, s1, _⟩ := cell_of_two u1
  clear hko hb5 z0 z1 zM HZ HV4 HB04 y0 y1 y2 t0 t1 x0 x1 x2
  have HK5 : Hid (BkB w w5 gen N a n c l w3.heap.size a3 n c3 L ta zs) := ⟨uM, u0, HV.out.below HB05.out, HV5.out, HTV.out.below HB05.out, HB05.out⟩
  clear u0 u1 uM HU HV5
  obtain ⟨i0, hi, hz0, hz1, hz2⟩ := info_parts CopyWords.info
  go_wp2_with (at_make; refine wpList_make_full _ rfl _ _ 28 rfl w5.heap.size 22 i0 (.int .u32 0) 1 Try.underlying28 hi hz0 hz1 _ _ _ _ tn rfl rfl (by omega) (by omega) (by rw [hz2]; omega) (by unfold maxLen; omega) (Nat.le_refl _) ?_)
  intro w6 hown6 hgrow6
  have hb6 : Below w5.heap.size w5 w6 := (Below.refl _ w5).grown hgrow6 (Nat.le_refl _) (by simp)
  have HR6 : Hid (w6.ownsRow w5.heap.size 22 1 (.slice (some ⟨w5.heap.size, 0, none⟩) tn tn) tn ((bkL zs tn 0).map (Value.int .u32))) := by
    have := made_row zs hown6
    rw [filled_zero] at this
    exact this
  have HB6 := hide hb6
  clear hown6 hgrow6 hb6 HB05
  have htn : tn = N := by have := hway.1; have := HTL.out; omega
  subst htn
  have hN6 : tn ≤ 65536 ∧ 0 < tn := by have := shape_bound hs; omega
  have HWY := hide hway
  have HTW := hide tw
  have HSH := hide hs
  clear hway tw hs
  generalize hB5 : w5.heap.size = B5 at *
  go_wp2
  go_loopw [11] (fun i wr => ∃ k : Nat, k ≤ tn ∧ i = .int .i64 k ∧ wr.ownsRow B5 22 1 (.slice (some ⟨B5, 0, none⟩) tn tn) tn ((bkL zs tn k).map (Value.int .u32)) ∧ Below B5 w5 wr) (fun i _ => tn - (intOf i).toNat)
  case atStart => exact ⟨0, Nat.zero_le _, rfl, HR6.out, HB6.out⟩
  case round =>
    obtain ⟨k, hk, rfl, hO, hB⟩ := hrel
    have HO := hide hO
    have HB := hide hB
    clear HR6 HB6
    by_cases hlt : k < tn
    · have HLT := hide hlt
      obtain ⟨b, off, rfl, hbs, hc⟩ := (HK5.out.below (hB5 ▸ hB)).tv k (by rw [HTL.out]; exact hlt)
      obtain ⟨z0, z1, z2⟩ := way_at HTW.out HWY.out hlt
      obtain ⟨z, hz⟩ : ∃ z : Nat, nth zs k = (z : Int) := ⟨(nth zs k).toNat, by omega⟩
      have hzN : z < tn := by omega
      have HZE : Hid ((bkL zs tn k).set z (k : Int) = bkL zs tn (k + 1)) := by show _ = _; rw [bkL, hz]; rfl
      rw [hz] at hc
      have hd : wr.cell? ⟨B5, z, none⟩ = some (.int .u32 (nth (bkL zs tn k) z)) := by
        obtain ⟨b, off, e1, _, hc⟩ := View.ofRow hO (bkL_len zs tn k) z (by rw [bkL_len]; exact hzN)
        simp at e1
        obtain ⟨rfl, rfl⟩ := e1
        simpa using hc
      have hfz := hO.frozenAt z
      generalize nth (bkL zs tn k) z = v at *
      have hge : decide ((z : Int) ≥ (tn : Int)) = false := by simp; omega
      clear hO hB z0 z1 z2 hz hbs
      go_wp2_with fail
      go_roundw
      case rel => exact ⟨k + 1, by have := HLT.out; omega, by go_num, by have := (HO.out.stored z (.int .u32 (k : Int))).1; rw [← List.map_set, HZE.out] at this; exact this, HB.out.setCell (Nat.le_refl _) _⟩
      case measure => have := HLT.out; simp [intOf]; omega
    · obtain rfl : k = tn := by omega
      have HK7 := hide (HK5.out.below (hB5 ▸ hB))
      have hv7 := View.ofRow hO (bkL_len zs k k)
      have HBV := hide hv7
      have x0 := (one_block HK7.out.xbox).1 0
      have x1 := (one_block HK7.out.xbox).1 1
      have x2 := (one_block HK7.out.xbox).1 2
      have hcx := HCX.out wr a3 c3 HK7.out.xv
      clear hO hB HO HB HK5 hv7 hlt
      rename World => w7
      go_wp2_with fail
      refine hcx.mono ?_
      rintro e w8 ⟨g8, rfl, hg8, hv8, hb8⟩
      have hre := HRE.out w8 g8 _ hv8 (HBV.out.below hb8)
      have HK8 := hide (HK7.out.below hb8)
      clear hcx hg8 hv8 hb8 HK7 HBV x0 x1 x2
      go_wp2_with fail
      refine hre.mono ?_
      rintro e w9 ⟨g9, rfl, hv9, hb9⟩
      obtain ⟨j0, j1, hba9⟩ := blocks2 w9 (.cells #[.int .u32 gen, .int .u32 (k : Int), .slice (some ⟨g9, 0, none⟩) n n] 25) (.cells #[.int .i64 0, .int .i64 0] 31)
      have HK10 := hide ((HK8.out.below hb9).below hba9)
      have hkm := HKM.out _ g9 (hv9.below hba9) HK10.out.lv
      have y0 := (one_block j0).1 0
      have y1 := (one_block j0).1 1
      have y2 := (one_block j0).1 2
      obtain ⟨t0, t1, _⟩ := cell_of_two j1
      have x0 := (one_block HK10.out.mbox).1 0
      have x1 := (one_block HK10.out.mbox).1 1
      have x2 := (one_block HK10.out.mbox).1 2
      have HV10 := hide (hv9.below hba9)
      clear x0 x1 x2 y0 y1 y2 t0 t1 hkm
      have HJ := hide (And.intro j0 j1)
      clear j0 j1 hba9 hre hv9 hb9 HK8
      go_wp2_with fail
      generalize (w9.alloc (.cells #[.int .u32 gen, .int .u32 (k : Int), .slice (some ⟨g9, 0, none⟩) n n] 25)).alloc (.cells #[.int .i64 0, .int .i64 0] 31) = W10 at *
      have hK : ∀ wx, Below W10.heap.size W10 wx → ((wx.cell? ⟨w.heap.size, 0, none⟩ = some (.int .u32 gen) ∧ wx.cell? ⟨w.heap.size, 1, none⟩ = some (.int .u32 (k : Int)) ∧ wx.cell? ⟨w.heap.size, 2, none⟩ = some (.slice a n c)) ∧ (wx.cell? ⟨w3.heap.size, 0, none⟩ = some (.int .u32 gen) ∧ wx.cell? ⟨w3.heap.size, 1, none⟩ = some (.int .u32 (k : Int)) ∧ wx.cell? ⟨w3.heap.size, 2, none⟩ = some (.slice a3 n c3)) ∧ (wx.cell? ⟨w9.heap.size, 0, none⟩ = some (.int .u32 gen) ∧ wx.cell? ⟨w9.heap.size, 1, none⟩ = some (.int .u32 (k : Int)) ∧ wx.cell? ⟨w9.heap.size, 2, none⟩ = some (.slice (some ⟨g9, 0, none⟩) n n)) ∧ (wx.cell? ⟨w9.heap.size + 1, 0, none⟩ = some (.int .i64 0) ∧ wx.cell? ⟨w9.heap.size + 1, 1, none⟩ = some (.int .i64 0))) := fun wx h => by
        have q := HK10.out.below h
        have r0 := (h.block _ (Array.getElem?_eq_some_iff.1 HJ.out.1).1).trans HJ.out.1
        have r1 := (h.block _ (Array.getElem?_eq_some_iff.1 HJ.out.2).1).trans HJ.out.2
        obtain ⟨t0, t1, _⟩ := cell_of_two r1
        exact ⟨⟨(one_block q.mbox).1 0, (one_block q.mbox).1 1, (one_block q.mbox).1 2⟩, ⟨(one_block q.xbox).1 0, (one_block q.xbox).1 1, (one_block q.xbox).1 2⟩, ⟨(one_block r0).1 0, (one_block r0).1 1, (one_block r0).1 2⟩, t0, t1⟩
      have mL := fun wx (h : Below W10.heap.size W10 wx) => (HK10.out.below h).lv
      have mX := fun wx (h : Below W10.heap.size W10 wx) => (HK10.out.below h).xv
      have mZ := fun wx (h : Below W10.heap.size W10 wx) => HV10.out.below h
      have hfin := fun wx (h : Below W10.heap.size W10 wx) => (HK10.out.below h).bel
      have hd := below_drew W10
      go_region_held2 (fun wx => Below W10.heap.size W10 wx ∧ ((wx.cell? ⟨w.heap.size, 0, none⟩ = some (.int .u32 gen) ∧ wx.cell? ⟨w.heap.size, 1, none⟩ = some (.int .u32 (k : Int)) ∧ wx.cell? ⟨w.heap.size, 2, none⟩ = some (.slice a n c)) ∧ (wx.cell? ⟨w3.heap.size, 0, none⟩ = some (.int .u32 gen) ∧ wx.cell? ⟨w3.heap.size, 1, none⟩ = some (.int .u32 (k : Int)) ∧ wx.cell? ⟨w3.heap.size, 2, none⟩ = some (.slice a3 n c3)) ∧ (wx.cell? ⟨w9.heap.size, 0, none⟩ = some (.int .u32 gen) ∧ wx.cell? ⟨w9.heap.size, 1, none⟩ = some (.int .u32 (k : Int)) ∧ wx.cell? ⟨w9.heap.size, 2, none⟩ = some (.slice (some ⟨g9, 0, none⟩) n n)) ∧ (wx.cell? ⟨w9.heap.size + 1, 0, none⟩ = some (.int .i64 0) ∧ wx.cell? ⟨w9.heap.size + 1, 1, none⟩ = some (.int .i64 0))))
        (exact ⟨by assumption, hK _ (by assumption)⟩)
        (first
          | (go_at_call 11; with_reducible refine (HKM.out _ g9 (mZ _ (by assumption)) (mL _ (by assumption))).mono ?_; rintro e w' ⟨rfl, hbx⟩; have hby := growB (by assumption) hbx; clear hbx)
          | (go_at_call 7; with_reducible refine (HCX.out _ a3 c3 (mX _ (by assumption))).mono ?_; rintro e w' ⟨g', rfl, _, hv', hbx⟩; have hby := growB (by assumption) hbx)
          | (go_at_call 7; with_reducible refine (HCP2.out _ (mL _ (by assumption))).mono ?_; rintro e w' ⟨g', rfl, _, hv', hbx⟩; have hby := growB (by assumption) hbx)
          | (go_at_call 13; with_reducible refine (HCKX.out _ _ (by assumption)).mono ?_; rintro e w' ⟨rfl, hbx⟩; have hby := growB (by assumption) hbx; clear hbx)
          | (go_at_call 13; with_reducible refine (HCKM.out _ _ (by assumption)).mono ?_; rintro e w' ⟨rfl, hbx⟩; have hby := growB (by assumption) hbx; clear hbx)
          | (go_at_call 6; with_reducible refine (HAR.out _ a3 c3 (mX _ (by assumption)) (mL _ (by assumption))).mono ?_; rintro e w' ⟨rfl, hbx⟩; have hby := growB (by assumption) hbx; clear hbx)
          | (go_at_call 6; with_reducible refine (HAL.out _ _ _ (by first | assumption | exact InstsV.below (by assumption) (by assumption)) (by assumption)).mono ?_; rintro e w' ⟨rfl, hbx⟩; have hby := growB (by assumption) hbx; clear hbx))
      go_wp2
      go_ret
      exact ⟨rfl, hfin _ (by assumption)⟩

theorem idsBack_true (w : World) (gen bnd : Int) (a : Option Addr) (n c : Nat) (l : List InstT) (hl : l.length = n) (hv : InstsV w a l) (hok : InstsOk l) (hn : 40 * n ≤ 140737488351232) (hc : n ≤ c) (hgb : 0 ≤ gen ∧ gen < 4294967296 ∧ 0 ≤ bnd ∧ bnd < 4294967296) (ta : Option Addr) (tn tc : Nat) (zs : List Int) (tl : zs.length = tn) (tv : View .u32 w ta zs) (tw : Within 4294967296 zs) (tr : 4 * tn ≤ 140737488351232) :
    Calls Try.prog 4 #[.agg #[.int .u32 gen, .int .u32 bnd, .slice a n c], .slice ta tn tc] w fun e w' => e = .returned (.bool true) ∧ Below w.heap.size w w' := by
  obtain ⟨g0, g1, b0, b1⟩ := hgb
  obtain ⟨N, rfl⟩ : ∃ N : Nat, bnd = (N : Int) := ⟨bnd.toNat, by omega⟩
  have hN : N < 4294967296 := by omega
  rcases shapeE_any (N : Int) l with hE | hE
  · by_cases hw : IsWay zs (N : Int)
    · refine idsBack_good w gen N a n c l hl hv hok hn ta tn tc zs tl tv tr (turnL (fW zs) l) g0 g1 (turnL_ok (fW_range tw) hok) (by rw [hE]) tw hw rfl (fun wx g tg h1 h2 => ?_)
      refine (idsRename_ok gen N (some ⟨g, 0, none⟩) n n l (some ⟨tg, 0, none⟩) tn tn zs wx h1 hok hl hn g0 g1 hN h2 tl tw tr hE hw).mono ?_
      rintro e w' ⟨g', rfl, _, hr, hb'⟩
      exact ⟨some ⟨g', 0, none⟩, n, n, rfl, by rw [turnL_len]; exact hl, hr.view (by rw [turnL_len]; exact hl), hb'⟩
    · refine idsBack_bad w gen N a n c l hl hv hok hn ta tn tc zs tl tv tr 2 0 rfl (fun wx g tg h1 h2 => ?_)
      refine (idsRename_way gen N (some ⟨g, 0, none⟩) n n l (some ⟨tg, 0, none⟩) tn tn zs wx h1 hok hl hn g0 g1 hN h2 tl tw tr hE hw).mono ?_
      rintro e w' ⟨rfl, hb'⟩
      exact ⟨none, 0, 0, rfl, rfl, instsV_nil, hb'⟩
  · refine idsBack_bad w gen N a n c l hl hv hok hn ta tn tc zs tl tv tr (shapeE (N : Int) l).1 ((shapeE (N : Int) l).2 : Int) (by simpa using hE) (fun wx g tg h1 h2 => ?_)
    refine (idsRename_bad gen N (some ⟨g, 0, none⟩) n n l (some ⟨tg, 0, none⟩) tn tn zs wx h1 hok hl hn g0 g1 hN h2 tl tw tr hE).mono ?_
    rintro e w' ⟨rfl, hb'⟩
    exact ⟨none, 0, 0, rfl, rfl, instsV_nil, hb'⟩

end Go.Proofs.Ytjckgnpbjekhbaa
