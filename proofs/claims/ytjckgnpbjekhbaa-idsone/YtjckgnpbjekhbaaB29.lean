/-
  Texts laid together in one: LawIdsOne.
-/
import Derived.WalkSpells
import Derived.WalkMore
import Derived.BigRegion
import Derived.Deep.RegionHeld2
import Derived.BigQuiet
import Derived.Test.YtjckgnpbjekhbaaProg
import Derived.Test.YtjckgnpbjekhbaaB22
import Derived.Test.YtjckgnpbjekhbaaB24
import Derived.Test.YtjckgnpbjekhbaaB28
import Derived.Test.YtjckgnpbjekhbaaB21
import Derived.Test.YtjckgnpbjekhbaaB26
import Derived.Test.YtjckgnpbjekhbaaB01
import Derived.Test.YtjckgnpbjekhbaaB02
import Derived.Test.YtjckgnpbjekhbaaB17
/-
  IdsOne is true for every module and every list.
-/
namespace Go.Proofs.Ytjckgnpbjekhbaa
open Go.RowKit
set_option linter.unusedVariables false
set_option linter.unusedSimpArgs false
set_option maxRecDepth 10000

/-- What stands while the law goes on: the boxes of m and x, and what they and to hold. -/
structure OnB (w W : World) (gen : Int) (N : Nat) (a : Option Addr) (n c : Nat) (l : List InstT) (X : Nat) (G Bd : Int) (a3 : Option Addr) (n3 c3 : Nat) (L : List InstT) (ta : Option Addr) (zs : List Int) : Prop where
  mbox : W.heap[w.heap.size]? = some (.cells #[.int .u32 gen, .int .u32 (N : Int), .slice a n c] 25 (0, 0))
  xbox : W.heap[X]? = some (.cells #[.int .u32 G, .int .u32 Bd, .slice a3 n3 c3] 25 (0, 0))
  lv : InstsV W a l
  xv : InstsV W a3 L
  tv : View .u32 W ta zs
  bel : Below w.heap.size w W
theorem OnB.below {w W W' : World} {gen : Int} {N : Nat} {a : Option Addr} {n c : Nat} {l : List InstT} {X : Nat} {G Bd : Int} {a3 : Option Addr} {n3 c3 : Nat} {L : List InstT} {ta : Option Addr} {zs : List Int} (h : OnB w W gen N a n c l X G Bd a3 n3 c3 L ta zs) (hb : Below W.heap.size W W') : OnB w W' gen N a n c l X G Bd a3 n3 c3 L ta zs :=
  ⟨(hb.block _ (Array.getElem?_eq_some_iff.1 h.mbox).1).trans h.mbox, (hb.block _ (Array.getElem?_eq_some_iff.1 h.xbox).1).trans h.xbox, h.lv.below hb, h.xv.below hb, h.tv.below hb, h.bel.trans (hb.mono h.bel.size)⟩
theorem OnB.cells {w W : World} {gen : Int} {N : Nat} {a : Option Addr} {n c : Nat} {l : List InstT} {X : Nat} {G Bd : Int} {a3 : Option Addr} {n3 c3 : Nat} {L : List InstT} {ta : Option Addr} {zs : List Int} (h : OnB w W gen N a n c l X G Bd a3 n3 c3 L ta zs) : (W.cell? ⟨w.heap.size, 0, none⟩ = some (.int .u32 gen) ∧ W.cell? ⟨w.heap.size, 1, none⟩ = some (.int .u32 (N : Int)) ∧ W.cell? ⟨w.heap.size, 2, none⟩ = some (.slice a n c)) ∧ (W.cell? ⟨X, 0, none⟩ = some (.int .u32 G) ∧ W.cell? ⟨X, 1, none⟩ = some (.int .u32 Bd) ∧ W.cell? ⟨X, 2, none⟩ = some (.slice a3 n3 c3)) :=
  ⟨⟨(one_block h.mbox).1 0, (one_block h.mbox).1 1, (one_block h.mbox).1 2⟩, (one_block h.xbox).1 0, (one_block h.xbox).1 1, (one_block h.xbox).1 2⟩

set_option maxHeartbeats 8000000 in
theorem idsOne_bad (w : World) (gen : Int) (N : Nat) (a : Option Addr) (n c : Nat) (l : List InstT) (hl : l.length = n) (hv : InstsV w a l) (hok : InstsOk l) (hn : 40 * n ≤ 140737488351232) (gg0 : 0 ≤ gen) (gg1 : gen < 4294967296) (hN : N < 4294967296) (ta : Option Addr) (tn tc : Nat) (zs : List Int) (tl : zs.length = tn) (tv : View .u32 w ta zs) (tw : Within 4294967296 zs) (tr : 4 * tn ≤ 140737488351232)
    (E1 : Int) (E2 : Nat) (hE : idsE (N : Int) l = (E1, E2)) (hE1 : E1 ≠ 0) :
    Calls Try.prog 5 #[.agg #[.int .u32 gen, .int .u32 (N : Int), .slice a n c], .slice ta tn tc] w fun e w' => e = .returned (.bool true) ∧ Below w.heap.size w w' := by
  have HRN : Hid (∀ wx g, InstsV wx (some ⟨g, 0, none⟩) l → Calls Try.prog 14 #[.agg #[.int .u32 gen, .int .u32 (N : Int), .slice (some ⟨g, 0, none⟩) n n]] wx fun e w' => ∃ a' c', e = .returned (.tuple #[.agg #[.int .u32 0, .int .u32 0, .slice a' 0 c'], .agg #[.int .i64 E1, .int .i64 E2]]) ∧ InstsV w' a' ([] : List InstT) ∧ Below wx.heap.size wx w') := fun wx g h => by
    refine (idsRenumber_bad gen N (some ⟨g, 0, none⟩) n n l wx h hok hl hn gg0 gg1 hN (by rw [hE]; exact hE1)).mono ?_
    rintro e w' ⟨rfl, hb⟩
    rw [hE]
    exact ⟨none, 0, rfl, instsV_nil, hb⟩
  have HCP := hide fun wx (h : InstsV wx a l) => copyModule_any gen (N : Int) a n c l wx h hok hl hn
  have HCK : Hid (∀ wx g, InstsV wx (some ⟨g, 0, none⟩) l → Calls Try.prog 13 #[.agg #[.int .u32 gen, .int .u32 (N : Int), .slice (some ⟨g, 0, none⟩) n n]] wx fun e w' => e = .returned (.agg #[.int .i64 E1, .int .i64 E2]) ∧ Below wx.heap.size wx w') := fun wx g h => by
    have := idsCheck_any gen (N : Int) (some ⟨g, 0, none⟩) n n l wx h hok hl hn gg0 gg1 (by omega) (by omega)
    rw [hE] at this
    exact this
  have HV := hide hv
  have HTV := hide tv
  have HTL := hide tl
  have HL := hide hl
  have hba : Below w.heap.size w (w.alloc (.cells #[.int .u32 gen, .int .u32 (N : Int), .slice a n c] 25)) := (Below.refl _ w).alloc (Nat.le_refl _) _
  have HM0 := hide (heap_alloc_new w (.cells #[.int .u32 gen, .int .u32 (N : Int), .slice a n c] 25))
  have hcp := HCP.out _ (hv.below hba)
  have HBA := hide hba
  have HLW : Hid ((w.alloc (.cells #[.int .u32 gen, .int .u32 (N : Int), .slice a n c] 25)).heap.size = w.heap.size + 1) := by show _ = _; simp
  unfold modV at *
  clear hv hba hok tv hl tl hE
  go_enter Try.func5, Try.ntmps5
  go_wp2_with fail
  generalize w.alloc (.cells #[.int .u32 gen, .int .u32 (N : Int), .slice a n c] 25) = W0 at *
  refine hcp.mono ?_
  rintro e w1 ⟨g1, rfl, hg1, hv1, hb1⟩
  have HB01 := hide (HBA.out.trans (hb1.mono HBA.out.size))
  have HM1 := hide ((hb1.block w.heap.size (by rw [HLW.out]; omega)).trans HM0.out)
  have hrn := HRN.out w1 g1 hv1
  clear hcp hb1 hv1 hg1 HBA HM0
  go_wp2_with fail
  refine hrn.mono ?_
  rintro e w2 ⟨a2, c2, rfl, hv2, hb2⟩
  obtain ⟨j0, j1, hba2⟩ := blocks2 w2 (.cells #[.int .u32 0, .int .u32 0, .slice a2 0 c2] 25) (.cells #[.int .i64 E1, .int .i64 E2] 31)
  have hb12 := hb2.trans (hba2.mono hb2.size)
  have hbw := HB01.out.trans (hb12.mono HB01.out.size)
  have HK3 : Hid (OnB w ((w2.alloc (.cells #[.int .u32 0, .int .u32 0, .slice a2 0 c2] 25)).alloc (.cells #[.int .i64 E1, .int .i64 E2] 31)) gen N a n c l w2.heap.size 0 0 a2 0 c2 [] ta zs) := ⟨(hb12.block _ (Array.getElem?_eq_some_iff.1 HM1.out).1).trans HM1.out, j0, HV.out.below hbw, hv2.below hba2, HTV.out.below hbw, hbw⟩
  have HJ := hide j1
  clear hrn hb2 hv2 hb12 hbw j0 j1 hba2 HB01 HM1
  go_wp2_with fail
  generalize (w2.alloc (.cells #[.int .u32 0, .int .u32 0, .slice a2 0 c2] 25)).alloc (.cells #[.int .i64 E1, .int .i64 E2] 31) = W3 at *
  have mL := hide fun wx (h : Below W3.heap.size W3 wx) => (HK3.out.below h).lv
  have hK : ∀ wx, Below W3.heap.size W3 wx → ((wx.cell? ⟨w.heap.size, 0, none⟩ = some (.int .u32 gen) ∧ wx.cell? ⟨w.heap.size, 1, none⟩ = some (.int .u32 (N : Int)) ∧ wx.cell? ⟨w.heap.size, 2, none⟩ = some (.slice a n c)) ∧ (wx.cell? ⟨w2.heap.size + 1, 0, none⟩ = some (.int .i64 E1) ∧ wx.cell? ⟨w2.heap.size + 1, 1, none⟩ = some (.int .i64 E2))) := fun wx h => by
    have r1 := (h.block _ (Array.getElem?_eq_some_iff.1 HJ.out).1).trans HJ.out
    obtain ⟨t0, t1, _⟩ := cell_of_two r1
    exact ⟨(HK3.out.below h).cells.1, t0, t1⟩
  have hd := below_drew W3
  go_region_held2 (fun wx => Below W3.heap.size W3 wx ∧ ((wx.cell? ⟨w.heap.size, 0, none⟩ = some (.int .u32 gen) ∧ wx.cell? ⟨w.heap.size, 1, none⟩ = some (.int .u32 (N : Int)) ∧ wx.cell? ⟨w.heap.size, 2, none⟩ = some (.slice a n c)) ∧ (wx.cell? ⟨w2.heap.size + 1, 0, none⟩ = some (.int .i64 E1) ∧ wx.cell? ⟨w2.heap.size + 1, 1, none⟩ = some (.int .i64 E2))))
    (exact ⟨by assumption, hK _ (by assumption)⟩)
    (first
      | (go_at_call 7; with_reducible refine (HCP.out _ (mL.out _ (by assumption))).mono ?_; rintro e w' ⟨g', rfl, _, hv', hbx⟩; have hby := growB (by assumption) hbx; clear hbx)
      | (go_at_call 13; with_reducible refine (HCK.out _ _ (by assumption)).mono ?_; rintro e w' ⟨rfl, hbx⟩; have hby := growB (by assumption) hbx; clear hbx))
  rename World => w4
  have hb4 : Below W3.heap.size W3 w4 := by assumption
  have HK4 := hide (HK3.out.below hb4)
  obtain ⟨⟨m0, m1, m2⟩, s0, s1⟩ := hK w4 hb4
  obtain ⟨_, x0, x1, x2⟩ := HK4.out.cells
  clear hK hd mL hb4
  clear HK3
  have hE1' : (E1 != 0) = true := by simpa using hE1
  have hno := kitNone_none a2 c2 w4
  unfold modV at hno
  go_wp2_with fail
  refine hno.mono ?_
  rintro e w5 ⟨rfl, hb5⟩
  have HK5 := hide (HK4.out.below hb5)
  clear hno m0 m1 m2 s0 s1 x0 x1 x2 HK4
  go_wp2_with fail
  go_ret
  exact ⟨rfl, HK5.out.bel⟩

set_option maxHeartbeats 8000000 in
theorem idsOne_good (w : World) (gen : Int) (N : Nat) (a : Option Addr) (n c : Nat) (l : List InstT) (hl : l.length = n) (hv : InstsV w a l) (hok : InstsOk l) (hn : 40 * n ≤ 140737488351232) (gg0 : 0 ≤ gen) (gg1 : gen < 4294967296) (hN : N < 4294967296) (ta : Option Addr) (tn tc : Nat) (zs : List Int) (tl : zs.length = tn) (tv : View .u32 w ta zs) (tw : Within 4294967296 zs) (tr : 4 * tn ≤ 140737488351232)
    (B : Nat) (L : List InstT) (hE : idsE (N : Int) l = (0, 0)) (hF : NumF l N B L) (hokL : InstsOk L) (hBe : B = cntR l l.length + 1) (hLe : L = turnL (rnF l) l) :
    Calls Try.prog 5 #[.agg #[.int .u32 gen, .int .u32 (N : Int), .slice a n c], .slice ta tn tc] w fun e w' => e = .returned (.bool true) ∧ Below w.heap.size w w' := by
  have hln : L.length = n := by rw [hF.len, hl]
  have hBm : B < 4294967296 := by have := hF.top; omega
  have HRN : Hid (∀ wx g, InstsV wx (some ⟨g, 0, none⟩) l → Calls Try.prog 14 #[.agg #[.int .u32 gen, .int .u32 (N : Int), .slice (some ⟨g, 0, none⟩) n n]] wx fun e w' => ∃ a' c', e = .returned (.tuple #[.agg #[.int .u32 gen, .int .u32 (B : Int), .slice a' n c'], .agg #[.int .i64 0, .int .i64 0]]) ∧ InstsV w' a' L ∧ Below wx.heap.size wx w') := fun wx g h => by
    refine (idsRenumber_ok gen N (some ⟨g, 0, none⟩) n n l wx h hok hl hn gg0 gg1 hN (by rw [hE])).mono ?_
    rintro e w' ⟨g', rfl, _, hr, hb⟩
    refine ⟨some ⟨g', 0, none⟩, n, ?_, ?_, hb⟩
    · rw [← hl, ← hBe]; rfl
    · rw [hLe]; exact hr.view (by rw [turnL_len]; exact hl)
  have HCX := hide fun wx a2 c2 (h : InstsV wx a2 L) => copyModule_any gen (B : Int) a2 n c2 L wx h hokL hln hn
  have HRX : Hid (∀ wx g, InstsV wx (some ⟨g, 0, none⟩) L → Calls Try.prog 14 #[.agg #[.int .u32 gen, .int .u32 (B : Int), .slice (some ⟨g, 0, none⟩) n n]] wx fun e w' => ∃ g', e = .returned (.tuple #[.agg #[.int .u32 gen, .int .u32 (B : Int), .slice (some ⟨g', 0, none⟩) n n], .agg #[.int .i64 0, .int .i64 0]]) ∧ InstsV w' (some ⟨g', 0, none⟩) L ∧ Below wx.heap.size wx w') := fun wx g h => by
    refine (idsRenumber_ok gen B (some ⟨g, 0, none⟩) n n L wx h hokL hln hn gg0 gg1 hBm (by rw [hF.ids])).mono ?_
    rintro e w' ⟨g', rfl, _, hr, hb⟩
    have hc := hF.cnt
    rw [hln] at hc
    refine ⟨g', by rw [hc]; rfl, ?_, hb⟩
    have := hr.view (by rw [turnL_len]; exact hln)
    rw [hF.again] at this
    exact this
  have HKX := hide fun wx g a2 c2 (h1 : InstsV wx (some ⟨g, 0, none⟩) L) (h2 : InstsV wx a2 L) => kitModule_any gen (B : Int) gen (B : Int) L L (some ⟨g, 0, none⟩) a2 n n n c2 wx h1 h2 hln hln hokL hokL (by omega) (by omega) true (by simp)
  have HAL := hide fun wx a2 c2 (h1 : InstsV wx a l) (h2 : InstsV wx a2 L) => idsAlike_any gen (N : Int) gen (B : Int) l L a a2 n n c c2 wx h1 h2 hok hokL hl hln hn hn gg0 gg1 (by omega) (by omega) gg0 gg1 (by omega) (by omega) true ⟨fun _ => by rw [hLe, hBe]; exact alike_turn gen (layE_ok (ids_sound (by rw [hE] : (idsE (N : Int) l).1 = 0)).1).2.1 (rn_way (by rw [hE] : (idsE (N : Int) l).1 = 0)) (by omega) (by rw [← hBe]; have := hF.top; omega), fun _ => rfl⟩
  have HMD : Hid (∀ wx g, InstsV wx (some ⟨g, 0, none⟩) L → Calls Try.prog 15 #[.agg #[.int .u32 gen, .int .u32 (B : Int), .slice (some ⟨g, 0, none⟩) n n]] wx fun e w' => ∃ a' c', e = .returned (.tuple #[.slice a' B c', .agg #[.int .i64 0, .int .i64 0]]) ∧ View .i64 w' a' (madeZ L B) ∧ Below wx.heap.size wx w') := fun wx g h => by
    refine (idsMade_any gen (B : Int) (some ⟨g, 0, none⟩) n n L wx h hokL hln hn gg0 gg1 (by omega) (by omega)).mono ?_
    rintro e w' ⟨a', m', c', rfl, hm, hv, hb⟩
    have e1 : madeL (B : Int) L = madeZ L B := by unfold madeL; rw [if_pos (by rw [hF.shp])]; rfl
    rw [e1] at hm hv
    rw [madeZ_len] at hm
    subst hm
    rw [hF.shp]
    exact ⟨a', c', rfl, hv, hb⟩
  have HCW := hide fun wx (h : View .u32 wx ta zs) => copyWords_any ta tn tc zs wx h tl tr
  have HRE : Hid (∀ wx g tg, InstsV wx (some ⟨g, 0, none⟩) l → View .u32 wx (some ⟨tg, 0, none⟩) zs → Calls Try.prog 9 #[.agg #[.int .u32 gen, .int .u32 (N : Int), .slice (some ⟨g, 0, none⟩) n n], .slice (some ⟨tg, 0, none⟩) tn tn] wx fun e w' => ∃ a' n' c' G' B' e1 e2, e = .returned (.tuple #[.agg #[.int .u32 G', .int .u32 B', .slice a' n' c'], .agg #[.int .i64 e1, .int .i64 e2]]) ∧ Below wx.heap.size wx w' ∧ (((e1 != 0) = true) ∨ (IsWay zs (N : Int) ∧ e1 = 0 ∧ e2 = 0 ∧ gen = G' ∧ (N : Int) = B' ∧ n = n' ∧ n = c' ∧ ∃ g', a' = some ⟨g', 0, none⟩ ∧ InstsV w' (some ⟨g', 0, none⟩) (turnL (fW zs) l)))) := fun wx g tg h1 h2 => by
    rcases shapeE_any (N : Int) l with hS | hS
    · by_cases hw : IsWay zs (N : Int)
      · refine (idsRename_ok gen N (some ⟨g, 0, none⟩) n n l (some ⟨tg, 0, none⟩) tn tn zs wx h1 hok hl hn gg0 gg1 hN h2 tl tw tr hS hw).mono ?_
        rintro e w' ⟨g', rfl, _, hr, hb'⟩
        exact ⟨some ⟨g', 0, none⟩, n, n, gen, (N : Int), 0, 0, rfl, hb', .inr ⟨hw, rfl, rfl, rfl, rfl, rfl, rfl, g', rfl, hr.view (by rw [turnL_len]; exact hl)⟩⟩
      · refine (idsRename_way gen N (some ⟨g, 0, none⟩) n n l (some ⟨tg, 0, none⟩) tn tn zs wx h1 hok hl hn gg0 gg1 hN h2 tl tw tr hS hw).mono ?_
        rintro e w' ⟨rfl, hb'⟩
        exact ⟨none, 0, 0, 0, 0, 2, 0, rfl, hb', .inl rfl⟩
    · refine (idsRename_bad gen N (some ⟨g, 0, none⟩) n n l (some ⟨tg, 0, none⟩) tn tn zs wx h1 hok hl hn gg0 gg1 hN h2 tl tw tr hS).mono ?_
      rintro e w' ⟨rfl, hb'⟩
      exact ⟨none, 0, 0, 0, 0, (shapeE (N : Int) l).1, ((shapeE (N : Int) l).2 : Int), rfl, hb', .inl (by simpa using hS)⟩
  have HRZ : Hid (IsWay zs (N : Int) → ∀ wx g, InstsV wx (some ⟨g, 0, none⟩) (turnL (fW zs) l) → Calls Try.prog 14 #[.agg #[.int .u32 gen, .int .u32 (N : Int), .slice (some ⟨g, 0, none⟩) n n]] wx fun e w' => ∃ g', e = .returned (.tuple #[.agg #[.int .u32 gen, .int .u32 (B : Int), .slice (some ⟨g', 0, none⟩) n n], .agg #[.int .i64 0, .int .i64 0]]) ∧ InstsV w' (some ⟨g', 0, none⟩) L ∧ Below wx.heap.size wx w') := fun hw wx g h => by
    have hs := (layE_ok (ids_sound (by rw [hE] : (idsE (N : Int) l).1 = 0)).1).2.1
    have hsb := shape_bound hs
    have hW := way_wayF hok hs tw hw
    refine (idsRenumber_ok gen N (some ⟨g, 0, none⟩) n n (turnL (fW zs) l) wx h (turnL_ok (fW_range tw) hok) (by rw [turnL_len]; exact hl) hn gg0 gg1 hN (by rw [ids_turn hok hs hW (by omega) (by omega), hE])).mono ?_
    rintro e w' ⟨g', rfl, _, hr, hb⟩
    refine ⟨g', ?_, ?_, hb⟩
    · rw [← hl, cnt_turn hW _ (Nat.le_refl _), ← hBe]; rfl
    · have := hr.view (by rw [turnL_len, turnL_len]; exact hl)
      rw [renum_turn hok hs hW, ← hLe] at this
      exact this
  have HF := hide hF
  have HLN := hide hln
  clear hF hBe hLe hln hokL
  have HCP := hide fun wx (h : InstsV wx a l) => copyModule_any gen (N : Int) a n c l wx h hok hl hn
  have HCK : Hid (∀ wx g, InstsV wx (some ⟨g, 0, none⟩) l → Calls Try.prog 13 #[.agg #[.int .u32 gen, .int .u32 (N : Int), .slice (some ⟨g, 0, none⟩) n n]] wx fun e w' => e = .returned (.agg #[.int .i64 0, .int .i64 0]) ∧ Below wx.heap.size wx w') := fun wx g h => by
    have := idsCheck_any gen (N : Int) (some ⟨g, 0, none⟩) n n l wx h hok hl hn gg0 gg1 (by omega) (by omega)
    rw [hE] at this
    exact this
  have HV := hide hv
  have HTV := hide tv
  have HTL := hide tl
  have HL := hide hl
  have hba : Below w.heap.size w (w.alloc (.cells #[.int .u32 gen, .int .u32 (N : Int), .slice a n c] 25)) := (Below.refl _ w).alloc (Nat.le_refl _) _
  have HM0 := hide (heap_alloc_new w (.cells #[.int .u32 gen, .int .u32 (N : Int), .slice a n c] 25))
  have hcp := HCP.out _ (hv.below hba)
  have HBA := hide hba
  have HLW : Hid ((w.alloc (.cells #[.int .u32 gen, .int .u32 (N : Int), .slice a n c] 25)).heap.size = w.heap.size + 1) := by show _ = _; simp
  unfold modV at *
  clear hv hba hok tv hl tl hE
  go_enter Try.func5, Try.ntmps5
  go_wp2_with fail
  generalize w.alloc (.cells #[.int .u32 gen, .int .u32 (N : Int), .slice a n c] 25) = W0 at *
  refine hcp.mono ?_
  rintro e w1 ⟨g1, rfl, hg1, hv1, hb1⟩
  have HB01 := hide (HBA.out.trans (hb1.mono HBA.out.size))
  have HM1 := hide ((hb1.block w.heap.size (by rw [HLW.out]; omega)).trans HM0.out)
  have hrn := HRN.out w1 g1 hv1
  clear hcp hb1 hv1 hg1 HBA HM0
  go_wp2_with fail
  refine hrn.mono ?_
  rintro e w2 ⟨a2, c2, rfl, hv2, hb2⟩
  obtain ⟨j0, j1, hba2⟩ := blocks2 w2 (.cells #[.int .u32 gen, .int .u32 (B : Int), .slice a2 n c2] 25) (.cells #[.int .i64 0, .int .i64 0] 31)
  have hb12 := hb2.trans (hba2.mono hb2.size)
  have hbw := HB01.out.trans (hb12.mono HB01.out.size)
  have HK3 : Hid (OnB w ((w2.alloc (.cells #[.int .u32 gen, .int .u32 (B : Int), .slice a2 n c2] 25)).alloc (.cells #[.int .i64 0, .int .i64 0] 31)) gen N a n c l w2.heap.size gen (B : Int) a2 n c2 L ta zs) := ⟨(hb12.block _ (Array.getElem?_eq_some_iff.1 HM1.out).1).trans HM1.out, j0, HV.out.below hbw, hv2.below hba2, HTV.out.below hbw, hbw⟩
  have HJ := hide j1
  clear hrn hb2 hv2 hb12 hbw j0 j1 hba2 HB01 HM1
  go_wp2_with fail
  generalize (w2.alloc (.cells #[.int .u32 gen, .int .u32 (B : Int), .slice a2 n c2] 25)).alloc (.cells #[.int .i64 0, .int .i64 0] 31) = W3 at *
  have mL := hide fun wx (h : Below W3.heap.size W3 wx) => (HK3.out.below h).lv
  have hK : ∀ wx, Below W3.heap.size W3 wx → ((wx.cell? ⟨w.heap.size, 0, none⟩ = some (.int .u32 gen) ∧ wx.cell? ⟨w.heap.size, 1, none⟩ = some (.int .u32 (N : Int)) ∧ wx.cell? ⟨w.heap.size, 2, none⟩ = some (.slice a n c)) ∧ (wx.cell? ⟨w2.heap.size + 1, 0, none⟩ = some (.int .i64 0) ∧ wx.cell? ⟨w2.heap.size + 1, 1, none⟩ = some (.int .i64 0))) := fun wx h => by
    have r1 := (h.block _ (Array.getElem?_eq_some_iff.1 HJ.out).1).trans HJ.out
    obtain ⟨t0, t1, _⟩ := cell_of_two r1
    exact ⟨(HK3.out.below h).cells.1, t0, t1⟩
  have hd := below_drew W3
  go_region_held2 (fun wx => Below W3.heap.size W3 wx ∧ ((wx.cell? ⟨w.heap.size, 0, none⟩ = some (.int .u32 gen) ∧ wx.cell? ⟨w.heap.size, 1, none⟩ = some (.int .u32 (N : Int)) ∧ wx.cell? ⟨w.heap.size, 2, none⟩ = some (.slice a n c)) ∧ (wx.cell? ⟨w2.heap.size + 1, 0, none⟩ = some (.int .i64 0) ∧ wx.cell? ⟨w2.heap.size + 1, 1, none⟩ = some (.int .i64 0))))
    (exact ⟨by assumption, hK _ (by assumption)⟩)
    (first
      | (go_at_call 7; with_reducible refine (HCP.out _ (mL.out _ (by assumption))).mono ?_; rintro e w' ⟨g', rfl, _, hv', hbx⟩; have hby := growB (by assumption) hbx; clear hbx)
      | (go_at_call 13; with_reducible refine (HCK.out _ _ (by assumption)).mono ?_; rintro e w' ⟨rfl, hbx⟩; have hby := growB (by assumption) hbx; clear hbx))
  rename World => w4
  have hb4 : Below W3.heap.size W3 w4 := by assumption
  have HK4 := hide (HK3.out.below hb4)
  obtain ⟨⟨m0, m1, m2⟩, s0, s1⟩ := hK w4 hb4
  obtain ⟨_, x0, x1, x2⟩ := HK4.out.cells
  clear hK hd mL hb4
  clear HK3
  have hcx := HCX.out w4 a2 c2 HK4.out.xv
  go_wp2_with fail
  refine hcx.mono ?_
  rintro e w5 ⟨g5, rfl, hg5, hv5, hb5⟩
  have hrx := HRX.out w5 g5 hv5
  have HK5 := hide (HK4.out.below hb5)
  clear hcx hg5 hv5 hb5 HK4 m0 m1 m2 s0 s1 x0 x1 x2
  go_wp2_with fail
  refine hrx.mono ?_
  rintro e w6 ⟨g6, rfl, hv6, hb6⟩
  obtain ⟨j0, j1, hba6⟩ := blocks2 w6 (.cells #[.int .u32 gen, .int .u32 (B : Int), .slice (some ⟨g6, 0, none⟩) n n] 25) (.cells #[.int .i64 0, .int .i64 0] 31)
  have HK7 := hide ((HK5.out.below hb6).below hba6)
  have HV7 := hide (hv6.below hba6)
  have HJ7 := hide (And.intro j0 j1)
  obtain ⟨⟨m0, m1, m2⟩, x0, x1, x2⟩ := HK7.out.cells
  have hkx := HKX.out _ g6 a2 c2 HV7.out HK7.out.xv
  clear hrx hv6 hb6 j0 j1 hba6 HK5 HJ7
  go_wp2_with fail
  generalize (w6.alloc (.cells #[.int .u32 gen, .int .u32 (B : Int), .slice (some ⟨g6, 0, none⟩) n n] 25)).alloc (.cells #[.int .i64 0, .int .i64 0] 31) = W7 at *
  refine hkx.mono ?_
  rintro e w8 ⟨rfl, hb8⟩
  have HK8 := hide (HK7.out.below hb8)
  have hal := HAL.out w8 a2 c2 HK8.out.lv HK8.out.xv
  clear hkx hb8 HK7 HV7 m0 m1 m2 x0 x1 x2
  obtain ⟨⟨m0, m1, m2⟩, x0, x1, x2⟩ := HK8.out.cells
  go_wp2_with fail
  refine hal.mono ?_
  rintro e w9 ⟨rfl, hb9⟩
  have HK9 := hide (HK8.out.below hb9)
  have hcx := HCX.out w9 a2 c2 HK9.out.xv
  clear hal hb9 HK8 m0 m1 m2 x0 x1 x2
  obtain ⟨⟨m0, m1, m2⟩, x0, x1, x2⟩ := HK9.out.cells
  go_wp2_with fail
  refine hcx.mono ?_
  rintro e w10 ⟨g10, rfl, hg10, hv10, hb10⟩
  have hmd := HMD.out w10 g10 hv10
  have HK10 := hide (HK9.out.below hb10)
  clear hcx hg10 hv10 hb10 HK9 m0 m1 m2 x0 x1 x2
  go_wp2_with fail
  refine hmd.mono ?_
  rintro e w11 ⟨a11, c11, rfl, hv11, hb11⟩
  have hba11 : Below w11.heap.size w11 (w11.alloc (.cells #[.int .i64 0, .int .i64 0] 31)) := (Below.refl _ w11).alloc (Nat.le_refl _) _
  have HK12 := hide ((HK10.out.below hb11).below hba11)
  have HD := hide (hv11.below hba11)
  obtain ⟨_, x0, x1, x2⟩ := HK12.out.cells
  obtain ⟨b11, o11, rfl, hbs11, hc11⟩ := HD.out 0 (by rw [madeZ_len]; exact HF.out.pos)
  rw [HF.out.zero, Nat.add_zero] at hc11
  have hpos := HF.out.pos
  have htop := HF.out.top
  have hBB : (0 : Int) < (B : Int) := by omega
  clear hmd hv11 hb11 hba11 HK10
  go_wp2_with fail
  generalize w11.alloc (.cells #[.int .i64 0, .int .i64 0] 31) = W12 at *
  clear x0 x1 x2 hc11 hbs11
  go_loopw [11] (fun i wr => ∃ k : Nat, k + 1 ≤ B ∧ i = .int .i64 ((k + 1 : Nat) : Int) ∧ Below W12.heap.size W12 wr) (fun i _ => B - (intOf i).toNat)
  case atStart => exact ⟨0, by omega, rfl, Below.refl _ _⟩
  case round =>
    obtain ⟨k, hk, rfl, hB⟩ := hrel
    have HB := hide hB
    by_cases hlt : k + 1 < B
    · have HLT := hide hlt
      obtain ⟨b, o, e1, _, hc⟩ := (HD.out.below hB) (k + 1) (by rw [madeZ_len]; exact hlt)
      obtain ⟨b', o', e2, _, hc'⟩ := (HD.out.below hB) k (by rw [madeZ_len]; omega)
      obtain ⟨rfl, rfl⟩ : b = b11 ∧ o = o11 := by simpa using e1.symm
      obtain ⟨rfl, rfl⟩ : b' = b ∧ o' = o := by simpa using e2.symm
      have h0 := HF.out.made (k + 1) (by omega) hlt
      have h1 : decide (nth (madeZ L B) (k + 1) < 0) = false := by simp; omega
      have hlt' : (k : Int) + 1 < (B : Int) := by omega
      have hkn : (0 : Int) ≤ (k : Int) := by omega
      have hkl : (k : Int) < (B : Int) := by omega
      by_cases hk0 : k = 0
      · have h2 : decide ((k : Int) + 1 > 1) = false := by simp; omega
        generalize nth (madeZ L B) (k + 1) = d at *
        clear hB e1 e2 hc' h0 hk0 hlt
        go_wp2_with fail
        go_quiet (fail)
        go_wp2
        have hbq := bel_drewN HB.out nq
        exact ⟨⟨k + 1, by have := HLT.out; omega, rfl, hbq⟩, by have := HLT.out; simp [intOf]; omega⟩
      · have h2 : decide ((k : Int) + 1 > 1) = true := by simp; omega
        have h3 : decide (nth (madeZ L B) (k + 1) ≤ nth (madeZ L B) k) = false := by have := HF.out.rise (k + 1) (by omega) hlt; simp at this ⊢; exact this
        generalize nth (madeZ L B) (k + 1) = d at *
        generalize nth (madeZ L B) k = d' at *
        clear hB e1 e2 h0 hk0 hlt
        go_wp2_with fail
        go_quiet (fail)
        go_wp2
        have hbq := bel_drewN HB.out nq
        exact ⟨⟨k + 1, by have := HLT.out; omega, rfl, hbq⟩, by have := HLT.out; simp [intOf]; omega⟩
    · have hge : ¬ (k : Int) + 1 < (B : Int) := by omega
      have hge' : decide ((k : Int) + 1 < (B : Int)) = false := by simp; omega
      have HK13 := hide (HK12.out.below hB)
      rename World => w13
      have hcp := HCP.out w13 HK13.out.lv
      obtain ⟨⟨m0, m1, m2⟩, x0, x1, x2⟩ := HK13.out.cells
      clear hB HB HK12 HD hge hlt
      go_wp2_with fail
      refine hcp.mono ?_
      rintro e w14 ⟨g14, rfl, hg14, hv14, hb14⟩
      have HK14 := hide (HK13.out.below hb14)
      have HV14 := hide hv14
      have hcw := HCW.out w14 HK14.out.tv
      clear hcp hg14 hv14 hb14 HK13 m0 m1 m2 x0 x1 x2
      go_wp2_with fail
      refine hcw.mono ?_
      rintro e w15 ⟨rfl, hown15, hb15⟩
      have hre := HRE.out w15 g14 w14.heap.size (HV14.out.below hb15) (View.ofOwn hown15 HTL.out)
      have HK15 := hide (HK14.out.below hb15)
      clear hcw hown15 hb15 HK14 HV14
      go_wp2_with fail
      refine hre.mono ?_
      rintro e w16 ⟨a16, n16, c16, Q16, B16, e1, e2, rfl, hb16, hor⟩
      obtain ⟨j0, j1, hba16⟩ := blocks2 w16 (.cells #[.int .u32 Q16, .int .u32 B16, .slice a16 n16 c16] 25) (.cells #[.int .i64 e1, .int .i64 e2] 31)
      have HK17 := hide ((HK15.out.below hb16).below hba16)
      rcases hor with he | ⟨hway, rfl, rfl, rfl, rfl, rfl, rfl, g16, rfl, hz16⟩
      · clear j0 j1 hba16 hb16 hre HK15
        go_wp2_with fail
        go_ret
        exact ⟨rfl, HK17.out.bel⟩
      · have hrz := HRZ.out hway _ g16 (hz16.below hba16)
        clear j0 j1 hba16 hb16 hre HK15 hz16 hway
        go_wp2_with fail
        generalize (w16.alloc (.cells #[.int .u32 gen, .int .u32 (N : Int), .slice (some ⟨g16, 0, none⟩) n n] 25)).alloc (.cells #[.int .i64 0, .int .i64 0] 31) = W17 at *
        refine hrz.mono ?_
        rintro e w18 ⟨g18, rfl, hv18, hb18⟩
        obtain ⟨j0, j1, hba18⟩ := blocks2 w18 (.cells #[.int .u32 gen, .int .u32 (B : Int), .slice (some ⟨g18, 0, none⟩) n n] 25) (.cells #[.int .i64 0, .int .i64 0] 31)
        have HK19 := hide ((HK17.out.below hb18).below hba18)
        have hkx := HKX.out _ g18 a2 c2 (hv18.below hba18) HK19.out.xv
        obtain ⟨_, x0, x1, x2⟩ := HK19.out.cells
        clear hrz hv18 hb18 j0 j1 hba18 HK17
        go_wp2_with fail
        generalize (w18.alloc (.cells #[.int .u32 gen, .int .u32 (B : Int), .slice (some ⟨g18, 0, none⟩) n n] 25)).alloc (.cells #[.int .i64 0, .int .i64 0] 31) = W19 at *
        refine hkx.mono ?_
        rintro e w20 ⟨rfl, hb20⟩
        have HK20 := hide (HK19.out.below hb20)
        clear hkx hb20 HK19 x0 x1 x2
        go_wp2_with fail
        go_ret
        exact ⟨rfl, HK20.out.bel⟩

theorem idsOne_true (w : World) (gen bnd : Int) (a : Option Addr) (n c : Nat) (l : List InstT) (hl : l.length = n) (hv : InstsV w a l) (hok : InstsOk l) (hn : 40 * n ≤ 140737488351232) (hc : n ≤ c) (hgb : 0 ≤ gen ∧ gen < 4294967296 ∧ 0 ≤ bnd ∧ bnd < 4294967296) (ta : Option Addr) (tn tc : Nat) (zs : List Int) (tl : zs.length = tn) (tv : View .u32 w ta zs) (tw : Within 4294967296 zs) (tr : 4 * tn ≤ 140737488351232) :
    Calls Try.prog 5 #[.agg #[.int .u32 gen, .int .u32 bnd, .slice a n c], .slice ta tn tc] w fun e w' => e = .returned (.bool true) ∧ Below w.heap.size w w' := by
  obtain ⟨g0, g1, b0, b1⟩ := hgb
  obtain ⟨N, rfl⟩ : ∃ N : Nat, bnd = (N : Int) := ⟨bnd.toNat, by omega⟩
  have hN : N < 4294967296 := by omega
  by_cases h : (idsE (N : Int) l).1 = 0
  · exact idsOne_good w gen N a n c l hl hv hok hn g0 g1 hN ta tn tc zs tl tv tw tr (cntR l l.length + 1) (turnL (rnF l) l) (ids_sound h).2.1 (num_of hok h) (turnL_ok (fun i => by have := rnF_range l i; have := cnt_bound hok (by omega) h; omega) hok) rfl rfl
  · exact idsOne_bad w gen N a n c l hl hv hok hn g0 g1 hN ta tn tc zs tl tv tw tr (idsE (N : Int) l).1 (idsE (N : Int) l).2 rfl h

end Go.Proofs.Ytjckgnpbjekhbaa
