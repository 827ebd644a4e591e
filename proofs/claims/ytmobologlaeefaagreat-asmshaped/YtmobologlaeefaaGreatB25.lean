/-
  Texts laid together in one: AsmParseL, KitInst, KitModule, KitNone, Ref02Ends, Ref02Places, Ref02Read, Ref02Write, Ref02Find, Frame, FrameSmall, FrameMeasure.
-/
import Derived.WalkSpells
import Derived.WalkMore
import Derived.BigRegion
import Derived.Test.YtmobologlaeefaaGreatProg
import Derived.Test.YtmobologlaeefaaGreatB24
import Derived.Deep.QuietTactic
import Derived.BigQuiet
import Derived.Test.YtmobologlaeefaaGreatB03
import Derived.Deep.RegionWith
import Derived.Deep.DrawnRows
import Derived.Test.YtmobologlaeefaaGreatB19
import Derived.Deep.AppendLies
import Derived.Deep.RegionLaw
import Derived.Test.YtmobologlaeefaaGreatB09
/-
  What Parse of the layer asm returns, for every text.
-/
namespace Go.Proofs.YtmobologlaeefaaGreat
open Go.RowKit
set_option linter.unusedVariables false
set_option linter.unusedSimpArgs false
set_option maxRecDepth 10000

set_option maxHeartbeats 2000000 in
theorem asmParse_large (s : ByteArray) (w : World) (hs : 16777216 < s.size) :
    Calls Tryz.prog 9 #[.string s] w fun e w' => ParQ w w' (parseS s) e := by
  have hsi : decide ((16777216 : Int) < (s.size : Int)) = true := by simpa using (by omega : (16777216 : Int) < (s.size : Int))
  have HR : Hid (parseS s = ((0, 0, []), 4, 0)) := by show _ = _; unfold parseS; rw [if_pos hs]
  clear hs
  go_enter Tryz.func9, Tryz.ntmps9
  go_wp2_with fail
  refine bodyPost_ret (v := .tuple #[.agg #[.int .u32 0, .int .u32 0, .slice none 0 0], .agg #[.int .i64 4, .int .i64 0]]) ?_ rfl ?_
  · simp [results, Tryz.results9, go_sem]
  · unfold ParQ
    rw [HR.out]
    exact ⟨none, 0, 0, rfl, instsV_nil, rfl, fun j hj => by simp at hj, ((Below.refl _ w).alloc (Nat.le_refl _) _).alloc (by simp) _⟩

theorem asmParse_any (s : ByteArray) (w : World) : Calls Tryz.prog 9 #[.string s] w fun e w' => ParQ w w' (parseS s) e := by
  by_cases hs : s.size ≤ 16777216
  · exact asmParse_main s w hs
  · exact asmParse_large s w (by omega)

end Go.Proofs.YtmobologlaeefaaGreat

/-
  Inst of the kit tells whether two instructions are the same.
-/
namespace Go.Proofs.YtmobologlaeefaaGreat
open Go.RowKit
set_option maxRecDepth 10000

theorem two_boxes (w : World) (o p : Obj) : Below w.heap.size w ((w.alloc o).alloc p) := ((Below.refl _ w).alloc (Nat.le_refl _) _).alloc (by simp) _

theorem block_two (w : World) (xs ys : Array Value) (S T : Nat) :
    (∀ i, ((w.alloc (.cells xs S)).alloc (.cells ys T)).cell? ⟨w.heap.size, i, none⟩ = xs[i]?) ∧ (∀ i, ((w.alloc (.cells xs S)).alloc (.cells ys T)).cell? ⟨w.heap.size + 1, i, none⟩ = ys[i]?) := by
  constructor
  · intro i
    have h : ((w.alloc (.cells xs S)).alloc (.cells ys T)).heap[w.heap.size]? = some (.cells xs S (0, 0)) := (Below.heap_alloc _ _ _ (by simp)).trans (heap_alloc_new w _)
    simp only [World.cell?, h]; rfl
  · intro i
    have h : ((w.alloc (.cells xs S)).alloc (.cells ys T)).heap[w.heap.size + 1]? = some (.cells ys T (0, 0)) := by simpa using heap_alloc_new (w.alloc (.cells xs S)) (.cells ys T)
    simp only [World.cell?, h]; rfl

set_option maxHeartbeats 1000000 in
theorem kitInst_any (x y : InstT) (ax ay : Option Addr) (n m cx cy : Nat) (w : World) (hx : ArgsV w ax x.2.2.2) (hy : ArgsV w ay y.2.2.2) (hlx : x.2.2.2.length = n) (hly : y.2.2.2.length = m) (hn : n ≤ 140737488351232) (hm : m ≤ 140737488351232) :
    Calls Tryz.prog 32 #[instV x ax n cx, instV y ay m cy] w fun e w' => e = .returned (.bool (decide (x = y))) ∧ Below w.heap.size w w' := by
  obtain ⟨xo, xt, xr, xl⟩ := x
  obtain ⟨yo, yt, yr, yl⟩ := y
  unfold instV
  simp only at *
  have HLX : Hid (xl.length = n) := hlx
  have HLY : Hid (yl.length = m) := hly
  clear hlx hly
  by_cases H : xo = yo ∧ xt = yt ∧ xr = yr ∧ n = m
  · obtain ⟨rfl, rfl, rfl, rfl⟩ := H
    have e1 : decide ((xo, xt, xr, xl) = (xo, xt, xr, yl)) = decide (xl = yl) := by simp
    rw [e1]
    go_enter Tryz.func32, Tryz.ntmps32
    go_wp2
    have hB := two_boxes w (.cells #[.int .u16 xo, .int .u32 xt, .int .u32 xr, .slice ax n cx] 41) (.cells #[.int .u16 xo, .int .u32 xt, .int .u32 xr, .slice ay n cy] 41)
    have hx1 := hx.below hB
    have hy1 := hy.below hB
    have hA : ((w.alloc (.cells #[.int .u16 xo, .int .u32 xt, .int .u32 xr, .slice ax n cx] 41)).alloc (.cells #[.int .u16 xo, .int .u32 xt, .int .u32 xr, .slice ay n cy] 41)).cell? ⟨w.heap.size, 3, none⟩ = some (.slice ax n cx) := by simp [go_sem]
    have hA2 : ((w.alloc (.cells #[.int .u16 xo, .int .u32 xt, .int .u32 xr, .slice ax n cx] 41)).alloc (.cells #[.int .u16 xo, .int .u32 xt, .int .u32 xr, .slice ay n cy] 41)).cell? ⟨w.heap.size + 1, 3, none⟩ = some (.slice ay n cy) := by simp [go_sem]
    generalize ((w.alloc (.cells #[.int .u16 xo, .int .u32 xt, .int .u32 xr, .slice ax n cx] 41)).alloc (.cells #[.int .u16 xo, .int .u32 xt, .int .u32 xr, .slice ay n cy] 41)) = W at *
    clear hx hy
    go_loopw [5] (fun i wr => ∃ k q : Nat, k ≤ n ∧ i = .int .i64 k ∧ wr = W.drewN q ∧ ∀ j, j < k → nthA xl j = nthA yl j) (fun i _ => n - (intOf i).toNat)
    case atStart => exact ⟨0, 0, Nat.zero_le _, rfl, rfl, fun j hj => by omega⟩
    case round =>
      obtain ⟨k, q, hk, rfl, rfl, hall⟩ := hrel
      have HALL : Hid (∀ j, j < k → nthA xl j = nthA yl j) := hall
      clear hall
      by_cases hlt : k < n
      · obtain ⟨b1, o1, rfl, _, c1, c2, c3⟩ := hx1 k (by rw [HLX.out]; exact hlt)
        obtain ⟨b2, o2, rfl, _, d1, d2, d3⟩ := hy1 k (by rw [HLY.out]; exact hlt)
        have hk0 : (0 : Int) ≤ (k : Int) := by omega
        have hki : (k : Int) < (n : Int) := by omega
        by_cases he : nthA xl k = nthA yl k
        · rw [← he] at d1 d2 d3
          obtain ⟨z, hz⟩ : ∃ z, z = nthA xl k := ⟨_, rfl⟩
          obtain ⟨z1, z2, z3⟩ := z
          rw [← hz] at c1 c2 c3 d1 d2 d3
          have HE : Hid (nthA xl k = nthA yl k) := he
          clear hx1 hy1 hz he
          go_wp2
          go_quiet (fail)
          go_wp2
          go_roundw
          case rel => exact ⟨k + 1, _, by omega, by go_num, rfl, fun j hj => by
            by_cases hjk : j < k
            · exact HALL.out j hjk
            · obtain rfl : j = k := by omega
              exact HE.out⟩
          case measure => simp [intOf]; omega
        · obtain ⟨z, hz⟩ : ∃ z, z = nthA xl k := ⟨_, rfl⟩
          obtain ⟨y, hy⟩ : ∃ y, y = nthA yl k := ⟨_, rfl⟩
          rw [← hz] at c1 c2 c3
          rw [← hy] at d1 d2 d3
          have HE : Hid (decide (xl = yl) = false) := decide_eq_false (fun h => he (by rw [h]))
          rw [← hz, ← hy] at he
          obtain ⟨z1, z2, z3⟩ := z
          obtain ⟨y1, y2, y3⟩ := y
          clear hx1 hy1 hz hy
          by_cases h1 : z1 = y1
          · subst h1
            by_cases h2 : z2 = y2
            · subst h2
              have h3 : ¬ z3.toList = y3.toList := fun h => he (by rw [str_inj h])
              clear he
              go_wp2
              go_quiet (fail)
              go_wp2
              go_ret
              exact ⟨by rw [HE.out]; rfl, bel_drewN (bel_drewN hB q) _⟩
            · clear he
              go_wp2
              go_quiet (fail)
              go_wp2
              go_ret
              exact ⟨by rw [HE.out]; rfl, bel_drewN (bel_drewN hB q) _⟩
          · clear he
            go_wp2
            go_quiet (fail)
            go_wp2
            go_ret
            exact ⟨by rw [HE.out]; rfl, bel_drewN (bel_drewN hB q) _⟩
      · go_wp2
        go_ret
        refine ⟨?_, bel_drewN hB q⟩
        obtain rfl : k = n := by omega
        show Ending.returned (.bool true) = _
        rw [decide_eq_true]
        exact (argsEq_iff _ _).2 ⟨by rw [HLX.out, HLY.out], fun j hj => HALL.out j (by rw [← HLX.out]; exact hj)⟩
  · have e1 : decide ((xo, xt, xr, xl) = (yo, yt, yr, yl)) = false := by
      rw [decide_eq_false]
      intro h
      simp only [Prod.mk.injEq] at h
      obtain ⟨rfl, rfl, rfl, rfl⟩ := h
      exact H ⟨rfl, rfl, rfl, HLX.out.symm.trans HLY.out⟩
    rw [e1]
    go_enter Tryz.func32, Tryz.ntmps32
    go_wp2
    all_goals first | (exfalso; apply H; refine ⟨rfl, rfl, rfl, ?_⟩; omega) | (go_ret; exact ⟨rfl, two_boxes _ _ _⟩)

end Go.Proofs.YtmobologlaeefaaGreat

/-
  Module of the kit tells whether two modules are the same.
-/
namespace Go.Proofs.YtmobologlaeefaaGreat
open Go.RowKit
set_option maxRecDepth 10000

def modV (g b : Int) (a : Option Addr) (n c : Nat) : Value := .agg #[.int .u32 g, .int .u32 b, .slice a n c]

set_option maxHeartbeats 2000000 in
theorem kitModule_any (g1 b1 g2 b2 : Int) (l m : List InstT) (ax ay : Option Addr) (nx ny cx cy : Nat) (w : World) (hx : InstsV w ax l) (hy : InstsV w ay m) (hlx : l.length = nx) (hly : m.length = ny) (hokx : InstsOk l) (hoky : InstsOk m) (hnx : nx ≤ 140737488351232) (hny : ny ≤ 140737488351232) (r : Bool) (hr : r = true ↔ (g1 = g2 ∧ b1 = b2 ∧ l = m)) :
    Calls Tryz.prog 10 #[modV g1 b1 ax nx cx, modV g2 b2 ay ny cy] w fun e w' => e = .returned (.bool r) ∧ Below w.heap.size w w' := by
  have HR : Hid (r = true ↔ (g1 = g2 ∧ b1 = b2 ∧ l = m)) := hr
  clear hr
  unfold modV
  have HLX : Hid (l.length = nx) := hlx
  have HLY : Hid (m.length = ny) := hly
  clear hlx hly
  by_cases H : g1 = g2 ∧ b1 = b2 ∧ nx = ny
  · obtain ⟨rfl, rfl, rfl⟩ := H
    go_enter Tryz.func10, Tryz.ntmps10
    go_wp2
    have hB := two_boxes w (.cells #[.int .u32 g1, .int .u32 b1, .slice ax nx cx] 25) (.cells #[.int .u32 g1, .int .u32 b1, .slice ay nx cy] 25)
    have hx1 := hx.below hB
    have hy1 := hy.below hB
    have hs : w.heap.size + 2 = ((w.alloc (.cells #[.int .u32 g1, .int .u32 b1, .slice ax nx cx] 25)).alloc (.cells #[.int .u32 g1, .int .u32 b1, .slice ay nx cy] 25)).heap.size := by simp
    have hA : ((w.alloc (.cells #[.int .u32 g1, .int .u32 b1, .slice ax nx cx] 25)).alloc (.cells #[.int .u32 g1, .int .u32 b1, .slice ay nx cy] 25)).cell? ⟨w.heap.size, 2, none⟩ = some (.slice ax nx cx) := by simp [go_sem]
    have hA2 : ((w.alloc (.cells #[.int .u32 g1, .int .u32 b1, .slice ax nx cx] 25)).alloc (.cells #[.int .u32 g1, .int .u32 b1, .slice ay nx cy] 25)).cell? ⟨w.heap.size + 1, 2, none⟩ = some (.slice ay nx cy) := by simp [go_sem]
    generalize ((w.alloc (.cells #[.int .u32 g1, .int .u32 b1, .slice ax nx cx] 25)).alloc (.cells #[.int .u32 g1, .int .u32 b1, .slice ay nx cy] 25)) = W at *
    clear hx hy
    go_loopw [5] (fun i wr => ∃ k : Nat, k ≤ nx ∧ i = .int .i64 k ∧ Below W.heap.size W wr ∧ ∀ j, j < k → nthI l j = nthI m j) (fun i _ => nx - (intOf i).toNat)
    case atStart => exact ⟨0, Nat.zero_le _, rfl, Below.refl _ _, fun j hj => by omega⟩
    case round =>
      obtain ⟨k, hk, rfl, hbr, hall⟩ := hrel
      have HALL : Hid (∀ j, j < k → nthI l j = nthI m j) := hall
      clear hall
      have hs2 := hbr.size
      have hA1 := (hbr.cell (p := ⟨w.heap.size, 2, none⟩) (by show w.heap.size < _; omega)).trans hA
      have hA3 := (hbr.cell (p := ⟨w.heap.size + 1, 2, none⟩) (by show w.heap.size + 1 < _; omega)).trans hA2
      by_cases hlt : k < nx
      · obtain ⟨b1, o1, p1, k1, n1, rfl, l1, c1, c2, c3, c4, c5, c6, _⟩ := hx1 k (by rw [HLX.out]; exact hlt)
        obtain ⟨b2, o2, p2, k2, n2, rfl, l2, d1, d2, d3, d4, d5, d6, _⟩ := hy1 k (by rw [HLY.out]; exact hlt)
        have hk0 : (0 : Int) ≤ (k : Int) := by omega
        have hki : (k : Int) < (nx : Int) := by omega
        have s1 := (hokx k (by rw [HLX.out]; exact hlt)).2.2.2.2.2.2.2
        have s2 := (hoky k (by rw [HLY.out]; exact hlt)).2.2.2.2.2.2.2
        rw [c5] at s1
        rw [d5] at s2
        have hC := fun wx (hb : Below W.heap.size W wx) => kitInst_any (nthI l k) (nthI m k) p1 p2 n1 n2 k1 k2 wx (c6.below hb) (d6.below hb) c5 d5 (by omega) (by omega)
        unfold instV at hC
        replace c1 := (hbr.cell (p := ⟨b1, o1 + k * 4, none⟩) l1).trans c1
        replace c2 := (hbr.cell (p := ⟨b1, o1 + k * 4 + 1, none⟩) l1).trans c2
        replace c3 := (hbr.cell (p := ⟨b1, o1 + k * 4 + 2, none⟩) l1).trans c3
        replace c4 := (hbr.cell (p := ⟨b1, o1 + k * 4 + 3, none⟩) l1).trans c4
        replace d1 := (hbr.cell (p := ⟨b2, o2 + k * 4, none⟩) l2).trans d1
        replace d2 := (hbr.cell (p := ⟨b2, o2 + k * 4 + 1, none⟩) l2).trans d2
        replace d3 := (hbr.cell (p := ⟨b2, o2 + k * 4 + 2, none⟩) l2).trans d3
        replace d4 := (hbr.cell (p := ⟨b2, o2 + k * 4 + 3, none⟩) l2).trans d4
        clear hx1 hy1 hA hA2 c5 c6 d5 d6 s1 s2
        by_cases he : nthI l k = nthI m k
        · have HE : Hid (nthI l k = nthI m k) := he
          rw [decide_eq_true he] at hC
          clear he
          go_wp2
          go_region_with ((go_at_call 32; refine (hC _ (by first | exact hbr | exact hbr.drew)).mono ?_; rintro e w' ⟨rfl, hbC⟩))
          all_goals
            have hbC' : Below W.heap.size W w' := by first | exact hbr.trans (hbC.mono hs2) | exact hbr.drew.trans (hbC.mono (by exact hs2))
            clear hbC
            go_wp2
            go_roundw
            case rel => exact ⟨k + 1, by omega, by go_num, by first | exact hbC' | exact hbC'.drew, fun j hj => by
              by_cases hjk : j < k
              · exact HALL.out j hjk
              · obtain rfl : j = k := by omega
                exact HE.out⟩
            case measure => simp [intOf]; omega
        · have HE : Hid (r = false) := by
            show r = false
            rw [← Bool.not_eq_true]
            intro hr
            obtain ⟨_, _, h⟩ := HR.out.1 hr
            exact he (by rw [h])
          rw [decide_eq_false he] at hC
          clear he
          go_wp2
          go_region_with ((go_at_call 32; refine (hC _ (by first | exact hbr | exact hbr.drew)).mono ?_; rintro e w' ⟨rfl, hbC⟩))
          all_goals
            have hbC' : Below W.heap.size W w' := by first | exact hbr.trans (hbC.mono hs2) | exact hbr.drew.trans (hbC.mono (by exact hs2))
            clear hbC
            go_wp2
            go_ret
            refine ⟨by rw [HE.out]; rfl, ?_⟩
            first | exact hB.trans (hbC'.mono (by omega)) | exact (hB.trans (hbC'.mono (by omega))).drew
      · go_wp2
        go_ret
        refine ⟨?_, hB.trans (hbr.mono (by omega))⟩
        obtain rfl : k = nx := by omega
        show Ending.returned (.bool true) = _
        rw [HR.out.2 ⟨trivial, trivial, (instsEq_iff _ _).2 ⟨by rw [HLX.out, HLY.out], fun j hj => HALL.out j (by rw [← HLX.out]; exact hj)⟩⟩]
  · have e1 : r = false := by
      rw [← Bool.not_eq_true]
      intro hr
      obtain ⟨h1, h2, h3⟩ := HR.out.1 hr
      exact H ⟨h1, h2, by rw [← HLX.out, ← HLY.out, h3]⟩
    subst e1
    go_enter Tryz.func10, Tryz.ntmps10
    go_wp2
    all_goals first | (exfalso; apply H; refine ⟨rfl, rfl, ?_⟩; omega) | (go_ret; exact ⟨rfl, two_boxes _ _ _⟩)

end Go.Proofs.YtmobologlaeefaaGreat

/-
  None of the kit tells whether a module is none.
-/
namespace Go.Proofs.YtmobologlaeefaaGreat
open Go.RowKit
set_option linter.unusedVariables false
set_option linter.unusedSimpArgs false

theorem kitNone_none (a : Option Addr) (c : Nat) (w : World) : Calls Tryz.prog 12 #[modV 0 0 a 0 c] w fun e w' => e = .returned (.bool true) ∧ Below w.heap.size w w' := by
  unfold modV
  go_enter Tryz.func12, Tryz.ntmps12
  go_wp2
  go_ret
  exact ⟨rfl, (Below.refl _ _).alloc (Nat.le_refl _) _⟩

end Go.Proofs.YtmobologlaeefaaGreat

/-
  What Count, Ends and Wrong of the document's answer return.
-/
namespace Go.Proofs.YtmobologlaeefaaGreat
open Go.RowKit
set_option maxRecDepth 10000

theorem refCount_any (a : Option Addr) (n cap : Nat) (zs : List Int) (w : World) (p : Nat) (ha : View .u32 w a zs) (hl : zs.length = n) (hw : Within 4294967296 zs) (hp : p < n) :
    Calls Tryz.prog 105 #[.slice a n cap, .int .i64 p] w fun e w' => e = .returned (.int .i64 (cntN zs p)) ∧ w = w' := by
  obtain ⟨b, off, rfl, _, hc⟩ := ha p (by omega)
  have hx := hw.at (k := p) (by omega)
  have HC : Hid (nth zs p / 65536 = (cntN zs p : Int)) := cntN_int zs p hx.1
  have hpi : (p : Int) < (n : Int) := by omega
  clear ha hl hw
  generalize nth zs p = x at hc hx HC
  have hx0 := hx.1
  have hx1 := hx.2
  go_enter Tryz.func105, Tryz.ntmps105
  go_wp2
  go_ret
  exact ⟨ret_int HC.out, rfl⟩

theorem refEnds_yes (a : Option Addr) (n cap : Nat) (zs : List Int) (w : World) (p : Nat) (ha : View .u32 w a zs) (hl : zs.length = n) (hw : Within 4294967296 zs) (hn : 4 * n ≤ 140737488351232) (hp : p < n) (h : badB zs p = false) :
    Calls Tryz.prog 68 #[.slice a n cap, .int .i64 p] w fun e w' => e = .returned (.tuple #[.int .i64 ((p + cntN zs p : Nat) : Int), .bool true]) ∧ w = w' := by
  have hC := fun wx hv => refCount_any a n cap zs wx p hv hl hw hp
  have h1 := cnt_pos h
  have h2 := cnt_fits h
  rw [hl] at h2
  have hCw := hC w ha
  clear hC ha hl hw h
  generalize cntN zs p = c at *
  have hc0 : ((c : Int) == 0) = false := by simp; omega
  have hc1 : decide ((n : Int) - (p : Int) < (c : Int)) = false := decide_eq_false (by omega)
  go_enter Tryz.func68, Tryz.ntmps68
  go_wp2_with fail
  refine hCw.mono ?_
  rintro e w' ⟨rfl, rfl⟩
  go_wp2
  go_ret2
  exact ⟨rfl, rfl⟩

theorem refEnds_no (a : Option Addr) (n cap : Nat) (zs : List Int) (w : World) (p : Nat) (ha : View .u32 w a zs) (hl : zs.length = n) (hw : Within 4294967296 zs) (hn : 4 * n ≤ 140737488351232) (hp : p < n) (h : badB zs p = true) :
    Calls Tryz.prog 68 #[.slice a n cap, .int .i64 p] w fun e w' => e = .returned (.tuple #[.int .i64 0, .bool false]) ∧ w = w' := by
  have hCw := refCount_any a n cap zs w p ha hl hw hp
  have h' : cntN zs p = 0 ∨ n < p + cntN zs p := by unfold badB at h; rw [hl] at h; simpa using h
  clear ha hl hw h
  generalize cntN zs p = c at *
  by_cases hz : c = 0
  · subst hz
    go_enter Tryz.func68, Tryz.ntmps68
    go_wp2_with fail
    refine hCw.mono ?_
    rintro e w' ⟨rfl, rfl⟩
    go_wp2
    go_ret2
    exact ⟨rfl, rfl⟩
  · have hc0 : ((c : Int) == 0) = false := by simp; omega
    have hc1 : decide ((n : Int) - (p : Int) < (c : Int)) = true := decide_eq_true (by omega)
    clear h' hz
    go_enter Tryz.func68, Tryz.ntmps68
    go_wp2_with fail
    refine hCw.mono ?_
    rintro e w' ⟨rfl, rfl⟩
    go_wp2
    go_ret2
    exact ⟨rfl, rfl⟩

end Go.Proofs.YtmobologlaeefaaGreat

/-
  What Places of the document's answer returns, of at most 1048576 words: the places of the instructions, in new memory.
-/
namespace Go.Proofs.YtmobologlaeefaaGreat
open Go.RowKit
set_option maxRecDepth 10000

theorem RefPlaces.info : (Tryz.prog.info? 3).map (fun i => (i.zero, i.size, i.bytes)) = some (some (.int .i64 0), 1, 8) := by kernel_rfl

theorem own_shape {w : World} {B e n : Nat} {v : Value} {xs : List Value} (h : w.ownsRow B e 1 v n xs) : ∃ a c, v = .slice a n c := by
  rcases h.2 with ⟨rfl, rfl⟩ | ⟨g, c, cur, rfl, _⟩
  · exact ⟨none, 0, rfl⟩
  · exact ⟨_, c, rfl⟩

end Go.Proofs.YtmobologlaeefaaGreat

/-
  What Read of the document's answer returns, for every list of words: its error and its place, or the head and the instructions, in new memory.
-/
namespace Go.Proofs.YtmobologlaeefaaGreat
open Go.RowKit

theorem RefRead.info : (Tryz.prog.info? 93).map (fun i => (i.zero, i.size, i.bytes)) = some (some (.agg #[.int .u16 0, .slice none 0 0]), 2, 32) := by kernel_rfl

theorem refRead_large (a : Option Addr) (n cap : Nat) (w : World) (h : 1048576 < n) :
    Calls Tryz.prog 39 #[.slice a n cap] w fun e w' => e = .returned (.tuple #[.agg #[.int .u32 0, .int .u32 0], .slice none 0 0, .agg #[.int .i64 4, .int .i64 1048576]]) ∧ Below w.heap.size w w' := by
  have b1 : decide ((1048576 : Int) < (n : Int)) = true := decide_eq_true (by omega)
  go_enter Tryz.func39, Tryz.ntmps39
  go_wp2
  exact bodyPost_ret (v := .tuple #[.agg #[.int .u32 0, .int .u32 0], .slice none 0 0, .agg #[.int .i64 4, .int .i64 1048576]]) (by simp [results, Tryz.results39, go_sem]) rfl ⟨rfl, ((Below.refl _ _).alloc (Nat.le_refl _) _).alloc (by simp) _⟩

set_option maxHeartbeats 1000000 in
theorem refRead_head (a : Option Addr) (n cap : Nat) (zs : List Int) (w : World) (ha : View .u32 w a zs) (hl : zs.length = n) (hn : n ≤ 1048576) (he : (headE zs 0).1 ≠ 0) :
    Calls Tryz.prog 39 #[.slice a n cap] w fun e w' => e = .returned (.tuple #[.agg #[.int .u32 0, .int .u32 0], .slice none 0 0, .agg #[.int .i64 (headE zs 0).1, .int .i64 (headE zs 0).2]]) ∧ Below w.heap.size w w' := by
  have b1 : decide ((1048576 : Int) < (n : Int)) = false := decide_eq_false (by omega)
  have HL : Hid (zs.length = n) := hl
  have HE : Hid ((headE zs 0).1 ≠ 0) := he
  have hav := ha.below (((Below.refl _ w).alloc (Nat.le_refl _) (.cells #[.int .u32 0, .int .u32 0] 58)).alloc (by simp) (.cells #[.int .i64 0, .int .i64 0] 28))
  clear hl he ha
  go_enter Tryz.func39, Tryz.ntmps39
  go_wp2
  go_loop [5] (fun i => ∃ k : Nat, k ≤ 5 ∧ i = .int .i64 k ∧ headE zs 0 = headE zs k) (fun i => 5 - (intOf i).toNat)
  case atStart => exact ⟨0, by omega, rfl, rfl⟩
  case round =>
    obtain ⟨k, hk, rfl, hke⟩ := hrel
    have HK : Hid (headE zs 0 = headE zs k) := hke
    clear hke
    by_cases hk5 : k < 5
    · have HS : Hid (headE zs k = if n ≤ k then (14, k) else if wrongE k (nth zs k) ≠ 0 then (wrongE k (nth zs k), k) else headE zs (k + 1)) := by
        have := headE_step zs k hk5
        rw [HL.out] at this
        exact this
      by_cases hlt : k < n
      · obtain ⟨b, off, rfl, _, hc⟩ := hav k (by rw [HL.out]; exact hlt)
        have hW := fun wx => refWrong_any k (nth zs k) wx hk5
        have hki : (k : Int) < (n : Int) := by omega
        clear hav
        generalize nth zs k = x at hc hW HS
        by_cases hx : wrongE k x = 0
        · have HE2 : Hid (headE zs 0 = headE zs (k + 1)) := by show _ = _; rw [HK.out, HS.out, if_neg (by omega), if_neg (by simp [hx])]
          rw [hx] at hW
          go_wp2_with (go_at_call 67; refine (hW _).mono ?_; rintro e w' ⟨rfl, rfl⟩)
          go_round
          case rel => exact ⟨k + 1, by omega, by go_num, HE2.out⟩
          case measure => simp [intOf]; omega
        · have HE2 : Hid (headE zs 0 = (wrongE k x, k)) := by show _ = _; rw [HK.out, HS.out, if_neg (by omega), if_pos hx]
          have hxb : (wrongE k x == 0) = false := by simpa using hx
          clear hx
          generalize wrongE k x = er at hW hxb HE2
          go_wp2_with (go_at_call 67; refine (hW _).mono ?_; rintro e w' ⟨rfl, rfl⟩)
          exact bodyPost_ret (v := .tuple #[.agg #[.int .u32 0, .int .u32 0], .slice none 0 0, .agg #[.int .i64 er, .int .i64 k]]) (by simp [results, Tryz.results39, go_sem]) rfl ⟨by rw [HE2.out], ((Below.refl _ _).alloc (Nat.le_refl _) _).alloc (by simp) _⟩
      · have HE2 : Hid (headE zs 0 = (14, k)) := by show _ = _; rw [HK.out, HS.out, if_pos (by omega)]
        have hki : (n : Int) ≤ (k : Int) := by omega
        go_wp2
        exact bodyPost_ret (v := .tuple #[.agg #[.int .u32 0, .int .u32 0], .slice none 0 0, .agg #[.int .i64 14, .int .i64 k]]) (by simp [results, Tryz.results39, go_sem]) rfl ⟨by rw [HE2.out], ((Below.refl _ _).alloc (Nat.le_refl _) _).alloc (by simp) _⟩
    · exfalso
      obtain rfl : k = 5 := by omega
      apply HE.out
      rw [HK.out, headE_end]

theorem head_ok (zs : List Int) (h : (headE zs 0).1 = 0) : 5 ≤ zs.length ∧ ∀ k, k < 5 → wrongE k (nth zs k) = 0 := by
  have key : ∀ d k, 5 - k = d → k ≤ 5 → (headE zs k).1 = 0 → (k < 5 → 5 ≤ zs.length) ∧ ∀ j, k ≤ j → j < 5 → wrongE j (nth zs j) = 0 := by
    intro d
    induction d with
    | zero => intro k hd hk _; exact ⟨fun h => by omega, fun j h1 h2 => by omega⟩
    | succ d ih =>
      intro k hd hk hz
      rw [headE_step zs k (by omega)] at hz
      by_cases h1 : zs.length ≤ k
      · rw [if_pos h1] at hz; simp at hz
      · rw [if_neg h1] at hz
        by_cases h2 : wrongE k (nth zs k) ≠ 0
        · rw [if_pos h2] at hz; exact absurd hz h2
        · rw [if_neg h2] at hz
          obtain ⟨g1, g2⟩ := ih (k + 1) (by omega) (by omega) hz
          refine ⟨fun _ => ?_, fun j hj1 hj2 => ?_⟩
          · by_cases e : k + 1 < 5
            · exact g1 e
            · omega
          · by_cases e : j = k
            · subst e; exact Classical.byContradiction h2
            · exact g2 j (by omega) hj2
  have := key 5 0 rfl (by omega) h
  exact ⟨this.1 (by omega), fun k hk => this.2 k (by omega) hk⟩

theorem set_two_boxes {w : World} {g0 g1 T0 T1 : Nat} {a b c d : Value} (h0 : w.heap[g0]? = some (.cells #[a, b] T0 (0, 0))) (h1 : w.heap[g1]? = some (.cells #[c, d] T1 (0, 0))) (hne : g0 ≠ g1) (u0 u1 v0 v1 : Value) :
    ((((w.setCell ⟨g0, 0, none⟩ u0).setCell ⟨g0, 1, none⟩ u1).setCell ⟨g1, 0, none⟩ v0).setCell ⟨g1, 1, none⟩ v1).cell? ⟨g0, 0, none⟩ = some u0 ∧
    ((((w.setCell ⟨g0, 0, none⟩ u0).setCell ⟨g0, 1, none⟩ u1).setCell ⟨g1, 0, none⟩ v0).setCell ⟨g1, 1, none⟩ v1).cell? ⟨g0, 1, none⟩ = some u1 ∧
    ((((w.setCell ⟨g0, 0, none⟩ u0).setCell ⟨g0, 1, none⟩ u1).setCell ⟨g1, 0, none⟩ v0).setCell ⟨g1, 1, none⟩ v1).cell? ⟨g1, 0, none⟩ = some v0 ∧
    ((((w.setCell ⟨g0, 0, none⟩ u0).setCell ⟨g0, 1, none⟩ u1).setCell ⟨g1, 0, none⟩ v0).setCell ⟨g1, 1, none⟩ v1).cell? ⟨g1, 1, none⟩ = some v1 := by
  have hne' : ¬ g1 = g0 := fun e => hne e.symm
  refine ⟨?_, ?_, ?_, ?_⟩ <;> simp [World.setCell, World.cell?, Array.getElem?_modify, h0, h1, hne, hne']

theorem own_shape2 {w : World} {B e n : Nat} {v : Value} {xs : List Value} (h : w.ownsRow B e 2 v n xs) : ∃ a c, v = .slice a n c := by
  rcases h.2 with ⟨rfl, rfl⟩ | ⟨g, c, cur, rfl, _⟩
  · exact ⟨none, 0, rfl⟩
  · exact ⟨_, c, rfl⟩

set_option maxRecDepth 100000 in
set_option maxHeartbeats 4000000 in
theorem refRead_body (a : Option Addr) (n cap : Nat) (zs : List Int) (w : World) (ha : View .u32 w a zs) (hl : zs.length = n) (hw : Within 4294967296 zs) (hn : n ≤ 1048576) (he : (headE zs 0).1 = 0) :
    Calls Tryz.prog 39 #[.slice a n cap] w fun e w' => Below w.heap.size w w' ∧
      ((stop zs 5 < n ∧ e = .returned (.tuple #[.agg #[.int .u32 0, .int .u32 0], .slice none 0 0, .agg #[.int .i64 25, .int .i64 (stop zs 5)]])) ∨
       (¬ stop zs 5 < n ∧ ∃ ax cx m, e = .returned (.tuple #[.agg #[.int .u32 (nth zs 2), .int .u32 (nth zs 3)], .slice ax m cx, .agg #[.int .i64 0, .int .i64 0]]) ∧ (readR zs).length = m ∧ RawsV w' ax (readR zs))) := by
  have b1 : decide ((1048576 : Int) < (n : Int)) = false := decide_eq_false (by omega)
  obtain ⟨i0, hi, hz0, hz1, hz2⟩ := info_parts RefRead.info
  have HL : Hid (zs.length = n) := hl
  obtain ⟨h5, hwr⟩ := head_ok zs he
  rw [hl] at h5
  have HW : Hid (∀ k, k < 5 → wrongE k (nth zs k) = 0) := hwr
  have hav := ha.below (((Below.refl _ w).alloc (Nat.le_refl _) (.cells #[.int .u32 0, .int .u32 0] 58)).alloc (by simp) (.cells #[.int .i64 0, .int .i64 0] 28))
  clear hl he hwr
  go_enter Tryz.func39, Tryz.ntmps39
  go_wp2
  go_loop [5] (fun i => ∃ k : Nat, k ≤ 5 ∧ i = .int .i64 k) (fun i => 5 - (intOf i).toNat)
  case atStart => exact ⟨0, by omega, rfl⟩
  case round =>
    obtain ⟨k, hk, rfl⟩ := hrel
    by_cases hk5 : k < 5
    · obtain ⟨b, off, rfl, _, hc⟩ := hav k (by rw [HL.out]; omega)
      have hW := fun wx => refWrong_any k (nth zs k) wx hk5
      have hki : (k : Int) < (n : Int) := by omega
      rw [HW.out k hk5] at hW
      clear hav ha
      generalize nth zs k = x at hc hW
      go_wp2_with (go_at_call 67; refine (hW _).mono ?_; rintro e w' ⟨rfl, rfl⟩)
      go_round
      case rel => exact ⟨k + 1, by omega, by go_num⟩
      case measure => simp [intOf]; omega
    · obtain rfl : k = 5 := by omega
      clear hav
      go_wp2
      go_loopw [7, 8] (fun v i wr => ∃ (p : Nat) (out : List Nat) (cs : List Value), p ≤ n ∧ i = .int .i64 p ∧ out ++ rest zs p = rest zs 5 ∧ stop zs p = stop zs 5 ∧ wr.ownsRow (w.heap.size + 2) 93 2 v out.length cs ∧ RowR wr (w.heap.size + 2) v.ownBlock (out.map (rawAt zs)) cs ∧
          wr.heap[w.heap.size]? = some (.cells #[.int .u32 0, .int .u32 0] 58 (0, 0)) ∧ wr.heap[w.heap.size + 1]? = some (.cells #[.int .i64 0, .int .i64 0] 28 (0, 0)) ∧ Below w.heap.size w wr)
        (fun _ i _ => n - (intOf i).toNat)
      case atStart =>
        refine ⟨5, [], [], h5, rfl, rfl, rfl, World.ownsRow_nil _ _ _ _, rowR_nil, ?_, ?_, ((Below.refl _ _).alloc (Nat.le_refl _) _).alloc (by simp) _⟩
        · rw [Below.heap_alloc _ _ _ (by simp)]
          exact heap_alloc_new w _
        · have := heap_alloc_new (w.alloc (.cells #[.int .u32 0, .int .u32 0] 58)) (.cells #[.int .i64 0, .int .i64 0] 28)
          simpa using this
      case round =>
        obtain ⟨p, out, cs, hp, rfl, hout, hst, hown, hrow, hb0, hb1, hnx⟩ := hrel
        obtain ⟨ax, cx, rfl⟩ := own_shape2 hown
        have HO : Hid (out ++ rest zs p = rest zs 5) := hout
        have HST : Hid (stop zs p = stop zs 5) := hst
        have hol : out.length ≤ n := by
          have h1 := rest_len zs 5
          have h2 : out.length ≤ (rest zs 5).length := by rw [← hout]; simp
          rw [HL.out] at h1; omega
        have hsz := hnx.size
        have hs1 : w.heap.size + 1 < wr.heap.size := (Array.getElem?_eq_some_iff.1 hb1).1
        clear hout hst
        by_cases hlt : p < n
        · cases hb : badB zs p with
          | false =>
            have hE := refEnds_yes a n cap zs wr p (ha.below hnx) HL.out hw (by omega) hlt hb
            have HG : Hid (rest zs p = p :: rest zs (p + cntN zs p)) := rest_go zs p (by rw [HL.out]; exact hlt) hb
            have HG2 : Hid (stop zs p = stop zs (p + cntN zs p)) := stop_go zs p (by rw [HL.out]; exact hlt) hb
            have hcp := cnt_pos hb
            have hcf := cnt_fits hb
            rw [HL.out] at hcf
            have hA := fun wx hb' => refAt_any a n cap zs wx p (p + cntN zs p) (ha.below hb') HL.out hw (by omega) (by omega) (by omega)
            have e3 : p + cntN zs p - p - 1 = cntN zs p - 1 := by omega
            rw [e3] at hA
            have HRA : Hid (rawAt zs p = (opI zs p, midL zs (p + 1) (cntN zs p - 1))) := rfl
            have HML : Hid ((midL zs (p + 1) (cntN zs p - 1)).length = cntN zs p - 1) := midL_len zs (p + 1) _ (by rw [HL.out]; omega)
            have hAw := hA wr hnx
            clear hb hA e3 ha
            generalize cntN zs p = c at *
            generalize midL zs (p + 1) (c - 1) = ms at *
            generalize opI zs p = op at *
            go_wp2_with (go_at_call 68; refine hE.mono ?_; rintro e w' ⟨rfl, rfl⟩)
            refine hAw.mono ?_
            rintro e w1 ⟨a1, c1, rfl, hown1, hbA⟩
            have s1 := hbA.size
            have hown' := own_below hown hbA
            have hrow1 := hrow.below hbA
            have hb0' := (hbA.block _ (by omega)).trans hb0
            have hb1' := (hbA.block _ hs1).trans hb1
            have hvA := View.ofOwn hown1 HML.out
            have hc1 : c - 1 ≤ c1 := by
              rcases hown1.2 with ⟨h1, h2⟩ | ⟨g, c', cur, h1, _, _, h4, _⟩
              · omega
              · cases h1; exact h4
            have hvo : ∀ b, Value.ownBlock (.slice ax out.length cx) = some b → w.heap.size + 2 ≤ b ∧ b < wr.heap.size := fun b hb => by
              rcases hown.2 with ⟨h1, _⟩ | ⟨g, c', cur, h1, h2, h3, _⟩
              · rw [h1] at hb; simp [Value.ownBlock] at hb
              · rw [h1] at hb; simp [Value.ownBlock] at hb; subst hb; exact ⟨h2, (Array.getElem?_eq_some_iff.1 h3).1⟩
            have ha1 : ∀ b off s, a1 = some ⟨b, off, s⟩ → Value.ownBlock (.slice ax out.length cx) ≠ some b ∧ b < w1.heap.size + 1 ∧ w.heap.size + 2 ≤ b := fun b off s e => by
              rcases hown1.2 with ⟨h1, _⟩ | ⟨g, c', cur, h1, h2, h3, _⟩
              · cases e; simp at h1
              · cases e
                simp at h1
                obtain ⟨⟨rfl, _⟩, _⟩ := h1
                have := (Array.getElem?_eq_some_iff.1 h3).1
                exact ⟨fun e2 => by have := (hvo _ e2).2; omega, by omega, by omega⟩
            have hbw1 : Below w.heap.size w w1 := hnx.trans (hbA.mono hsz)
            clear hown hrow hb0 hb1 hown1 hAw hE
            go_wp2_with (at_builtin; refine wpList_append_lies _ rfl (.tmp 54) (.tmp 59) 75 rfl (w.heap.size + 2) 93 i0 (.agg #[.int .u16 0, .slice none 0 0]) 2 32 Tryz.underlying75 hi hz0 hz1 hz2 rfl (by omega) (.slice ax out.length cx) out.length cs rfl (hown'.alloc _) ⟨w1.heap.size, 0, none⟩ 1 1 [.int .u16 op, .slice a1 (c - 1) c1] rfl rfl (World.news_of_block (cs := #[.int .u16 op, .slice a1 (c - 1) c1]) (t := 93) (fr := (0, 0)) (heap_alloc_new w1 _)) (by simp [Value.oneCell']) (by omega) (by unfold maxLen; omega) (by omega) (by simp; omega) (w1.heap.size + 1) (by simp) ?_)
            intro g2 cap2 w2 hown2 hgrow2 hat2 hlt2
            have hrow2 := RowR.push (r := (op, ms)) (hrow1.below ((Below.refl _ w1).alloc (Nat.le_refl _) _)) (hvA.below ((Below.refl _ w1).alloc (Nat.le_refl _) _)) HML.out hc1 ha1 (by simp) hgrow2 hat2
            have hb02 := (hgrow2.block w.heap.size (by simp; omega) (fun e => by have := (hvo _ e.symm).1; omega)).trans ((Below.heap_alloc w1 _ _ (by omega)).trans hb0')
            have hb12 := (hgrow2.block (w.heap.size + 1) (by simp; omega) (fun e => by have := (hvo _ e.symm).1; omega)).trans ((Below.heap_alloc w1 _ _ (by omega)).trans hb1')
            have hbw2 : Below w.heap.size w w2 := (hbw1.alloc (by omega) _).grown hgrow2 (by simp; omega) (fun k hk => by have := (hvo k hk).1; omega)
            clear hown' hrow1 hvA hgrow2 hat2 ha1 hbw1 hb0' hb1' hvo
            go_wp2
            go_roundw
            case rel =>
              refine ⟨p + c, out ++ [p], cs ++ [.int .u16 op, .slice a1 (c - 1) c1], by omega, by go_num, ?_, ?_, ?_, ?_, hb02, hb12, hbw2⟩
              · rw [List.append_assoc, List.singleton_append, ← HG.out]; exact HO.out
              · rw [← HG2.out]; exact HST.out
              · rw [List.length_append, List.length_singleton]; exact hown2
              · rw [List.map_append, List.map_singleton, HRA.out]; exact hrow2
            case measure => simp [intOf]; omega
          | true =>
            have hE := refEnds_no a n cap zs wr p (ha.below hnx) HL.out hw (by omega) hlt hb
            have HS2 : Hid (stop zs 5 = p) := by show _ = _; rw [← HST.out]; exact stop_bad zs p (by rw [HL.out]; exact hlt) hb
            obtain ⟨c0, c1, f1⟩ := cell_of_two hb0
            obtain ⟨d0, d1, g1⟩ := cell_of_two hb1
            have f0 : wr.frozen? ⟨w.heap.size, 0, none⟩ = false := by simp [World.frozen?, hb0]
            have g0 : wr.frozen? ⟨w.heap.size + 1, 0, none⟩ = false := by simp [World.frozen?, hb1]
            clear hb ha
            have hz := set_two_boxes hb0 hb1 (by omega) (.int .u32 0) (.int .u32 0) (.int .i64 25) (.int .i64 (p : Int))
            have HZ : Hid _ := hz
            clear hz
            go_wp2_with (go_at_call 68; refine hE.mono ?_; rintro e w' ⟨rfl, rfl⟩)
            refine bodyPost_ret (v := .tuple #[.agg #[.int .u32 0, .int .u32 0], .slice none 0 0, .agg #[.int .i64 25, .int .i64 p]]) (by simp [results, Tryz.results39, go_sem, HZ.out.1, HZ.out.2.1, HZ.out.2.2.1, HZ.out.2.2.2]) rfl ⟨?_, .inl ⟨by rw [HS2.out]; exact hlt, by rw [HS2.out]⟩⟩
            exact (((hnx.setCell (by simp) _).setCell (by simp) _).setCell (by simp) _).setCell (by simp) _
        · have HS2 : Hid (stop zs 5 = p) := by show _ = _; rw [← HST.out]; exact stop_end zs p (by rw [HL.out]; omega)
          obtain rfl : p = n := by omega
          have HR : Hid (readR zs = out.map (rawAt zs)) := by
            have e1 := HO.out
            rw [rest_end zs p (by rw [HL.out]; omega), List.append_nil] at e1
            show _ = _
            rw [readR, ← e1]
          obtain ⟨c0, c1, f1⟩ := cell_of_two hb0
          obtain ⟨d0, d1, g1⟩ := cell_of_two hb1
          have f0 : wr.frozen? ⟨w.heap.size, 0, none⟩ = false := by simp [World.frozen?, hb0]
          have g0 : wr.frozen? ⟨w.heap.size + 1, 0, none⟩ = false := by simp [World.frozen?, hb1]
          obtain ⟨b, off, rfl, _, w2⟩ := ha.below hnx 2 (by rw [HL.out]; omega)
          obtain ⟨b', off', e2, _, w3⟩ := ha.below hnx 3 (by rw [HL.out]; omega)
          simp at e2
          obtain ⟨rfl, rfl⟩ := e2
          have hz := set_two_boxes hb0 hb1 (by omega) (.int .u32 (nth zs 2)) (.int .u32 (nth zs 3)) (.int .i64 0) (.int .i64 0)
          have HZ : Hid _ := hz
          have h2 : (2 : Int) < (p : Int) := by omega
          have h3 : (3 : Int) < (p : Int) := by omega
          clear hz ha
          go_wp2
          go_region
          go_wp2
          refine bodyPost_ret (v := .tuple #[.agg #[.int .u32 (nth zs 2), .int .u32 (nth zs 3)], .slice ax out.length cx, .agg #[.int .i64 0, .int .i64 0]]) (by simp [results, Tryz.results39, go_sem, HZ.out.1, HZ.out.2.1, HZ.out.2.2.1, HZ.out.2.2.2]) rfl ⟨?_, .inr ⟨by rw [HS2.out]; omega, ax, cx, out.length, rfl, by rw [HR.out, List.length_map], ?_⟩⟩
          · exact ((((hnx.setCell (by simp) _).setCell (by simp) _).setCell (by simp) _).setCell (by simp) _).drew
          · rw [HR.out]
            have o1 := ownsRow_setCell_below (ownsRow_setCell_below (ownsRow_setCell_below (ownsRow_setCell_below hown (a := ⟨w.heap.size, 0, none⟩) (by simp) (.int .u32 (nth zs 2))) (a := ⟨w.heap.size, 1, none⟩) (by simp) (.int .u32 (nth zs 3))) (a := ⟨w.heap.size + 1, 0, none⟩) (by simp) (.int .i64 0)) (a := ⟨w.heap.size + 1, 1, none⟩) (by simp) (.int .i64 0)
            have r1 := (((hrow.setCell (g := w.heap.size) (j := 0) (by omega) (.int .u32 (nth zs 2))).setCell (g := w.heap.size) (j := 1) (by omega) (.int .u32 (nth zs 3))).setCell (g := w.heap.size + 1) (j := 0) (by omega) (.int .i64 0)).setCell (g := w.heap.size + 1) (j := 1) (by omega) (.int .i64 0)
            exact (r1.below (bel_drewN (Below.refl _ _) 1)).viewAny (own_below o1 (bel_drewN (Below.refl _ _) 1)) (by simp)

end Go.Proofs.YtmobologlaeefaaGreat

/-
  What Write of the document's answer returns, for every head and every list of instructions: its error and its place, or the words, in new memory.
-/
namespace Go.Proofs.YtmobologlaeefaaGreat
open Go.RowKit

theorem RefWrite.info : (Tryz.prog.info? 22).map (fun i => (i.zero, i.size, i.bytes)) = some (some (.int .u32 0), 1, 4) := by kernel_rfl

/-- An instruction's words. -/
def rawW (r : Int × List Int) : List Int := (((r.2.length : Int) + 1) * 65536 + r.1) :: r.2
/-- The words of the head and of the first k instructions. -/
def writeTo (gen bound : Int) (rs : List (Int × List Int)) (k : Nat) : List Int := [119734787, 65536, gen, bound, 0] ++ (rs.take k).flatMap rawW

theorem writeTo_succ (gen bound : Int) (rs : List (Int × List Int)) (k : Nat) (h : k < rs.length) : writeTo gen bound rs (k + 1) = writeTo gen bound rs k ++ rawW (nthR rs k) := by
  have e : rs.take (k + 1) = rs.take k ++ [nthR rs k] := by
    rw [List.take_succ_eq_append_getElem h]; simp [nthR, List.getD, h]
  rw [writeTo, e, List.flatMap_append, ← List.append_assoc]; simp [writeTo]
theorem writeTo_len (gen bound : Int) (rs : List (Int × List Int)) : ∀ k, k ≤ rs.length → (writeTo gen bound rs k).length = sizeTo rs k
  | 0, _ => rfl
  | k + 1, h => by
    rw [writeTo_succ gen bound rs k (by omega), List.length_append, writeTo_len gen bound rs k (by omega), sizeTo_succ rs k (by omega)]
    simp [rawW]; omega

end Go.Proofs.YtmobologlaeefaaGreat

/-
  What Find of the document's answer returns, of at most 1048576 words.
-/
namespace Go.Proofs.YtmobologlaeefaaGreat
open Go.RowKit
set_option maxRecDepth 10000

theorem find_at (P : Nat → Bool) : ∀ (l : List Nat) (k : Nat), k < l.length → (∀ j, j < k → P (l.getD j 0) = false) → P (l.getD k 0) = true → l.find? P = some (l.getD k 0)
  | [], k, h, _, _ => by simp at h
  | x :: l, 0, _, _, h => by
    have h' : P x = true := h
    simp [h']
  | x :: l, k + 1, h, hb, hk => by
    have h0 : P x = false := hb 0 (by omega)
    have ih := find_at P l k (by simpa using h) (fun j hj => hb (j + 1) (by omega)) hk
    rw [List.find?_cons, h0]
    exact ih
theorem find_none (P : Nat → Bool) (l : List Nat) (h : ∀ j, j < l.length → P (l.getD j 0) = false) : l.find? P = none := by
  rw [List.find?_eq_none]
  intro x hx
  obtain ⟨j, hj, rfl⟩ := List.getElem_of_mem hx
  have := h j hj
  simp [List.getD, hj] at this
  simp [this]

/-- Is it an instruction of this operation, not ahead of that place? -/
def isAt (zs : List Int) (op from_ : Int) (q : Nat) : Bool := decide (from_ ≤ (q : Int)) && (opI zs q == op)
/-- The first one. -/
def findP (zs : List Int) (op from_ : Int) : Option Nat := (rest zs 5).find? (isAt zs op from_)
def findAt (zs : List Int) (op from_ : Int) : Int := match findP zs op from_ with | some q => (q : Int) | none => 0
def findIs (zs : List Int) (op from_ : Int) : Bool := (findP zs op from_).isSome

theorem findAt_some {zs : List Int} {op f : Int} {q : Nat} (h : findP zs op f = some q) : findAt zs op f = q := by unfold findAt; rw [h]
theorem findAt_none {zs : List Int} {op f : Int} (h : findP zs op f = none) : findAt zs op f = 0 := by unfold findAt; rw [h]
theorem findIs_some {zs : List Int} {op f : Int} {q : Nat} (h : findP zs op f = some q) : findIs zs op f = true := by unfold findIs; rw [h]; rfl
theorem findIs_none {zs : List Int} {op f : Int} (h : findP zs op f = none) : findIs zs op f = false := by unfold findIs; rw [h]; rfl

theorem ret_pair {k : IntKind} {a b : Int} {x y : Bool} (h : a = b) (h2 : x = y) : Ending.returned (.tuple #[.int k a, .bool x]) = .returned (.tuple #[.int k b, .bool y]) := by rw [h, h2]

end Go.Proofs.YtmobologlaeefaaGreat

/-
  What the calls of layer 2 answer, as functions on lists; what the document's answer returns; and what is asked of the program's calls (as conditions, each proved where the program's text is walked).
-/
namespace Go.Proofs.YtmobologlaeefaaGreat
open Go.RowKit

def readL (zs : List Int) : List (Int × List Int) := if (readE zs).1 = 0 then readR zs else []
def readAt (zs : List Int) (i : Nat) : Int := if (readE zs).1 = 0 then nth zs i else 0
def writeE (bound : Int) (rs : List (Int × List Int)) : Int × Nat := if bound = 0 ∨ 65536 < bound then (24, 0) else fault rs 0
def writeL (gen bound : Int) (rs : List (Int × List Int)) : List Int := if (writeE bound rs).1 = 0 then writeTo gen bound rs rs.length else []

theorem refRead_any (a : Option Addr) (n cap : Nat) (zs : List Int) (w : World) (ha : View .u32 w a zs) (hl : zs.length = n) (hw : Within 4294967296 zs) :
    Calls Tryz.prog 39 #[.slice a n cap] w fun e w' => Below w.heap.size w w' ∧ ∃ ax cx m, e = .returned (.tuple #[.agg #[.int .u32 (readAt zs 2), .int .u32 (readAt zs 3)], .slice ax m cx, .agg #[.int .i64 (readE zs).1, .int .i64 (readE zs).2]]) ∧ (readL zs).length = m ∧ RawsV w' ax (readL zs) := by
  by_cases h1 : 1048576 < n
  · have e1 : readE zs = (4, 1048576) := by unfold readE; rw [if_pos (by omega)]
    refine (refRead_large a n cap w h1).mono ?_
    rintro e w' ⟨rfl, hb⟩
    refine ⟨hb, none, 0, 0, ?_, ?_, ?_⟩
    · simp [readAt, e1]
    · simp [readL, e1]
    · simp only [readL, e1]; exact rawsV_nil
  · by_cases h2 : (headE zs 0).1 = 0
    · refine (refRead_body a n cap zs w ha hl hw (by omega) h2).mono ?_
      rintro e w' ⟨hb, ⟨h3, rfl⟩ | ⟨h3, ax, cx, m, rfl, h4, h5⟩⟩
      · have e1 : readE zs = (25, stop zs 5) := by unfold readE; rw [if_neg (by omega), if_neg (by simp [h2]), if_pos (by omega)]
        refine ⟨hb, none, 0, 0, ?_, ?_, ?_⟩
        · simp [readAt, e1]
        · simp [readL, e1]
        · simp only [readL, e1]; exact rawsV_nil
      · have e1 : readE zs = (0, 0) := by unfold readE; rw [if_neg (by omega), if_neg (by simp [h2]), if_neg (by omega)]
        refine ⟨hb, ax, cx, m, ?_, ?_, ?_⟩
        · simp [readAt, e1]
        · simp [readL, e1, h4]
        · simp only [readL, e1]; exact h5
    · have e1 : readE zs = headE zs 0 := by unfold readE; rw [if_neg (by omega), if_pos h2]
      refine (refRead_head a n cap zs w ha hl (by omega) h2).mono ?_
      rintro e w' ⟨rfl, hb⟩
      refine ⟨hb, none, 0, 0, ?_, ?_, ?_⟩
      · simp [readAt, e1, h2]
      · simp [readL, e1, h2]
      · simp only [readL, e1, h2, if_false]; exact rawsV_nil

/-- What is asked of Read. -/
def ReadC (f : Nat) : Prop := ∀ (a : Option Addr) (n cap : Nat) (zs : List Int) (w : World), View .u32 w a zs → zs.length = n → Within 4294967296 zs → 4 * n ≤ 140737488351232 → n ≤ cap →
  Calls Tryz.prog f #[.slice a n cap] w fun e w' => Below w.heap.size w w' ∧ ∃ ax cx m, e = .returned (.tuple #[.agg #[.int .u32 (readAt zs 2), .int .u32 (readAt zs 3)], .slice ax m cx, .agg #[.int .i64 (readE zs).1, .int .i64 (readE zs).2]]) ∧ (readL zs).length = m ∧ OwnR w' w.heap.size ax 0 (readL zs)
/-- What is asked of Write. -/
def WriteC (f : Nat) : Prop := ∀ (gen bound : Int) (a : Option Addr) (n cap : Nat) (rs : List (Int × List Int)) (w : World), 0 ≤ gen → gen < 4294967296 → 0 ≤ bound → bound < 4294967296 → RawsV w a rs → RawsOk rs → rs.length = n → 32 * n ≤ 140737488351232 → n ≤ cap →
  Calls Tryz.prog f #[.agg #[.int .u32 gen, .int .u32 bound], .slice a n cap] w fun e w' => Below w.heap.size w w' ∧ ∃ ax cx m, e = .returned (.tuple #[.slice ax m cx, .agg #[.int .i64 (writeE bound rs).1, .int .i64 (writeE bound rs).2]]) ∧ (writeL gen bound rs).length = m ∧
    w'.ownsRow w.heap.size 22 1 (.slice ax m cx) m ((writeL gen bound rs).map (Value.int .u32))
/-- What is asked of Size. -/
def SizeC (f : Nat) : Prop := ∀ (a : Option Addr) (n cap : Nat) (rs : List (Int × List Int)) (w : World), RawsV w a rs → RawsOk rs → rs.length = n → 32 * n ≤ 140737488351232 → n ≤ cap →
  Calls Tryz.prog f #[.slice a n cap] w fun e w' => e = .returned (.tuple #[.int .i64 (sizeOut rs), .int .i64 (fault rs 0).1]) ∧ Below w.heap.size w w'
/-- What is asked of Find. -/
def FindC (f : Nat) : Prop := ∀ (a : Option Addr) (n cap : Nat) (zs : List Int) (op from_ : Int) (w : World), View .u32 w a zs → zs.length = n → Within 4294967296 zs → 4 * n ≤ 140737488351232 → n ≤ cap → 0 ≤ op → op < 65536 → -9223372036854775808 ≤ from_ → from_ ≤ 9223372036854775807 →
  Calls Tryz.prog f #[.slice a n cap, .int .u16 op, .int .i64 from_] w fun e w' => e = .returned (.tuple #[.int .i64 (findAt zs op from_), .bool (findIs zs op from_)]) ∧ Below w.heap.size w w'

end Go.Proofs.YtmobologlaeefaaGreat

/-
  The small functions of frame: a first word parted and made, how many words an instruction has, whether a bound may be.
-/
namespace Go.Proofs.YtmobologlaeefaaGreat
open Go.RowKit
set_option maxRecDepth 10000

theorem partFirst_any (x : Int) (w : World) (h0 : 0 ≤ x) (h1 : x < 4294967296) :
    Calls Tryz.prog 110 #[.int .u32 x] w fun e w' => e = .returned (.tuple #[.int .u16 (x % 65536), .int .i64 (x / 65536)]) ∧ w = w' := by
  go_enter Tryz.func110, Tryz.ntmps110
  go_wp2
  refine bodyPost_ret (v := .tuple #[.int .u16 (IntKind.u16.wrap x), .int .i64 (x / 65536)]) (by simp [results, Tryz.results110, go_sem]) rfl ⟨?_, rfl⟩
  rw [show IntKind.u16.wrap x = x % 65536 by simp [IntKind.wrap, IntKind.bits, IntKind.signed]]

theorem mayBeBound_any (x : Int) (w : World) (h0 : 0 ≤ x) (h1 : x < 4294967296) :
    Calls Tryz.prog 101 #[.int .u32 x] w fun e w' => e = .returned (.bool (!(decide (x = 0) || decide (65536 < x)))) ∧ w = w' := by
  go_enter Tryz.func101, Tryz.ntmps101
  go_wp2
  · go_ret
    refine ⟨?_, rfl⟩
    have hx : 1 ≤ x := by assumption
    show Ending.returned (.bool (decide (x ≤ 65536))) = _
    congr 2
    by_cases h : x ≤ 65536
    · simp [h, show ¬ x = 0 by omega]
    · simp [h]; omega
  · go_ret
    refine ⟨?_, rfl⟩
    have hx : ¬ 1 ≤ x := by first | assumption | (have : x < 1 := by assumption
                                                  omega)
    obtain rfl : x = 0 := by omega
    rfl

theorem wordsOf_any (op : Int) (a : Option Addr) (n cap : Nat) (w : World) (hn : n ≤ 140737488351232) :
    Calls Tryz.prog 77 #[.agg #[.int .u16 op, .slice a n cap]] w fun e w' => e = .returned (.int .i64 ((n : Int) + 1)) ∧ w.alloc (.cells #[.int .u16 op, .slice a n cap] 93) = w' := by
  go_enter Tryz.func77, Tryz.ntmps77
  go_wp2
  go_ret
  exact ⟨ret_int (by omega), rfl⟩

theorem firstWord_any (op : Int) (a : Option Addr) (n cap : Nat) (w : World) (hn : n < 65535) (ho : 0 ≤ op) (ho2 : op < 65536) :
    Calls Tryz.prog 103 #[.agg #[.int .u16 op, .slice a n cap]] w fun e w' => e = .returned (.int .u32 (((n : Int) + 1) * 65536 + op)) ∧ Below w.heap.size w w' := by
  have hW := fun w => wordsOf_any op a n cap w (by omega)
  go_enter Tryz.func103, Tryz.ntmps103
  go_wp2_with fail
  go_region_with (go_at_call 77; refine (hW _).mono ?_; rintro e w' ⟨rfl, rfl⟩)
  all_goals go_wp2
  all_goals go_ret
  all_goals refine ⟨?_, (((Below.refl _ _).alloc (Nat.le_refl _) _).alloc (by simp) _).drew⟩
  all_goals
    show Ending.returned (.int .u32 (bits .or .u32 (IntKind.u32.wrap (IntKind.u32.wrap ((n : Int) + 1) * 65536)) (IntKind.u32.wrap op))) = _
    apply ret_int
    rw [show IntKind.u32.wrap ((n : Int) + 1) = (n : Int) + 1 by rw [IntKind.wrap_u32']; omega, show IntKind.u32.wrap (((n : Int) + 1) * 65536) = ((n : Int) + 1) * 65536 by rw [IntKind.wrap_u32']; omega, show IntKind.u32.wrap op = op by rw [IntKind.wrap_u32']; omega]
    exact or_high ((n : Int) + 1) op 16 (by omega) ho (by omega) (by omega)

end Go.Proofs.YtmobologlaeefaaGreat

/-
  What measure and Size of frame return: how many words the head and the instructions have, or the first instruction that may not be.
-/
namespace Go.Proofs.YtmobologlaeefaaGreat
open Go.RowKit

theorem fault_any (rs : List (Int × List Int)) : fault rs 0 = (0, 0) ∨ (fault rs 0).1 ≠ 0 := by
  have key : ∀ f k, faultF rs f k = (0, 0) ∨ (faultF rs f k).1 ≠ 0 := by
    intro f
    induction f with
    | zero => intro k; exact .inl rfl
    | succ f ih =>
      intro k
      rw [faultF]
      split
      · split
        · exact .inr (by simp)
        · split
          · exact .inr (by simp)
          · exact ih (k + 1)
      · exact .inl rfl
  exact key _ _

theorem spot_set {w : World} {g T : Nat} {a b : Value} (h : w.heap[g]? = some (.cells #[a, b] T (0, 0))) (u0 u1 : Value) :
    ((w.setCell ⟨g, 0, none⟩ u0).setCell ⟨g, 1, none⟩ u1).cell? ⟨g, 0, none⟩ = some u0 ∧ ((w.setCell ⟨g, 0, none⟩ u0).setCell ⟨g, 1, none⟩ u1).cell? ⟨g, 1, none⟩ = some u1 := by
  have hfin : ((w.setCell ⟨g, 0, none⟩ u0).setCell ⟨g, 1, none⟩ u1).heap[g]? = some (.cells #[u0, u1] T (0, 0)) := by
    simp only [World.setCell, Array.getElem?_modify, h]; simp
  obtain ⟨z0, z1, _⟩ := cell_of_two hfin
  exact ⟨z0, z1⟩

theorem cell_past {w : World} {g j : Nat} {o : Obj} {v : Value} (h : w.cell? ⟨g, j, none⟩ = some v) : (w.alloc o).cell? ⟨g, j, none⟩ = some v := by
  rw [World.cell?_alloc_past _ _ _ (World.block_lt_of_cell? _ _ h)]; exact h

set_option maxRecDepth 100000 in
set_option maxHeartbeats 2000000 in
theorem measure_any (a : Option Addr) (n cap : Nat) (rs : List (Int × List Int)) (w : World) (ha : RawsV w a rs) (hok : RawsOk rs) (hl : rs.length = n) (hn : 32 * n ≤ 140737488351232) :
    Calls Tryz.prog 102 #[.slice a n cap] w fun e w' => e = .returned (.tuple #[.int .i64 (sizeOut rs), .agg #[.int .i64 (fault rs 0).1, .int .i64 (fault rs 0).2]]) ∧ Below w.heap.size w w' := by
  have HL : Hid (rs.length = n) := hl
  clear hl
  go_enter Tryz.func102, Tryz.ntmps102
  go_wp2
  go_loopw [4, 9] (fun s i wr => ∃ k : Nat, k ≤ n ∧ i = .int .i64 k ∧ s = .int .i64 (sizeTo rs k) ∧ sizeTo rs k ≤ 1048576 ∧ fault rs 0 = fault rs k ∧ wr.heap[w.heap.size]? = some (.cells #[.int .i64 0, .int .i64 0] 28 (0, 0)) ∧ Below w.heap.size w wr) (fun _ i _ => n - (intOf i).toNat)
  case atStart => exact ⟨0, Nat.zero_le _, rfl, rfl, by rw [sizeTo_zero]; omega, rfl, heap_alloc_new w _, (Below.refl _ _).alloc (Nat.le_refl _) _⟩
  case round =>
    obtain ⟨k, hk, rfl, rfl, hsz, hfe, hbox, hnx⟩ := hrel
    have HF : Hid (fault rs 0 = fault rs k) := hfe
    clear hfe
    have hlt0 : w.heap.size < wr.heap.size := (Array.getElem?_eq_some_iff.1 hbox).1
    by_cases hlt : k < n
    · obtain ⟨b, off, aj, cj, nj, rfl, hbs, p1, p2, p3, _, _⟩ := ha k (by rw [HL.out]; exact hlt)
      obtain ⟨_, _, _, h4⟩ := hok k (by rw [HL.out]; exact hlt)
      rw [p3] at h4
      have HS : Hid (sizeTo rs (k + 1) = sizeTo rs k + 1 + (nthR rs k).2.length) := sizeTo_succ rs k (by rw [HL.out]; exact hlt)
      have HT := fault_step rs k (by rw [HL.out]; exact hlt)
      rw [p3] at HT HS
      have HT' : Hid (fault rs k = if 65535 ≤ nj then (25, k) else if 1048576 < sizeTo rs (k + 1) then (4, k) else fault rs (k + 1)) := HT
      have q1 := (hnx.cell (p := ⟨b, off + k * 2, none⟩) hbs).trans p1
      have q2 := (hnx.cell (p := ⟨b, off + k * 2 + 1, none⟩) hbs).trans p2
      generalize sizeTo rs k = s at hsz HS
      have hki : (k : Int) < (n : Int) := by omega
      have hk0 : (0 : Int) ≤ (k : Int) := by omega
      have hW := fun op w => wordsOf_any op aj nj cj w (by omega)
      generalize (nthR rs k).1 = op at q1 p1
      clear HT ha p1 p2 p3 hok
      obtain ⟨R1, hR1⟩ : ∃ o, o = Obj.cells #[.int .u16 op, .slice aj nj cj] 93 (0, 0) := ⟨_, rfl⟩
      have hbx1 : ((wr.alloc R1).alloc R1).heap[w.heap.size]? = some (.cells #[.int .i64 0, .int .i64 0] 28 (0, 0)) := (Below.heap_alloc _ _ _ (by simp; omega)).trans ((Below.heap_alloc _ _ _ hlt0).trans hbox)
      obtain ⟨c0, c1, f1⟩ := cell_of_two hbox
      have f0 : wr.frozen? ⟨w.heap.size, 0, none⟩ = false := by simp [World.frozen?, hbox]
      by_cases h1 : 65535 ≤ nj
      · have b1 : decide ((65535 : Int) < (nj : Int) + 1) = true := decide_eq_true (by omega)
        have HE : Hid (fault rs 0 = (25, k)) := by show _ = _; rw [HF.out, HT'.out, if_pos h1]
        have HO : Hid (sizeOut rs = 0) := by show _ = _; unfold sizeOut; rw [HE.out]; rfl
        have hf0 := spot_set hbox (.int .i64 25) (.int .i64 k)
        have hf := And.intro (cell_past (o := R1) (cell_past (o := R1) hf0.1)) (cell_past (o := R1) (cell_past (o := R1) hf0.2))
        have HZ : Hid (_ ∧ _) := hf
        have HB : Hid (Below w.heap.size w ((((wr.setCell ⟨w.heap.size, 0, none⟩ (.int .i64 25)).setCell ⟨w.heap.size, 1, none⟩ (.int .i64 k)).alloc R1).alloc R1)) := (((hnx.setCell (by simp) _).setCell (by simp) _).alloc (by simp; omega) _).alloc (by simp; omega) _
        clear hf hf0 hbx1 hbox
        subst hR1
        go_wp2_with (go_at_call 77; refine (hW _ _).mono ?_; rintro e w' ⟨rfl, rfl⟩)
        exact bodyPost_ret (v := .tuple #[.int .i64 0, .agg #[.int .i64 25, .int .i64 k]]) (by simp [results, Tryz.results102, go_sem, HZ.out.1, HZ.out.2]) rfl ⟨by rw [HE.out, HO.out], HB.out⟩
      · have b1 : decide ((65535 : Int) < (nj : Int) + 1) = false := decide_eq_false (by omega)
        have hbx2 : (((wr.alloc R1).alloc R1).alloc R1).heap[w.heap.size]? = some (.cells #[.int .i64 0, .int .i64 0] 28 (0, 0)) := (Below.heap_alloc _ _ _ (by simp; omega)).trans hbx1
        have HB2 : Hid (Below w.heap.size w (((wr.alloc R1).alloc R1).alloc R1)) := ((hnx.alloc hnx.size _).alloc (by simp; omega) _).alloc (by simp; omega) _
        by_cases h2 : 1048576 < s + 1 + nj
        · have b2 : decide ((1048576 : Int) < (s : Int) + ((nj : Int) + 1)) = true := decide_eq_true (by omega)
          have HE : Hid (fault rs 0 = (4, k)) := by show _ = _; rw [HF.out, HT'.out, if_neg h1, if_pos (by rw [HS.out]; exact h2)]
          have HO : Hid (sizeOut rs = 0) := by show _ = _; unfold sizeOut; rw [HE.out]; rfl
          have hf := spot_set hbx2 (.int .i64 4) (.int .i64 k)
          obtain ⟨c0', c1', f1'⟩ := cell_of_two hbx2
          have f0' : (((wr.alloc R1).alloc R1).alloc R1).frozen? ⟨w.heap.size, 0, none⟩ = false := by simp only [World.frozen?, hbx2]; rfl
          have HZ : Hid (_ ∧ _) := hf
          have HB : Hid (Below w.heap.size w (((((wr.alloc R1).alloc R1).alloc R1).setCell ⟨w.heap.size, 0, none⟩ (.int .i64 4)).setCell ⟨w.heap.size, 1, none⟩ (.int .i64 k))) := (HB2.out.setCell (by simp) _).setCell (by simp) _
          clear hf hbx1 hbx2 hbox
          subst hR1
          go_wp2_with (go_at_call 77; refine (hW _ _).mono ?_; rintro e w' ⟨rfl, rfl⟩)
          exact bodyPost_ret (v := .tuple #[.int .i64 0, .agg #[.int .i64 4, .int .i64 k]]) (by simp [results, Tryz.results102, go_sem, HZ.out.1, HZ.out.2]) rfl ⟨by rw [HE.out, HO.out], HB.out⟩
        · have b2 : decide ((1048576 : Int) < (s : Int) + ((nj : Int) + 1)) = false := decide_eq_false (by omega)
          have HE : Hid (fault rs 0 = fault rs (k + 1)) := by show _ = _; rw [HF.out, HT'.out, if_neg h1, if_neg (by rw [HS.out]; exact h2)]
          have HX : Hid _ := hbx2
          clear hbx1 hbx2 hbox
          subst hR1
          go_wp2_with (go_at_call 77; refine (hW _ _).mono ?_; rintro e w' ⟨rfl, rfl⟩)
          go_roundw
          case rel => exact ⟨k + 1, by omega, by go_num, by rw [HS.out]; go_num, by rw [HS.out]; omega, HE.out, HX.out, HB2.out⟩
          case measure => simp [intOf]; omega
    · obtain rfl : k = n := by omega
      have HE : Hid (fault rs 0 = (0, 0)) := by show _ = _; rw [HF.out]; exact fault_end rs k (by rw [HL.out]; omega)
      have HO : Hid (sizeOut rs = sizeTo rs k) := by show _ = _; unfold sizeOut; rw [HE.out, if_pos rfl, HL.out]
      have hf := spot_set hbox (.int .i64 0) (.int .i64 0)
      obtain ⟨c0, c1, f1⟩ := cell_of_two hbox
      have f0 : wr.frozen? ⟨w.heap.size, 0, none⟩ = false := by simp [World.frozen?, hbox]
      have HZ : Hid (_ ∧ _) := hf
      have HB : Hid (Below w.heap.size w ((wr.setCell ⟨w.heap.size, 0, none⟩ (.int .i64 0)).setCell ⟨w.heap.size, 1, none⟩ (.int .i64 0))) := (hnx.setCell (by simp) _).setCell (by simp) _
      clear hf hbox ha hok
      go_wp2
      exact bodyPost_ret (v := .tuple #[.int .i64 (sizeTo rs k), .agg #[.int .i64 0, .int .i64 0]]) (by simp [results, Tryz.results102, go_sem, HZ.out.1, HZ.out.2]) rfl ⟨by rw [HE.out, HO.out]; rfl, HB.out⟩

end Go.Proofs.YtmobologlaeefaaGreat
