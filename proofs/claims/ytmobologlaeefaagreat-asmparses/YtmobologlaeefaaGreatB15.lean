/-
  Texts laid together in one: AsmParseL, KitInst, KitModule, LawAsmParses0, ToksMake, LexQuote, LexWrite, Ref06Number, Ref06Run, Ref06Part, Ref06Quote.
-/
import Derived.WalkSpells
import Derived.WalkMore
import Derived.BigRegion
import Derived.Test.YtmobologlaeefaaGreatProg
import Derived.Test.YtmobologlaeefaaGreatB14
import Derived.Deep.QuietTactic
import Derived.BigQuiet
import Derived.Test.YtmobologlaeefaaGreatB02
import Derived.Deep.RegionWith
import Derived.Deep.DrawnRows
import Derived.Test.YtmobologlaeefaaGreatB01
import Derived.Test.YtmobologlaeefaaGreatB06
import Derived.Test.YtmobologlaeefaaGreatB10
import Derived.Laws.BytesArg
/-
  What Parse of the layer asm returns, for every text.
-/
namespace Go.Proofs.YtmobologlaeefaaGreat
open Go.RowKit
set_option linter.unusedVariables false
set_option linter.unusedSimpArgs false
set_option maxRecDepth 10000

set_option maxHeartbeats 2000000 in
theorem asmParse_large (s : ByteArray) (w : World) (hs : 16777216 < s.size) :
    Calls Tryz.prog 9 #[.string s] w fun e w' => ParQ w w' (parseS s) e := by
  have hsi : decide ((16777216 : Int) < (s.size : Int)) = true := by simpa using (by omega : (16777216 : Int) < (s.size : Int))
  have HR : Hid (parseS s = ((0, 0, []), 4, 0)) := by show _ = _; unfold parseS; rw [if_pos hs]
  clear hs
  go_enter Tryz.func9, Tryz.ntmps9
  go_wp2_with fail
  refine bodyPost_ret (v := .tuple #[.agg #[.int .u32 0, .int .u32 0, .slice none 0 0], .agg #[.int .i64 4, .int .i64 0]]) ?_ rfl ?_
  · simp [results, Tryz.results9, go_sem]
  · unfold ParQ
    rw [HR.out]
    exact ⟨none, 0, 0, rfl, instsV_nil, rfl, fun j hj => by simp at hj, ((Below.refl _ w).alloc (Nat.le_refl _) _).alloc (by simp) _⟩

theorem asmParse_any (s : ByteArray) (w : World) : Calls Tryz.prog 9 #[.string s] w fun e w' => ParQ w w' (parseS s) e := by
  by_cases hs : s.size ≤ 16777216
  · exact asmParse_main s w hs
  · exact asmParse_large s w (by omega)

end Go.Proofs.YtmobologlaeefaaGreat

/-
  Inst of the kit tells whether two instructions are the same.
-/
namespace Go.Proofs.YtmobologlaeefaaGreat
open Go.RowKit
set_option maxRecDepth 10000

theorem two_boxes (w : World) (o p : Obj) : Below w.heap.size w ((w.alloc o).alloc p) := ((Below.refl _ w).alloc (Nat.le_refl _) _).alloc (by simp) _

set_option maxHeartbeats 1000000 in
theorem kitInst_any (x y : InstT) (ax ay : Option Addr) (n m cx cy : Nat) (w : World) (hx : ArgsV w ax x.2.2.2) (hy : ArgsV w ay y.2.2.2) (hlx : x.2.2.2.length = n) (hly : y.2.2.2.length = m) (hn : n ≤ 140737488351232) (hm : m ≤ 140737488351232) :
    Calls Tryz.prog 32 #[instV x ax n cx, instV y ay m cy] w fun e w' => e = .returned (.bool (decide (x = y))) ∧ Below w.heap.size w w' := by
  obtain ⟨xo, xt, xr, xl⟩ := x
  obtain ⟨yo, yt, yr, yl⟩ := y
  unfold instV
  simp only at *
  have HLX : Hid (xl.length = n) := hlx
  have HLY : Hid (yl.length = m) := hly
  clear hlx hly
  by_cases H : xo = yo ∧ xt = yt ∧ xr = yr ∧ n = m
  · obtain ⟨rfl, rfl, rfl, rfl⟩ := H
    have e1 : decide ((xo, xt, xr, xl) = (xo, xt, xr, yl)) = decide (xl = yl) := by simp
    rw [e1]
    go_enter Tryz.func32, Tryz.ntmps32
    go_wp2
    have hB := two_boxes w (.cells #[.int .u16 xo, .int .u32 xt, .int .u32 xr, .slice ax n cx] 41) (.cells #[.int .u16 xo, .int .u32 xt, .int .u32 xr, .slice ay n cy] 41)
    have hx1 := hx.below hB
    have hy1 := hy.below hB
    have hA : ((w.alloc (.cells #[.int .u16 xo, .int .u32 xt, .int .u32 xr, .slice ax n cx] 41)).alloc (.cells #[.int .u16 xo, .int .u32 xt, .int .u32 xr, .slice ay n cy] 41)).cell? ⟨w.heap.size, 3, none⟩ = some (.slice ax n cx) := by simp [go_sem]
    have hA2 : ((w.alloc (.cells #[.int .u16 xo, .int .u32 xt, .int .u32 xr, .slice ax n cx] 41)).alloc (.cells #[.int .u16 xo, .int .u32 xt, .int .u32 xr, .slice ay n cy] 41)).cell? ⟨w.heap.size + 1, 3, none⟩ = some (.slice ay n cy) := by simp [go_sem]
    generalize ((w.alloc (.cells #[.int .u16 xo, .int .u32 xt, .int .u32 xr, .slice ax n cx] 41)).alloc (.cells #[.int .u16 xo, .int .u32 xt, .int .u32 xr, .slice ay n cy] 41)) = W at *
    clear hx hy
    go_loopw [5] (fun i wr => ∃ k q : Nat, k ≤ n ∧ i = .int .i64 k ∧ wr = W.drewN q ∧ ∀ j, j < k → nthA xl j = nthA yl j) (fun i _ => n - (intOf i).toNat)
    case atStart => exact ⟨0, 0, Nat.zero_le _, rfl, rfl, fun j hj => by omega⟩
    case round =>
      obtain ⟨k, q, hk, rfl, rfl, hall⟩ := hrel
      have HALL : Hid (∀ j, j < k → nthA xl j = nthA yl j) := hall
      clear hall
      by_cases hlt : k < n
      · obtain ⟨b1, o1, rfl, _, c1, c2, c3⟩ := hx1 k (by rw [HLX.out]; exact hlt)
        obtain ⟨b2, o2, rfl, _, d1, d2, d3⟩ := hy1 k (by rw [HLY.out]; exact hlt)
        have hk0 : (0 : Int) ≤ (k : Int) := by omega
        have hki : (k : Int) < (n : Int) := by omega
        by_cases he : nthA xl k = nthA yl k
        · rw [← he] at d1 d2 d3
          obtain ⟨z, hz⟩ : ∃ z, z = nthA xl k := ⟨_, rfl⟩
          obtain ⟨z1, z2, z3⟩ := z
          rw [← hz] at c1 c2 c3 d1 d2 d3
          have HE : Hid (nthA xl k = nthA yl k) := he
          clear hx1 hy1 hz he
          go_wp2
          go_quiet (fail)
          go_wp2
          go_roundw
          case rel => exact ⟨k + 1, _, by omega, by go_num, rfl, fun j hj => by
            by_cases hjk : j < k
            · exact HALL.out j hjk
            · obtain rfl : j = k := by omega
              exact HE.out⟩
          case measure => simp [intOf]; omega
        · obtain ⟨z, hz⟩ : ∃ z, z = nthA xl k := ⟨_, rfl⟩
          obtain ⟨y, hy⟩ : ∃ y, y = nthA yl k := ⟨_, rfl⟩
          rw [← hz] at c1 c2 c3
          rw [← hy] at d1 d2 d3
          have HE : Hid (decide (xl = yl) = false) := decide_eq_false (fun h => he (by rw [h]))
          rw [← hz, ← hy] at he
          obtain ⟨z1, z2, z3⟩ := z
          obtain ⟨y1, y2, y3⟩ := y
          clear hx1 hy1 hz hy
          by_cases h1 : z1 = y1
          · subst h1
            by_cases h2 : z2 = y2
            · subst h2
              have h3 : ¬ z3.toList = y3.toList := fun h => he (by rw [str_inj h])
              clear he
              go_wp2
              go_quiet (fail)
              go_wp2
              go_ret
              exact ⟨by rw [HE.out]; rfl, bel_drewN (bel_drewN hB q) _⟩
            · clear he
              go_wp2
              go_quiet (fail)
              go_wp2
              go_ret
              exact ⟨by rw [HE.out]; rfl, bel_drewN (bel_drewN hB q) _⟩
          · clear he
            go_wp2
            go_quiet (fail)
            go_wp2
            go_ret
            exact ⟨by rw [HE.out]; rfl, bel_drewN (bel_drewN hB q) _⟩
      · go_wp2
        go_ret
        refine ⟨?_, bel_drewN hB q⟩
        obtain rfl : k = n := by omega
        show Ending.returned (.bool true) = _
        rw [decide_eq_true]
        exact (argsEq_iff _ _).2 ⟨by rw [HLX.out, HLY.out], fun j hj => HALL.out j (by rw [← HLX.out]; exact hj)⟩
  · have e1 : decide ((xo, xt, xr, xl) = (yo, yt, yr, yl)) = false := by
      rw [decide_eq_false]
      intro h
      simp only [Prod.mk.injEq] at h
      obtain ⟨rfl, rfl, rfl, rfl⟩ := h
      exact H ⟨rfl, rfl, rfl, HLX.out.symm.trans HLY.out⟩
    rw [e1]
    go_enter Tryz.func32, Tryz.ntmps32
    go_wp2
    all_goals first | (exfalso; apply H; refine ⟨rfl, rfl, rfl, ?_⟩; omega) | (go_ret; exact ⟨rfl, two_boxes _ _ _⟩)

end Go.Proofs.YtmobologlaeefaaGreat

/-
  Module of the kit tells whether two modules are the same.
-/
namespace Go.Proofs.YtmobologlaeefaaGreat
open Go.RowKit
set_option maxRecDepth 10000

def modV (g b : Int) (a : Option Addr) (n c : Nat) : Value := .agg #[.int .u32 g, .int .u32 b, .slice a n c]

set_option maxHeartbeats 2000000 in
theorem kitModule_any (g1 b1 g2 b2 : Int) (l m : List InstT) (ax ay : Option Addr) (nx ny cx cy : Nat) (w : World) (hx : InstsV w ax l) (hy : InstsV w ay m) (hlx : l.length = nx) (hly : m.length = ny) (hokx : InstsOk l) (hoky : InstsOk m) (hnx : nx ≤ 140737488351232) (hny : ny ≤ 140737488351232) (r : Bool) (hr : r = true ↔ (g1 = g2 ∧ b1 = b2 ∧ l = m)) :
    Calls Tryz.prog 10 #[modV g1 b1 ax nx cx, modV g2 b2 ay ny cy] w fun e w' => e = .returned (.bool r) ∧ Below w.heap.size w w' := by
  have HR : Hid (r = true ↔ (g1 = g2 ∧ b1 = b2 ∧ l = m)) := hr
  clear hr
  unfold modV
  have HLX : Hid (l.length = nx) := hlx
  have HLY : Hid (m.length = ny) := hly
  clear hlx hly
  by_cases H : g1 = g2 ∧ b1 = b2 ∧ nx = ny
  · obtain ⟨rfl, rfl, rfl⟩ := H
    go_enter Tryz.func10, Tryz.ntmps10
    go_wp2
    have hB := two_boxes w (.cells #[.int .u32 g1, .int .u32 b1, .slice ax nx cx] 25) (.cells #[.int .u32 g1, .int .u32 b1, .slice ay nx cy] 25)
    have hx1 := hx.below hB
    have hy1 := hy.below hB
    have hs : w.heap.size + 2 = ((w.alloc (.cells #[.int .u32 g1, .int .u32 b1, .slice ax nx cx] 25)).alloc (.cells #[.int .u32 g1, .int .u32 b1, .slice ay nx cy] 25)).heap.size := by simp
    have hA : ((w.alloc (.cells #[.int .u32 g1, .int .u32 b1, .slice ax nx cx] 25)).alloc (.cells #[.int .u32 g1, .int .u32 b1, .slice ay nx cy] 25)).cell? ⟨w.heap.size, 2, none⟩ = some (.slice ax nx cx) := by simp [go_sem]
    have hA2 : ((w.alloc (.cells #[.int .u32 g1, .int .u32 b1, .slice ax nx cx] 25)).alloc (.cells #[.int .u32 g1, .int .u32 b1, .slice ay nx cy] 25)).cell? ⟨w.heap.size + 1, 2, none⟩ = some (.slice ay nx cy) := by simp [go_sem]
    generalize ((w.alloc (.cells #[.int .u32 g1, .int .u32 b1, .slice ax nx cx] 25)).alloc (.cells #[.int .u32 g1, .int .u32 b1, .slice ay nx cy] 25)) = W at *
    clear hx hy
    go_loopw [5] (fun i wr => ∃ k : Nat, k ≤ nx ∧ i = .int .i64 k ∧ Below W.heap.size W wr ∧ ∀ j, j < k → nthI l j = nthI m j) (fun i _ => nx - (intOf i).toNat)
    case atStart => exact ⟨0, Nat.zero_le _, rfl, Below.refl _ _, fun j hj => by omega⟩
    case round =>
      obtain ⟨k, hk, rfl, hbr, hall⟩ := hrel
      have HALL : Hid (∀ j, j < k → nthI l j = nthI m j) := hall
      clear hall
      have hs2 := hbr.size
      have hA1 := (hbr.cell (p := ⟨w.heap.size, 2, none⟩) (by show w.heap.size < _; omega)).trans hA
      have hA3 := (hbr.cell (p := ⟨w.heap.size + 1, 2, none⟩) (by show w.heap.size + 1 < _; omega)).trans hA2
      by_cases hlt : k < nx
      · obtain ⟨b1, o1, p1, k1, n1, rfl, l1, c1, c2, c3, c4, c5, c6, _⟩ := hx1 k (by rw [HLX.out]; exact hlt)
        obtain ⟨b2, o2, p2, k2, n2, rfl, l2, d1, d2, d3, d4, d5, d6, _⟩ := hy1 k (by rw [HLY.out]; exact hlt)
        have hk0 : (0 : Int) ≤ (k : Int) := by omega
        have hki : (k : Int) < (nx : Int) := by omega
        have s1 := (hokx k (by rw [HLX.out]; exact hlt)).2.2.2.2.2.2.2
        have s2 := (hoky k (by rw [HLY.out]; exact hlt)).2.2.2.2.2.2.2
        rw [c5] at s1
        rw [d5] at s2
        have hC := fun wx (hb : Below W.heap.size W wx) => kitInst_any (nthI l k) (nthI m k) p1 p2 n1 n2 k1 k2 wx (c6.below hb) (d6.below hb) c5 d5 (by omega) (by omega)
        unfold instV at hC
        replace c1 := (hbr.cell (p := ⟨b1, o1 + k * 4, none⟩) l1).trans c1
        replace c2 := (hbr.cell (p := ⟨b1, o1 + k * 4 + 1, none⟩) l1).trans c2
        replace c3 := (hbr.cell (p := ⟨b1, o1 + k * 4 + 2, none⟩) l1).trans c3
        replace c4 := (hbr.cell (p := ⟨b1, o1 + k * 4 + 3, none⟩) l1).trans c4
        replace d1 := (hbr.cell (p := ⟨b2, o2 + k * 4, none⟩) l2).trans d1
        replace d2 := (hbr.cell (p := ⟨b2, o2 + k * 4 + 1, none⟩) l2).trans d2
        replace d3 := (hbr.cell (p := ⟨b2, o2 + k * 4 + 2, none⟩) l2).trans d3
        replace d4 := (hbr.cell (p := ⟨b2, o2 + k * 4 + 3, none⟩) l2).trans d4
        clear hx1 hy1 hA hA2 c5 c6 d5 d6 s1 s2
        by_cases he : nthI l k = nthI m k
        · have HE : Hid (nthI l k = nthI m k) := he
          rw [decide_eq_true he] at hC
          clear he
          go_wp2
          go_region_with ((go_at_call 32; refine (hC _ (by first | exact hbr | exact hbr.drew)).mono ?_; rintro e w' ⟨rfl, hbC⟩))
          all_goals
            have hbC' : Below W.heap.size W w' := by first | exact hbr.trans (hbC.mono hs2) | exact hbr.drew.trans (hbC.mono (by exact hs2))
            clear hbC
            go_wp2
            go_roundw
            case rel => exact ⟨k + 1, by omega, by go_num, by first | exact hbC' | exact hbC'.drew, fun j hj => by
              by_cases hjk : j < k
              · exact HALL.out j hjk
              · obtain rfl : j = k := by omega
                exact HE.out⟩
            case measure => simp [intOf]; omega
        · have HE : Hid (r = false) := by
            show r = false
            rw [← Bool.not_eq_true]
            intro hr
            obtain ⟨_, _, h⟩ := HR.out.1 hr
            exact he (by rw [h])
          rw [decide_eq_false he] at hC
          clear he
          go_wp2
          go_region_with ((go_at_call 32; refine (hC _ (by first | exact hbr | exact hbr.drew)).mono ?_; rintro e w' ⟨rfl, hbC⟩))
          all_goals
            have hbC' : Below W.heap.size W w' := by first | exact hbr.trans (hbC.mono hs2) | exact hbr.drew.trans (hbC.mono (by exact hs2))
            clear hbC
            go_wp2
            go_ret
            refine ⟨by rw [HE.out]; rfl, ?_⟩
            first | exact hB.trans (hbC'.mono (by omega)) | exact (hB.trans (hbC'.mono (by omega))).drew
      · go_wp2
        go_ret
        refine ⟨?_, hB.trans (hbr.mono (by omega))⟩
        obtain rfl : k = nx := by omega
        show Ending.returned (.bool true) = _
        rw [HR.out.2 ⟨trivial, trivial, (instsEq_iff _ _).2 ⟨by rw [HLX.out, HLY.out], fun j hj => HALL.out j (by rw [← HLX.out]; exact hj)⟩⟩]
  · have e1 : r = false := by
      rw [← Bool.not_eq_true]
      intro hr
      obtain ⟨h1, h2, h3⟩ := HR.out.1 hr
      exact H ⟨h1, h2, by rw [← HLX.out, ← HLY.out, h3]⟩
    subst e1
    go_enter Tryz.func10, Tryz.ntmps10
    go_wp2
    all_goals first | (exfalso; apply H; refine ⟨rfl, rfl, ?_⟩; omega) | (go_ret; exact ⟨rfl, two_boxes _ _ _⟩)

end Go.Proofs.YtmobologlaeefaaGreat

/-
  AsmParses is true for every text, where the document's Parse answers what its mathematics says.
-/
namespace Go.Proofs.YtmobologlaeefaaGreat
open Go.RowKit
set_option linter.unusedVariables false
set_option linter.unusedSimpArgs false
set_option maxRecDepth 10000

set_option maxHeartbeats 4000000 in
theorem asmParses_of (w : World) (s : ByteArray) (hL : ∀ wx, Calls Tryz.prog 8 #[.string s] wx fun e w' => ParQ wx w' (parseS s) e) (hlen : (parseS s).1.2.2.length ≤ 140737488351232) :
    Calls Tryz.prog 3 #[.string s] w fun e w' => e = .returned (.bool true) ∧ Below w.heap.size w w' := by
  have hA := fun wx => asmParse_any s wx
  generalize parseS s = R at *
  obtain ⟨⟨g, b, l⟩, E, P⟩ := R
  unfold ParQ at hL hA
  simp only at hL hA hlen
  go_enter Tryz.func3, Tryz.ntmps3
  go_wp2_with fail
  refine (hL _).mono ?_
  rintro e w1 ⟨a1, m1, c1, rfl, hv1, hm1, hok1, hb1⟩
  have hba1 : Below w1.heap.size w1 ((w1.alloc (.cells #[.int .u32 g, .int .u32 b, .slice a1 m1 c1] 25)).alloc (.cells #[.int .i64 E, .int .i64 P] 28)) := ((Below.refl _ w1).alloc (Nat.le_refl _) _).alloc (by simp) _
  have kI1 : ((w1.alloc (.cells #[.int .u32 g, .int .u32 b, .slice a1 m1 c1] 25)).alloc (.cells #[.int .i64 E, .int .i64 P] 28)).heap[w1.heap.size]? = some (.cells #[.int .u32 g, .int .u32 b, .slice a1 m1 c1] 25 (0, 0)) := by rw [Below.heap_alloc _ _ _ (by simp)]; exact heap_alloc_new _ _
  have kS1 : ((w1.alloc (.cells #[.int .u32 g, .int .u32 b, .slice a1 m1 c1] 25)).alloc (.cells #[.int .i64 E, .int .i64 P] 28)).heap[w1.heap.size + 1]? = some (.cells #[.int .i64 E, .int .i64 P] 28 (0, 0)) := by have := heap_alloc_new (w1.alloc (.cells #[.int .u32 g, .int .u32 b, .slice a1 m1 c1] 25)) (.cells #[.int .i64 E, .int .i64 P] 28); simpa using this
  have HV1 := hide (hv1.below hba1)
  have HB1 := hide (hb1.trans (hba1.mono hb1.size))
  have HI1 := hide kI1
  have HS1 := hide kS1
  have HOK := hide hok1
  clear hL hv1 hb1 hba1 kI1 kS1 hok1
  go_wp2_with fail
  generalize (w1.alloc (.cells #[.int .u32 g, .int .u32 b, .slice a1 m1 c1] 25)).alloc (.cells #[.int .i64 E, .int .i64 P] 28) = W1 at *
  refine (hA _).mono ?_
  rintro e w2 ⟨a2, m2, c2, rfl, hv2, hm2, hok2, hb2⟩
  have sS1 := (Array.getElem?_eq_some_iff.1 HS1.out).1
  have hba2 : Below w2.heap.size w2 ((w2.alloc (.cells #[.int .u32 g, .int .u32 b, .slice a2 m2 c2] 25)).alloc (.cells #[.int .i64 E, .int .i64 P] 28)) := ((Below.refl _ w2).alloc (Nat.le_refl _) _).alloc (by simp) _
  have hb2a := hb2.trans (hba2.mono hb2.size)
  have HV2 := hide (hv2.below hba2)
  have HV12 := hide (HV1.out.below hb2a)
  have HB2 := hide (HB1.out.trans (hb2a.mono HB1.out.size))
  have q1 := (hb2.block _ (by omega)).trans HI1.out
  have q2 := (hb2.block _ sS1).trans HS1.out
  obtain ⟨ci, _⟩ := blk_cells q1
  obtain ⟨cs, _⟩ := blk_cells q2
  have i0 := ci 0
  have i1 := ci 1
  have i2 := ci 2
  have s0 := cs 0
  have s1 := cs 1
  have l1 : w1.heap.size < w2.heap.size := (Array.getElem?_eq_some_iff.1 q1).1
  have l2 : w1.heap.size + 1 < w2.heap.size := (Array.getElem?_eq_some_iff.1 q2).1
  have hK := kitModule_any g b g b l l a2 a1 m2 m1 c2 c1 _ HV2.out HV12.out hm2 hm1 HOK.out HOK.out (by omega) (by omega) true (by simp)
  unfold modV at hK
  clear hA hv2 hb2 hba2 hb2a HV1 HB1 HI1 HS1 hm1 hm2 ci cs q1 q2 hlen hok2
  go_wp2_with fail
  refine hK.mono ?_
  rintro e w3 ⟨rfl, hb3⟩
  have HB3 := hide (HB2.out.trans (hb3.mono HB2.out.size))
  clear hK hb3
  go_wp2_with fail
  go_ret
  exact ⟨rfl, HB3.out⟩

end Go.Proofs.YtmobologlaeefaaGreat

/-
  A slice of tokens that the call makes and fills from its head on.
-/
namespace Go.Proofs.YtmobologlaeefaaGreat
open Go.RowKit
set_option linter.unusedVariables false
set_option linter.unusedSimpArgs false

/-- The first k tokens stand in a row of n. -/
structure PartT (w : World) (g n k : Nat) (l : List TokT) : Prop where
  row : ∃ cs : Array Value, w.heap[g]? = some (.cells cs 102 (0, 0)) ∧ cs.size = n * 3
  each : ∀ j, j < k → w.cell? ⟨g, j * 3, none⟩ = some (.int .u8 (nthT l j).1) ∧ w.cell? ⟨g, j * 3 + 1, none⟩ = some (.string (nthT l j).2.1) ∧ w.cell? ⟨g, j * 3 + 2, none⟩ = some (.int .i64 (nthT l j).2.2)

theorem PartT.can {w : World} {g n k : Nat} {l : List TokT} (h : PartT w g n k l) (j : Nat) (hj : j < n * 3) : (∃ v, w.cell? ⟨g, j, none⟩ = some v) ∧ w.frozen? ⟨g, j, none⟩ = false := by
  obtain ⟨cs, h1, h2⟩ := h.row
  refine ⟨⟨cs[j], by simp [World.cell?, h1, h2, hj]⟩, by simp [World.frozen?, h1]⟩
theorem PartT.made {w : World} {B g n : Nat} {xs : List Value} {l : List TokT} (h : w.ownsRow B 102 3 (.slice (some ⟨g, 0, none⟩) n n) n xs) : PartT w g n 0 l := by
  refine ⟨?_, fun j hj => by omega⟩
  rcases h.2 with ⟨h', _⟩ | ⟨g', cap', cur, h', _, hg, _, _, hcs, _⟩
  · simp at h'
  · simp only [Value.slice.injEq, Option.some.injEq, Addr.mk.injEq, and_true, true_and] at h'
    obtain ⟨rfl, rfl⟩ := h'
    exact ⟨cur, hg, hcs⟩
theorem PartT.store {w : World} {g n k : Nat} {l : List TokT} (h : PartT w g n k l) (hk : k < n) :
    PartT (((w.setCell ⟨g, k * 3, none⟩ (.int .u8 (nthT l k).1)).setCell ⟨g, k * 3 + 1, none⟩ (.string (nthT l k).2.1)).setCell ⟨g, k * 3 + 2, none⟩ (.int .i64 (nthT l k).2.2)) g n (k + 1) l := by
  obtain ⟨⟨cs, h1, h2⟩, h3⟩ := h
  obtain ⟨W, hW⟩ : ∃ W, W = ((w.setCell ⟨g, k * 3, none⟩ (.int .u8 (nthT l k).1)).setCell ⟨g, k * 3 + 1, none⟩ (.string (nthT l k).2.1)).setCell ⟨g, k * 3 + 2, none⟩ (.int .i64 (nthT l k).2.2) := ⟨_, rfl⟩
  have hb : W.heap[g]? = some (.cells (((cs.setIfInBounds (k * 3) (.int .u8 (nthT l k).1)).setIfInBounds (k * 3 + 1) (.string (nthT l k).2.1)).setIfInBounds (k * 3 + 2) (.int .i64 (nthT l k).2.2)) 102 (0, 0)) := by
    rw [hW]; simp [World.setCell, Array.getElem?_modify, h1]
  have cell : ∀ j, W.cell? ⟨g, j, none⟩ = (((cs.setIfInBounds (k * 3) (.int .u8 (nthT l k).1)).setIfInBounds (k * 3 + 1) (.string (nthT l k).2.1)).setIfInBounds (k * 3 + 2) (.int .i64 (nthT l k).2.2))[j]? := fun j => by
    simp [World.cell?, hb]
  have old : ∀ j, w.cell? ⟨g, j, none⟩ = cs[j]? := fun j => by simp [World.cell?, h1]
  rw [← hW]
  refine ⟨⟨_, hb, by simp [h2]⟩, fun j hj => ?_⟩
  by_cases hjk : j < k
  · obtain ⟨c1, c2, c3⟩ := h3 j hjk
    rw [old] at c1 c2 c3
    refine ⟨?_, ?_, ?_⟩
    all_goals rw [cell, Array.getElem?_setIfInBounds_ne (by omega), Array.getElem?_setIfInBounds_ne (by omega), Array.getElem?_setIfInBounds_ne (by omega)]
    · exact c1
    · exact c2
    · exact c3
  · obtain rfl : j = k := by omega
    refine ⟨?_, ?_, ?_⟩
    · rw [cell, Array.getElem?_setIfInBounds_ne (by omega), Array.getElem?_setIfInBounds_ne (by omega), Array.getElem?_setIfInBounds_self_of_lt (by omega)]
    · rw [cell, Array.getElem?_setIfInBounds_ne (by omega), Array.getElem?_setIfInBounds_self_of_lt (by simp; omega)]
    · rw [cell, Array.getElem?_setIfInBounds_self_of_lt (by simp; omega)]
theorem PartT.view {w : World} {g n : Nat} {l : List TokT} (h : PartT w g n n l) (hl : l.length = n) : ToksV w (some ⟨g, 0, none⟩) l := by
  intro j hj
  obtain ⟨c1, c2, c3⟩ := h.each j (by omega)
  exact ⟨g, 0, rfl, World.block_lt_of_cell? _ _ c1, by rw [Nat.zero_add]; exact c1, by rw [Nat.zero_add]; exact c2, by rw [Nat.zero_add]; exact c3⟩
theorem PartT.lt {w : World} {g n k : Nat} {l : List TokT} (h : PartT w g n k l) : g < w.heap.size := by
  obtain ⟨cs, h1, _⟩ := h.row
  exact (Array.getElem?_eq_some_iff.1 h1).1
theorem TokMake.info : (Tryz.prog.info? 102).map (fun i => (i.zero, i.size, i.bytes)) = some (some (.agg #[.int .u8 0, .string ⟨#[]⟩, .int .i64 0]), 3, 32) := by kernel_rfl

end Go.Proofs.YtmobologlaeefaaGreat

/-
  What Quote of the layer lex returns, for every text whose quoted form keeps to Go's own limit of a length; nothing that was there turns.
-/
namespace Go.Proofs.YtmobologlaeefaaGreat
open Go.RowKit
set_option maxRecDepth 10000
set_option linter.unusedVariables false
set_option linter.unusedSimpArgs false

end Go.Proofs.YtmobologlaeefaaGreat

/-
  What written and Write of the layer lex return, for every list of tokens whose line keeps to Go's own limit of a length; nothing that was there turns.
-/
namespace Go.Proofs.YtmobologlaeefaaGreat
open Go.RowKit
set_option maxRecDepth 10000
set_option linter.unusedVariables false
set_option linter.unusedSimpArgs false

end Go.Proofs.YtmobologlaeefaaGreat

/-
  What Digit, Hex, Worth, Plain and Number of the document's answer for layer 6 return; nothing turns.
-/
namespace Go.Proofs.YtmobologlaeefaaGreat
open Go.RowKit
set_option maxRecDepth 10000
set_option linter.unusedVariables false
set_option linter.unusedSimpArgs false

theorem refDigit_any (c : Int) (w : World) (h0 : 0 ≤ c) (h1 : c < 256) :
    Calls Tryz.prog 88 #[.int .u8 c] w fun e w' => e = .returned (.bool (digitB c)) ∧ w = w' := by
  by_cases a : 48 ≤ c
  · by_cases b : c ≤ 57
    · have H : Hid (digitB c = true) := by show _ = _; simp [digitB]; omega
      go_enter Tryz.func88, Tryz.ntmps88
      go_wp2
      go_ret
      exact ⟨by rw [H.out]; first | rfl | (simp; done) | (simp; omega), rfl⟩
    · have H : Hid (digitB c = false) := by show _ = _; simp [digitB]; omega
      go_enter Tryz.func88, Tryz.ntmps88
      go_wp2
      go_ret
      exact ⟨by rw [H.out]; first | rfl | (simp; done) | (simp; omega), rfl⟩
  · have H : Hid (digitB c = false) := by show _ = _; simp [digitB]; omega
    go_enter Tryz.func88, Tryz.ntmps88
    go_wp2
    go_ret
    exact ⟨by rw [H.out]; first | rfl | (simp; done) | (simp; omega), rfl⟩

theorem refHex_any (c : Int) (w : World) (h0 : 0 ≤ c) (h1 : c < 256) :
    Calls Tryz.prog 90 #[.int .u8 c] w fun e w' => e = .returned (.bool (hexB c)) ∧ w = w' := by
  have hD := fun wx => refDigit_any c wx h0 h1
  cases hd : digitB c
  · rw [hd] at hD
    have HH : Hid (hexB c = (decide (97 ≤ c ∧ c ≤ 102) || decide (65 ≤ c ∧ c ≤ 70))) := by show _ = _; rw [hexB, hd]; rfl
    clear hd
    by_cases a : 97 ≤ c
    · by_cases b : c ≤ 102
      · have H : Hid (hexB c = true) := by show _ = _; rw [HH.out]; simp [a, b]
        clear HH
        go_enter Tryz.func90, Tryz.ntmps90
        go_wp2_with (go_at_call 88; refine (hD _).mono ?_; rintro e w' ⟨rfl, rfl⟩)
        go_ret
        exact ⟨by rw [H.out]; first | rfl | (simp; done) | (simp; omega), rfl⟩
      · have H : Hid (hexB c = false) := by show _ = _; rw [HH.out]; simp; omega
        have b1 : 65 ≤ c := by omega
        have b2 : ¬ c ≤ 70 := by omega
        clear HH
        go_enter Tryz.func90, Tryz.ntmps90
        go_wp2_with (go_at_call 88; refine (hD _).mono ?_; rintro e w' ⟨rfl, rfl⟩)
        go_ret
        exact ⟨by rw [H.out]; first | rfl | (simp; done) | (simp; omega), rfl⟩
    · by_cases b : 65 ≤ c
      · by_cases d : c ≤ 70
        · have H : Hid (hexB c = true) := by show _ = _; rw [HH.out]; simp; omega
          clear HH
          go_enter Tryz.func90, Tryz.ntmps90
          go_wp2_with (go_at_call 88; refine (hD _).mono ?_; rintro e w' ⟨rfl, rfl⟩)
          go_ret
          exact ⟨by rw [H.out]; first | rfl | (simp; done) | (simp; omega), rfl⟩
        · have H : Hid (hexB c = false) := by show _ = _; rw [HH.out]; simp; omega
          clear HH
          go_enter Tryz.func90, Tryz.ntmps90
          go_wp2_with (go_at_call 88; refine (hD _).mono ?_; rintro e w' ⟨rfl, rfl⟩)
          go_ret
          exact ⟨by rw [H.out]; first | rfl | (simp; done) | (simp; omega), rfl⟩
      · have H : Hid (hexB c = false) := by show _ = _; rw [HH.out]; simp; omega
        clear HH
        go_enter Tryz.func90, Tryz.ntmps90
        go_wp2_with (go_at_call 88; refine (hD _).mono ?_; rintro e w' ⟨rfl, rfl⟩)
        go_ret
        exact ⟨by rw [H.out]; first | rfl | (simp; done) | (simp; omega), rfl⟩
  · rw [hd] at hD
    have H : Hid (hexB c = true) := digit_hex hd
    clear hd
    go_enter Tryz.func90, Tryz.ntmps90
    go_wp2_with (go_at_call 88; refine (hD _).mono ?_; rintro e w' ⟨rfl, rfl⟩)
    go_ret
    exact ⟨by rw [H.out]; first | rfl | (simp; done) | (simp; omega), rfl⟩

theorem refWorth_any (c : Int) (w : World) (h0 : 0 ≤ c) (h1 : c < 256) (hx : hexB c = true) :
    Calls Tryz.prog 91 #[.int .u8 c] w fun e w' => e = .returned (.int .u64 (dvI c)) ∧ w = w' := by
  have hD := fun wx => refDigit_any c wx h0 h1
  have hv : dvI c = worthI c := by unfold dvI; rw [if_pos hx]
  cases hd : digitB c
  · rw [hd] at hD
    simp only [hexB, hd, Bool.false_or, Bool.or_eq_true, decide_eq_true_eq] at hx
    by_cases a : 97 ≤ c
    · have H : Hid (dvI c = c - 87) := by show _ = _; rw [hv]; unfold worthI; rw [if_neg (by omega), if_pos a]
      clear hd hv
      have hx' : c ≤ 102 := by omega
      clear hx
      go_enter Tryz.func91, Tryz.ntmps91
      go_wp2_with (go_at_call 88; refine (hD _).mono ?_; rintro e w' ⟨rfl, rfl⟩)
      go_ret
      exact ⟨by rw [H.out]; exact ret_int (by omega), rfl⟩
    · have H : Hid (dvI c = c - 55) := by show _ = _; rw [hv]; unfold worthI; rw [if_neg (by omega), if_neg a]
      have hx1 : 65 ≤ c := by omega
      have hx' : c ≤ 70 := by omega
      clear hd hv hx
      go_enter Tryz.func91, Tryz.ntmps91
      go_wp2_with (go_at_call 88; refine (hD _).mono ?_; rintro e w' ⟨rfl, rfl⟩)
      go_ret
      exact ⟨by rw [H.out]; exact ret_int (by omega), rfl⟩
  · rw [hd] at hD
    simp only [digitB, decide_eq_true_eq] at hd
    have H : Hid (dvI c = c - 48) := by show _ = _; rw [hv]; unfold worthI; rw [if_pos hd.2]
    have a := hd.1
    have b := hd.2
    clear hd hv hx
    go_enter Tryz.func91, Tryz.ntmps91
    go_wp2_with (go_at_call 88; refine (hD _).mono ?_; rintro e w' ⟨rfl, rfl⟩)
    go_ret
    exact ⟨by rw [H.out]; exact ret_int (by omega), rfl⟩

theorem hid1 {p : Prop} (h : p) : Hid p := h
theorem dv_of_digit {c : Int} (h : digitB c = true) : dvI c = c - 48 := by
  unfold dvI; rw [if_pos (digit_hex h)]
  simp only [digitB, decide_eq_true_eq] at h
  unfold worthI; rw [if_pos h.2]
theorem pow10 (k : Nat) (h : k ≤ 10) : (10 : Int) ^ k ≤ 10000000000 := by
  have : ∀ k : Fin 11, (10 : Int) ^ k.val ≤ 10000000000 := by decide
  exact this ⟨k, by omega⟩
theorem pow16 (k : Nat) (h : k ≤ 8) : (16 : Int) ^ k ≤ 4294967296 := by
  have : ∀ k : Fin 9, (16 : Int) ^ k.val ≤ 4294967296 := by decide
  exact this ⟨k, by omega⟩

set_option maxHeartbeats 1000000 in
theorem refPlain_any (s : ByteArray) (w : World) (hs : s.size ≤ 140737488351232) :
    Calls Tryz.prog 87 #[.string s] w fun e w' => (∃ x : Int, e = .returned (.tuple #[.int .u64 x, .bool (plainB (strI s))]) ∧ 0 ≤ x ∧ (plainB (strI s) = true → x = valF 10 0 (strI s) ∧ x < 4294967296)) ∧ w = w' := by
  have HLen : Hid ((strI s).length = s.size) := strI_len s
  by_cases hz : s.size = 0
  · have HB : Hid (plainB (strI s) = false) := by
      show _ = _
      have : strI s = [] := List.length_eq_zero_iff.1 (by rw [strI_len]; exact hz)
      rw [this]; rfl
    have hzi : ((s.size : Int) == 0) = true := by rw [hz]; rfl
    go_enter Tryz.func87, Tryz.ntmps87
    go_wp2_with fail
    go_ret2
    exact ⟨⟨0, by rw [HB.out]; rfl, by omega, fun h => by rw [HB.out] at h; cases h⟩, rfl⟩
  have hzi : ((s.size : Int) == 0) = false := beq_eq_false_iff_ne.2 (by omega)
  by_cases hl : 10 < s.size
  · have HB : Hid (plainB (strI s) = false) := plain_long (by rw [HLen.out]; exact hl)
    have hli : (10 : Int) < (s.size : Int) := by omega
    go_enter Tryz.func87, Tryz.ntmps87
    go_wp2_with fail
    go_ret2
    exact ⟨⟨0, by rw [HB.out]; rfl, by omega, fun h => by rw [HB.out] at h; cases h⟩, rfl⟩
  have hli : ¬ (10 : Int) < (s.size : Int) := by omega
  by_cases h0 : 1 < s.size ∧ nth (strI s) 0 = 48
  · have HB : Hid (plainB (strI s) = false) := plain_zero (by rw [HLen.out]; exact h0.1) h0.2
    have h1 : (1 : Int) < (s.size : Int) := by omega
    have h2 := h0.2
    have hlt : 0 < s.size := by omega
    rw [nth_strI s 0 hlt] at h2
    have h3 : ((s[0].toNat : Int) == 48) = true := by simpa using h2
    clear h0 h2
    go_enter Tryz.func87, Tryz.ntmps87
    go_wp2_with fail
    go_ret2
    exact ⟨⟨0, by rw [HB.out]; rfl, by omega, fun h => by rw [HB.out] at h; cases h⟩, rfl⟩
  have HB : Hid (plainB (strI s) = digsB 10 (strI s)) := plain_digs (by rw [HLen.out]; exact h0)
  have hlt0 : 0 < s.size := by omega
  have hs10 : s.size ≤ 10 := by omega
  have HH : Hid (¬ (1 < s.size ∧ (s[0].toNat : Int) = 48)) := by rw [← nth_strI s 0 hlt0]; exact h0
  have HF : Hid (∀ k, k < s.size → digitB (nth (strI s) k) = false → plainB (strI s) = false) := fun k hk h => by
    rw [HB.out]
    refine digs_not (k := k) (by rw [HLen.out]; exact hk) ?_
    have := dv_digit (nth (strI s) k)
    rw [h] at this
    simp at this; omega
  have HA : Hid (∀ k, k < s.size → allD 10 ((strI s).take k) = true → digitB (nth (strI s) k) = true → allD 10 ((strI s).take (k + 1)) = true ∧ valF 10 0 ((strI s).take (k + 1)) = 10 * valF 10 0 ((strI s).take k) + (nth (strI s) k - 48)) := fun k hk h h1 =>
    ⟨allD_snoc (by rw [HLen.out]; exact hk) h ((dv_digit _).2 h1), by rw [valF_take 10 _ k (by rw [HLen.out]; exact hk), dv_of_digit h1]; omega⟩
  have HW : Hid (∀ k, k ≤ s.size → allD 10 ((strI s).take k) = true → 0 ≤ valF 10 0 ((strI s).take k) ∧ valF 10 0 ((strI s).take k) < 10000000000) := fun k hk h => by
    refine ⟨valF_lo 10 _ (by omega), ?_⟩
    have h1 := valF_lt 10 ((strI s).take k) (by omega) h 0 0 (by decide)
    have h2 := pow10 k (by omega)
    rw [List.length_take, HLen.out, Nat.min_eq_left hk, Nat.zero_add] at h1
    omega
  have HE : Hid (allD 10 ((strI s).take s.size) = true → plainB (strI s) = decide (valF 10 0 ((strI s).take s.size) < 4294967296) ∧ valF 10 0 ((strI s).take s.size) = valF 10 0 (strI s)) := fun h => by
    rw [List.take_of_length_le (by rw [HLen.out]; omega)] at h ⊢
    refine ⟨?_, rfl⟩
    rw [HB.out, digsB, h]
    have : (strI s).isEmpty = false := by
      cases e : strI s with
      | nil => have := HLen.out; rw [e] at this; simp at this; omega
      | cons a b => rfl
    rw [this]; rfl
  clear h0 hz HB
  by_cases h1 : 1 < s.size
  · have h1i : (1 : Int) < (s.size : Int) := by omega
    have h3 : ((s[0].toNat : Int) == 48) = false := by simpa using fun e => HH.out ⟨h1, e⟩
    go_enter Tryz.func87, Tryz.ntmps87
    go_wp2_with fail
    go_loop [4, 5] (fun m i => ∃ k : Nat, k ≤ s.size ∧ i = .int .i64 k ∧ m = .int .u64 (valF 10 0 ((strI s).take k)) ∧ allD 10 ((strI s).take k) = true) (fun _ i => s.size - (intOf i).toNat)
    case atStart => exact ⟨0, Nat.zero_le _, rfl, rfl, rfl⟩
    case round =>
      obtain ⟨k, hk, rfl, rfl, hall⟩ := hrel
      obtain ⟨hn0, hn1⟩ := HW.out k hk hall
      by_cases hlt : k < s.size
      · have hc0 : (0 : Int) ≤ (s[k].toNat : Int) := by omega
        have hc1 : (s[k].toNat : Int) < 256 := by have := s[k].toNat_lt; omega
        have hD := fun wx => refDigit_any (s[k].toNat : Int) wx hc0 hc1
        have eF := HF.out k hlt
        have eA := HA.out k hlt hall
        rw [nth_strI s k hlt] at eF eA
        have EF := hid1 eF
        have EA := hid1 eA
        clear eF eA hall
        cases hd : digitB (s[k].toNat : Int)
        · have HB : Hid (plainB (strI s) = false) := EF.out hd
          rw [hd] at hD
          clear EA EF hd
          generalize valF 10 0 ((strI s).take k) = m at *
          go_wp2_with (go_at_call 88; refine (hD _).mono ?_; rintro e w' ⟨rfl, rfl⟩)
          go_ret2
          exact ⟨⟨0, by rw [HB.out]; rfl, by omega, fun h => by rw [HB.out] at h; cases h⟩, rfl⟩
        · obtain ⟨eA1, eA2⟩ := EA.out hd
          have EA1 := hid1 eA1
          have EA2 := hid1 eA2
          rw [hd] at hD
          simp only [digitB, decide_eq_true_eq] at hd
          have d1 := hd.1
          have d2 := hd.2
          clear EA EF hd eA1 eA2
          generalize valF 10 0 ((strI s).take k) = m at *
          go_wp2_with (go_at_call 88; refine (hD _).mono ?_; rintro e w' ⟨rfl, rfl⟩)
          go_round
          case rel => exact ⟨k + 1, by omega, by go_num, by rw [EA2.out], EA1.out⟩
          case measure => simp [intOf]; omega
      · obtain rfl : k = s.size := by omega
        obtain ⟨e1, e2⟩ := HE.out hall
        have E1 := hid1 e1
        have E2 := hid1 e2
        clear e1 e2 hall
        generalize valF 10 0 ((strI s).take s.size) = m at *
        go_wp2_with fail
        go_ret2
        exact ⟨⟨m, by rw [E1.out]; rfl, hn0, fun h => ⟨E2.out, of_decide_eq_true (by rw [E1.out] at h; exact h)⟩⟩, rfl⟩
  · have h1i : ¬ (1 : Int) < (s.size : Int) := by omega
    go_enter Tryz.func87, Tryz.ntmps87
    go_wp2_with fail
    go_loop [4, 5] (fun m i => ∃ k : Nat, k ≤ s.size ∧ i = .int .i64 k ∧ m = .int .u64 (valF 10 0 ((strI s).take k)) ∧ allD 10 ((strI s).take k) = true) (fun _ i => s.size - (intOf i).toNat)
    case atStart => exact ⟨0, Nat.zero_le _, rfl, rfl, rfl⟩
    case round =>
      obtain ⟨k, hk, rfl, rfl, hall⟩ := hrel
      obtain ⟨hn0, hn1⟩ := HW.out k hk hall
      by_cases hlt : k < s.size
      · have hc0 : (0 : Int) ≤ (s[k].toNat : Int) := by omega
        have hc1 : (s[k].toNat : Int) < 256 := by have := s[k].toNat_lt; omega
        have hD := fun wx => refDigit_any (s[k].toNat : Int) wx hc0 hc1
        have eF := HF.out k hlt
        have eA := HA.out k hlt hall
        rw [nth_strI s k hlt] at eF eA
        have EF := hid1 eF
        have EA := hid1 eA
        clear eF eA hall
        cases hd : digitB (s[k].toNat : Int)
        · have HB : Hid (plainB (strI s) = false) := EF.out hd
          rw [hd] at hD
          clear EA EF hd
          generalize valF 10 0 ((strI s).take k) = m at *
          go_wp2_with (go_at_call 88; refine (hD _).mono ?_; rintro e w' ⟨rfl, rfl⟩)
          go_ret2
          exact ⟨⟨0, by rw [HB.out]; rfl, by omega, fun h => by rw [HB.out] at h; cases h⟩, rfl⟩
        · obtain ⟨eA1, eA2⟩ := EA.out hd
          have EA1 := hid1 eA1
          have EA2 := hid1 eA2
          rw [hd] at hD
          simp only [digitB, decide_eq_true_eq] at hd
          have d1 := hd.1
          have d2 := hd.2
          clear EA EF hd eA1 eA2
          generalize valF 10 0 ((strI s).take k) = m at *
          go_wp2_with (go_at_call 88; refine (hD _).mono ?_; rintro e w' ⟨rfl, rfl⟩)
          go_round
          case rel => exact ⟨k + 1, by omega, by go_num, by rw [EA2.out], EA1.out⟩
          case measure => simp [intOf]; omega
      · obtain rfl : k = s.size := by omega
        obtain ⟨e1, e2⟩ := HE.out hall
        have E1 := hid1 e1
        have E2 := hid1 e2
        clear e1 e2 hall
        generalize valF 10 0 ((strI s).take s.size) = m at *
        go_wp2_with fail
        go_ret2
        exact ⟨⟨m, by rw [E1.out]; rfl, hn0, fun h => ⟨E2.out, of_decide_eq_true (by rw [E1.out] at h; exact h)⟩⟩, rfl⟩

theorem take1_nth {l : List Int} {c : Int} (h : 0 < l.length) : l.take 1 = [c] ↔ nth l 0 = c := by
  cases l with
  | nil => simp at h
  | cons a r => simp [nth]
theorem take2_nth {l : List Int} {c d : Int} (h : 1 < l.length) : l.take 2 = [c, d] ↔ nth l 0 = c ∧ nth l 1 = d := by
  match l, h with
  | [a], h => simp at h
  | a :: b :: r, _ => simp [nth]

theorem num_not {l : List Int} (hb : plainB l = false) (hm : ¬ (1 < l.length ∧ nth l 0 = 45)) (hx : ¬ (3 ≤ l.length ∧ l.length ≤ 10 ∧ nth l 0 = 48 ∧ nth l 1 = 120)) : numB l = false := by
  by_cases h1 : l.take 1 = [45]
  · have hlen : 0 < l.length := by
      have := congrArg List.length h1
      rw [List.length_take] at this; simp at this; omega
    have h0 := (take1_nth hlen).1 h1
    have hl1 : l.length = 1 := by
      by_cases h : 1 < l.length
      · exact absurd ⟨h, h0⟩ hm
      · omega
    rw [(num_neg h1).1, List.drop_eq_nil_of_le (by omega)]; rfl
  · by_cases h2 : l.take 2 = [48, 120]
    · have hlen : 1 < l.length := by
        have := congrArg List.length h2
        rw [List.length_take] at this; simp at this; omega
      have h0 := (take2_nth hlen).1 h2
      rw [(num_hex h1 h2).1]
      by_cases h3 : 3 ≤ l.length
      · have : ¬ l.length ≤ 10 := fun h => hx ⟨h3, h, h0.1, h0.2⟩
        rw [decide_eq_false this, Bool.and_false]
      · rw [List.drop_eq_nil_of_le (by omega)]; rfl
    · rw [(num_plain h1 h2).1]; exact hb

theorem plain_num {l : List Int} (h : plainB l = true) : numB l = true ∧ numV l = valF 10 0 l := by
  have hall : allD 10 l = true := by
    simp only [plainB, digsB, Bool.and_eq_true] at h
    exact h.2.1.2
  have h1 : ¬ l.take 1 = [45] := fun e => by
    cases l with
    | nil => simp at e
    | cons c r =>
      simp at e; subst e
      have : dvI 45 < 10 := allD_at hall (k := 0) (by simp)
      exact absurd this (by decide)
  have h2 : ¬ l.take 2 = [48, 120] := fun e => by
    match l, e with
    | [], e => simp at e
    | [c], e => simp at e
    | c :: d :: r, e =>
      simp at e
      obtain ⟨rfl, rfl⟩ := e
      have : dvI 120 < 10 := allD_at hall (k := 1) (by simp)
      exact absurd this (by decide)
  obtain ⟨a, b⟩ := num_plain h1 h2
  exact ⟨a.trans h, b⟩
set_option maxHeartbeats 2000000 in
theorem refNumber_any (s : ByteArray) (w : World) (hs : s.size ≤ 140737488351232) :
    Calls Tryz.prog 49 #[.string s] w fun e w' => e = .returned (.tuple #[.int .u32 (numOut (strI s)), .int .i64 (numErr (strI s))]) ∧ w = w' := by
  have hP := fun wx => refPlain_any s wx hs
  have HLen : Hid ((strI s).length = s.size) := strI_len s
  have HO1 : Hid (numB (strI s) = true → numOut (strI s) = numV (strI s) ∧ numErr (strI s) = 0) := fun h => by simp [numOut, numErr, h]
  have HO0 : Hid (numB (strI s) = false → numOut (strI s) = 0 ∧ numErr (strI s) = 62) := fun h => by simp [numOut, numErr, h]
  cases hb : plainB (strI s)
  · rw [hb] at hP
    by_cases hm : 1 < s.size ∧ nth (strI s) 0 = 45
    · have h1 := hm.1
      have ht : (strI s).take 1 = [45] := (take1_nth (by rw [HLen.out]; omega)).2 hm.2
      obtain ⟨n1, n2⟩ := num_neg ht
      have e3 : strI (s.extract 1 s.size) = (strI s).drop 1 := by rw [strI_extract, List.take_of_length_le (by rw [HLen.out]; omega)]
      have hN := fun wx => refPlain_any (s.extract 1 s.size) wx (by rw [ByteArray.size_extract]; omega)
      rw [e3] at hN
      have N1 := hid1 n1
      have N2 := hid1 n2
      have hlt : 0 < s.size := by omega
      have h2 := hm.2
      rw [nth_strI s 0 hlt] at h2
      have h3 : ((s[0].toNat : Int) == 45) = true := by simpa using h2
      have h1i : (1 : Int) < (s.size : Int) := by omega
      have h1n : 1 ≤ s.size := by omega
      clear n1 n2 e3 ht hm h2 hb
      generalize (strI s).drop 1 = l at *
      generalize plainB l = B at *
      generalize valF 10 0 l = v at *
      go_enter Tryz.func49, Tryz.ntmps49
      go_wp2_with fail
      refine (hP _).mono ?_
      rintro e w' ⟨⟨x, rfl, hx0, _⟩, rfl⟩
      go_wp2_with fail
      refine (hN _).mono ?_
      rintro e w' ⟨⟨x2, rfl, hx20, hx2⟩, rfl⟩
      cases B
      · obtain ⟨o1, o2⟩ := HO0.out (by rw [N1.out]; rfl)
        have O1 := hid1 o1
        have O2 := hid1 o2
        clear o1 o2 N1 N2 hx2 hN hP
        go_wp2_with fail
        go_ret2
        exact ⟨by rw [O1.out, O2.out]; rfl, rfl⟩
      · obtain ⟨rfl, hx2h⟩ := hx2 rfl
        clear hN hP hx2
        by_cases g1 : 1 ≤ x2
        · by_cases g2 : x2 ≤ 2147483648
          · obtain ⟨o1, o2⟩ := HO1.out (by rw [N1.out]; simp [g1, g2])
            have O1 : Hid (numOut (strI s) = 4294967296 - x2) := o1.trans N2.out
            have O2 := hid1 o2
            have g1d : decide (1 ≤ x2) = true := decide_eq_true g1
            have g2d : decide (x2 ≤ 2147483648) = true := decide_eq_true g2
            clear o1 o2 N1 N2
            go_wp2_with fail
            go_ret2
            refine ⟨?_, rfl⟩
            rw [O1.out, O2.out]
            first
              | rfl
              | (go_goals)
          · obtain ⟨o1, o2⟩ := HO0.out (by rw [N1.out]; simp [g1, g2])
            have O1 := hid1 o1
            have O2 := hid1 o2
            have g1d : decide (1 ≤ x2) = true := decide_eq_true g1
            have g2d : decide (x2 ≤ 2147483648) = false := decide_eq_false g2
            clear o1 o2 N1 N2 g2
            go_wp2_with fail
            go_ret2
            exact ⟨by rw [O1.out, O2.out]; rfl, rfl⟩
        · obtain ⟨o1, o2⟩ := HO0.out (by rw [N1.out]; simp [g1])
          have O1 := hid1 o1
          have O2 := hid1 o2
          have g1d : decide (1 ≤ x2) = false := decide_eq_false g1
          clear o1 o2 N1 N2
          go_wp2_with fail
          go_ret2
          exact ⟨by rw [O1.out, O2.out]; rfl, rfl⟩
    · have hm2 : ¬ (1 < (strI s).length ∧ nth (strI s) 0 = 45) := by rw [HLen.out]; exact hm
      by_cases hx : 3 ≤ s.size ∧ s.size ≤ 10 ∧ nth (strI s) 0 = 48 ∧ nth (strI s) 1 = 120
      · obtain ⟨g1, g2, g3, g4⟩ := hx
        have h1 : ¬ (strI s).take 1 = [45] := fun e => by have := (take1_nth (by rw [HLen.out]; omega)).1 e; omega
        have h2 : (strI s).take 2 = [48, 120] := (take2_nth (by rw [HLen.out]; omega)).2 ⟨g3, g4⟩
        obtain ⟨n1, n2⟩ := num_hex h1 h2
        rw [HLen.out, decide_eq_true g2, Bool.and_true] at n1
        have N1 := hid1 n1
        have N2 := hid1 n2
        have hlt0 : 0 < s.size := by omega
        have hlt1 : 1 < s.size := by omega
        rw [nth_strI s 0 hlt0] at g3
        rw [nth_strI s 1 hlt1] at g4
        have i0 : ((s[0].toNat : Int) == 45) = false := by rw [g3]; rfl
        have i1 : ((s[0].toNat : Int) != 48) = false := by rw [g3]; rfl
        have i2 : ((s[1].toNat : Int) != 120) = false := by rw [g4]; rfl
        have j1 : (1 : Int) < (s.size : Int) := by omega
        have j2 : ¬ (s.size : Int) < 3 := by omega
        have j3 : ¬ (10 : Int) < (s.size : Int) := by omega
        have HDl : Hid (((strI s).drop 2).length = s.size - 2) := by show _ = _; rw [List.length_drop, HLen.out]
        have HDn : Hid (∀ k, nth ((strI s).drop 2) k = nth (strI s) (k + 2)) := fun k => by unfold nth; simp [List.getD, List.getElem?_drop, Nat.add_comm]
        have HF : Hid (∀ k, k + 2 < s.size → hexB (nth (strI s) (k + 2)) = false → numB (strI s) = false) := fun k hk h => by
          rw [N1.out]
          refine digs_not (k := k) (by rw [HDl.out]; omega) ?_
          rw [HDn.out]
          have := dv_hex (nth (strI s) (k + 2))
          rw [h] at this
          simp at this; omega
        have HA : Hid (∀ k, k + 2 < s.size → allD 16 (((strI s).drop 2).take k) = true → hexB (nth (strI s) (k + 2)) = true → allD 16 (((strI s).drop 2).take (k + 1)) = true ∧ valF 16 0 (((strI s).drop 2).take (k + 1)) = 16 * valF 16 0 (((strI s).drop 2).take k) + dvI (nth (strI s) (k + 2))) := fun k hk h h1 =>
          ⟨allD_snoc (by rw [HDl.out]; omega) h (by rw [HDn.out]; exact (dv_hex _).2 h1), by rw [valF_take 16 _ k (by rw [HDl.out]; omega), HDn.out]; omega⟩
        have HW : Hid (∀ k, k + 2 ≤ s.size → allD 16 (((strI s).drop 2).take k) = true → 0 ≤ valF 16 0 (((strI s).drop 2).take k) ∧ valF 16 0 (((strI s).drop 2).take k) < 4294967296) := fun k hk h => by
          refine ⟨valF_lo 16 _ (by omega), ?_⟩
          have h1 := valF_lt 16 (((strI s).drop 2).take k) (by omega) h 0 0 (by decide)
          have h2 := pow16 k (by omega)
          rw [List.length_take, HDl.out, Nat.min_eq_left (by omega), Nat.zero_add] at h1
          omega
        have HE : Hid (∀ k, k + 2 = s.size → allD 16 (((strI s).drop 2).take k) = true → numB (strI s) = true ∧ valF 16 0 (((strI s).drop 2).take k) = numV (strI s)) := fun k hk h => by
          have hw := HW.out k (by omega) h
          rw [List.take_of_length_le (by rw [HDl.out]; omega)] at h hw ⊢
          refine ⟨?_, by rw [N2.out]⟩
          rw [N1.out, digs_all h hw.2]
          cases e : (strI s).drop 2 with
          | nil => have := HDl.out; rw [e] at this; simp at this; omega
          | cons a b => rfl
        have GF : Hid (∀ q, 2 ≤ q → q < s.size → hexB (nth (strI s) q) = false → numB (strI s) = false) := fun q h1 h2 h3 => HF.out (q - 2) (by omega) (by rw [show q - 2 + 2 = q by omega]; exact h3)
        have GA : Hid (∀ q, 2 ≤ q → q < s.size → allD 16 (((strI s).drop 2).take (q - 2)) = true → hexB (nth (strI s) q) = true → allD 16 (((strI s).drop 2).take (q + 1 - 2)) = true ∧ valF 16 0 (((strI s).drop 2).take (q + 1 - 2)) = 16 * valF 16 0 (((strI s).drop 2).take (q - 2)) + dvI (nth (strI s) q)) := fun q h1 h2 h3 h4 => by
          have := HA.out (q - 2) (by omega) h3 (by rw [show q - 2 + 2 = q by omega]; exact h4)
          rw [show q - 2 + 2 = q by omega, show q - 2 + 1 = q + 1 - 2 by omega] at this; exact this
        have GW : Hid (∀ q, 2 ≤ q → q ≤ s.size → allD 16 (((strI s).drop 2).take (q - 2)) = true → 0 ≤ valF 16 0 (((strI s).drop 2).take (q - 2)) ∧ valF 16 0 (((strI s).drop 2).take (q - 2)) < 4294967296) := fun q h1 h2 h3 => HW.out (q - 2) (by omega) h3
        have GE : Hid (allD 16 (((strI s).drop 2).take (s.size - 2)) = true → numB (strI s) = true ∧ valF 16 0 (((strI s).drop 2).take (s.size - 2)) = numV (strI s)) := fun h3 => HE.out (s.size - 2) (by omega) h3
        clear n1 n2 h1 h2 hb hm hm2 N1 N2 HDl HDn g3 g4 HF HA HW HE
        go_enter Tryz.func49, Tryz.ntmps49
        go_wp2_with fail
        refine (hP _).mono ?_
        rintro e w' ⟨⟨x, rfl, hx0, _⟩, rfl⟩
        clear hP
        go_wp2_with fail
        go_loop [4, 6] (fun m i => ∃ q : Nat, 2 ≤ q ∧ q ≤ s.size ∧ i = .int .i64 q ∧ m = .int .u64 (valF 16 0 (((strI s).drop 2).take (q - 2))) ∧ allD 16 (((strI s).drop 2).take (q - 2)) = true) (fun _ i => s.size - (intOf i).toNat)
        case atStart => exact ⟨2, by omega, by omega, rfl, rfl, rfl⟩
        case round =>
          obtain ⟨q, hq2, hk, rfl, rfl, hall⟩ := hrel
          obtain ⟨hn0, hn1⟩ := GW.out q hq2 hk hall
          by_cases hlt : q < s.size
          · have hc0 : (0 : Int) ≤ (s[q].toNat : Int) := by omega
            have hc1 : (s[q].toNat : Int) < 256 := by have := s[q].toNat_lt; omega
            have hD := fun wx => refHex_any (s[q].toNat : Int) wx hc0 hc1
            have eF := GF.out q hq2 hlt
            have eA := GA.out q hq2 hlt hall
            rw [nth_strI s q hlt] at eF eA
            have EF := hid1 eF
            have EA := hid1 eA
            clear eF eA hall
            cases hd : hexB (s[q].toNat : Int)
            · obtain ⟨o1, o2⟩ := HO0.out (EF.out hd)
              have O1 := hid1 o1
              have O2 := hid1 o2
              rw [hd] at hD
              clear EA EF hd o1 o2
              generalize valF 16 0 (((strI s).drop 2).take (q - 2)) = m at *
              go_wp2_with (go_at_call 90; refine (hD _).mono ?_; rintro e w' ⟨rfl, rfl⟩)
              go_ret2
              exact ⟨by rw [O1.out, O2.out]; rfl, rfl⟩
            · obtain ⟨eA1, eA2⟩ := EA.out hd
              have EA1 := hid1 eA1
              have EA2 := hid1 eA2
              have hWo := fun wx => refWorth_any (s[q].toNat : Int) wx hc0 hc1 hd
              have d0 := dv_lo (s[q].toNat : Int)
              have d1 := (dv_hex (s[q].toNat : Int)).2 hd
              rw [hd] at hD
              clear EA EF hd eA1 eA2
              generalize valF 16 0 (((strI s).drop 2).take (q - 2)) = m at *
              generalize dvI (s[q].toNat : Int) = d at *
              go_wp2_with (first | (go_at_call 90; refine (hD _).mono ?_; rintro e w' ⟨rfl, rfl⟩) | (go_at_call 91; refine (hWo _).mono ?_; rintro e w' ⟨rfl, rfl⟩))
              go_round
              case rel => exact ⟨q + 1, by omega, by omega, by go_num, by rw [EA2.out], EA1.out⟩
              case measure => simp [intOf]; omega
          · obtain rfl : q = s.size := by omega
            obtain ⟨o1, o2⟩ := GE.out hall
            obtain ⟨o3, o4⟩ := HO1.out o1
            have O1 : Hid (numOut (strI s) = valF 16 0 (((strI s).drop 2).take (s.size - 2))) := by show _ = _; rw [o3, o2]
            have O2 := hid1 o4
            clear o1 o2 o3 o4 hall
            generalize valF 16 0 (((strI s).drop 2).take (s.size - 2)) = m at *
            go_wp2_with fail
            go_ret2
            exact ⟨by rw [O1.out, O2.out]; rfl, rfl⟩
      · have hx2 : ¬ (3 ≤ (strI s).length ∧ (strI s).length ≤ 10 ∧ nth (strI s) 0 = 48 ∧ nth (strI s) 1 = 120) := by rw [HLen.out]; exact hx
        obtain ⟨o1, o2⟩ := HO0.out (num_not hb hm2 hx2)
        have O1 := hid1 o1
        have O2 := hid1 o2
        clear o1 o2 hm2 hx2 hb
        by_cases a1 : 1 < s.size
        · have hlt0 : 0 < s.size := by omega
          have hne : ¬ nth (strI s) 0 = 45 := fun e => hm ⟨a1, e⟩
          have e0 := nth_strI s 0 hlt0
          have e1 := nth_strI s 1 a1
          rw [e0] at hne hx
          rw [e1] at hx
          have i0 : ((s[0].toNat : Int) == 45) = false := beq_eq_false_iff_ne.2 hne
          have j1 : (1 : Int) < (s.size : Int) := by omega
          clear hm hne e0 e1
          by_cases a2 : s.size < 3
          · have j2 : (s.size : Int) < 3 := by omega
            clear hx
            go_enter Tryz.func49, Tryz.ntmps49
            go_wp2_with fail
            refine (hP _).mono ?_
            rintro e w' ⟨⟨x, rfl, hx0, _⟩, rfl⟩
            clear hP
            go_wp2_with fail
            go_ret2
            exact ⟨by rw [O1.out, O2.out]; rfl, rfl⟩
          have j2 : ¬ (s.size : Int) < 3 := by omega
          by_cases a3 : 10 < s.size
          · have j3 : (10 : Int) < (s.size : Int) := by omega
            clear hx
            go_enter Tryz.func49, Tryz.ntmps49
            go_wp2_with fail
            refine (hP _).mono ?_
            rintro e w' ⟨⟨x, rfl, hx0, _⟩, rfl⟩
            clear hP
            go_wp2_with fail
            go_ret2
            exact ⟨by rw [O1.out, O2.out]; rfl, rfl⟩
          have j3 : ¬ (10 : Int) < (s.size : Int) := by omega
          by_cases a4 : (s[0].toNat : Int) = 48
          · have a5 : ¬ (s[1].toNat : Int) = 120 := fun e => hx ⟨by omega, by omega, a4, e⟩
            have i1 : ((s[0].toNat : Int) != 48) = false := by rw [a4]; rfl
            have i2 : ((s[1].toNat : Int) != 120) = true := by simpa using a5
            clear hx a4 a5
            go_enter Tryz.func49, Tryz.ntmps49
            go_wp2_with fail
            refine (hP _).mono ?_
            rintro e w' ⟨⟨x, rfl, hx0, _⟩, rfl⟩
            clear hP
            go_wp2_with fail
            go_ret2
            exact ⟨by rw [O1.out, O2.out]; rfl, rfl⟩
          · have i1 : ((s[0].toNat : Int) != 48) = true := by simpa using a4
            clear hx a4
            go_enter Tryz.func49, Tryz.ntmps49
            go_wp2_with fail
            refine (hP _).mono ?_
            rintro e w' ⟨⟨x, rfl, hx0, _⟩, rfl⟩
            clear hP
            go_wp2_with fail
            go_ret2
            exact ⟨by rw [O1.out, O2.out]; rfl, rfl⟩
        · have j1 : ¬ (1 : Int) < (s.size : Int) := by omega
          have j2 : (s.size : Int) < 3 := by omega
          clear hx hm
          go_enter Tryz.func49, Tryz.ntmps49
          go_wp2_with fail
          refine (hP _).mono ?_
          rintro e w' ⟨⟨x, rfl, hx0, _⟩, rfl⟩
          clear hP
          go_wp2_with fail
          go_ret2
          exact ⟨by rw [O1.out, O2.out]; rfl, rfl⟩
  · obtain ⟨p1, p2⟩ := plain_num hb
    rw [hb] at hP
    obtain ⟨o1, o2⟩ := HO1.out p1
    have O1 : Hid (numOut (strI s) = valF 10 0 (strI s)) := o1.trans p2
    have O2 := hid1 o2
    clear o1 o2 p1 p2 hb
    go_enter Tryz.func49, Tryz.ntmps49
    go_wp2_with fail
    refine (hP _).mono ?_
    rintro e w' ⟨⟨x, rfl, hx0, hx⟩, rfl⟩
    obtain ⟨hx1, hx2⟩ := hx trivial
    have HX1 := hid1 hx1
    clear hx hx1 hP
    go_wp2_with fail
    go_ret2
    exact ⟨by rw [O1.out, O2.out, ← HX1.out]; rfl, rfl⟩

end Go.Proofs.YtmobologlaeefaaGreat

/-
  Letter, Blank and Run of the document's answer. Nothing that was there turns.
-/
namespace Go.Proofs.YtmobologlaeefaaGreat
open Go.RowKit
set_option maxRecDepth 10000
set_option linter.unusedVariables false
set_option linter.unusedSimpArgs false

theorem ref6Letter_any (c : Int) (w : World) (h0 : 0 ≤ c) (h1 : c < 256) :
    Calls Tryz.prog 85 #[.int .u8 c] w fun e w' => e = .returned (.bool (letterB c)) ∧ w = w' := by
  by_cases a : 65 ≤ c
  · by_cases b : c ≤ 90
    · have H : Hid (letterB c = true) := by show _ = _; simp [letterB]; omega
      go_enter Tryz.func85, Tryz.ntmps85
      go_wp2
      go_ret
      exact ⟨by first | rfl | (rw [H.out]; first | rfl | (simp; done) | (simp; omega)), rfl⟩
    · by_cases d : 97 ≤ c
      · by_cases e : c ≤ 122
        · have H : Hid (letterB c = true) := by show _ = _; simp [letterB]; omega
          go_enter Tryz.func85, Tryz.ntmps85
          go_wp2
          go_ret
          exact ⟨by first | rfl | (rw [H.out]; first | rfl | (simp; done) | (simp; omega)), rfl⟩
        · have H : Hid (letterB c = false) := by show _ = _; simp [letterB]; omega
          go_enter Tryz.func85, Tryz.ntmps85
          go_wp2
          go_ret
          exact ⟨by first | rfl | (rw [H.out]; first | rfl | (simp; done) | (simp; omega)), rfl⟩
      · by_cases f : c = 95
        · have f' : (c == 95) = true := by simpa using f
          have H : Hid (letterB c = true) := by show _ = _; simp [letterB]; omega
          go_enter Tryz.func85, Tryz.ntmps85
          go_wp2
          go_ret
          exact ⟨by first | rfl | (rw [H.out]; first | rfl | (simp; done) | (simp; omega)), rfl⟩
        · have f' : (c == 95) = false := by simpa using f
          have H : Hid (letterB c = false) := by show _ = _; simp [letterB]; omega
          go_enter Tryz.func85, Tryz.ntmps85
          go_wp2
          go_ret
          exact ⟨by first | rfl | (rw [H.out]; first | rfl | (simp; done) | (simp; omega)), rfl⟩
  · have H : Hid (letterB c = false) := by show _ = _; simp [letterB]; omega
    go_enter Tryz.func85, Tryz.ntmps85
    go_wp2
    go_ret
    exact ⟨by first | rfl | (rw [H.out]; first | rfl | (simp; done) | (simp; omega)), rfl⟩

theorem refBlank_any (c : Int) (w : World) (h0 : 0 ≤ c) (h1 : c < 256) :
    Calls Tryz.prog 47 #[.int .u8 c] w fun e w' => e = .returned (.bool (blankB c)) ∧ w = w' := by
  by_cases a : c = 9
  · have a' : (c == 9) = true := by simpa using a
    have H : Hid (blankB c = true) := by show _ = _; simp [blankB]; omega
    go_enter Tryz.func47, Tryz.ntmps47
    go_wp2
    go_ret
    exact ⟨by first | rfl | (rw [H.out]; first | rfl | (simp; done) | (simp; omega)), rfl⟩
  · have a' : (c == 9) = false := by simpa using a
    by_cases b : c = 13
    · have b' : (c == 13) = true := by simpa using b
      have H : Hid (blankB c = true) := by show _ = _; simp [blankB]; omega
      go_enter Tryz.func47, Tryz.ntmps47
      go_wp2
      go_ret
      exact ⟨by first | rfl | (rw [H.out]; first | rfl | (simp; done) | (simp; omega)), rfl⟩
    · have b' : (c == 13) = false := by simpa using b
      by_cases d : c = 32
      · have d' : (c == 32) = true := by simpa using d
        have H : Hid (blankB c = true) := by show _ = _; simp [blankB]; omega
        go_enter Tryz.func47, Tryz.ntmps47
        go_wp2
        go_ret
        exact ⟨by first | rfl | (rw [H.out]; first | rfl | (simp; done) | (simp; omega)), rfl⟩
      · have d' : (c == 32) = false := by simpa using d
        have H : Hid (blankB c = false) := by show _ = _; simp [blankB]; omega
        go_enter Tryz.func47, Tryz.ntmps47
        go_wp2
        go_ret
        exact ⟨by first | rfl | (rw [H.out]; first | rfl | (simp; done) | (simp; omega)), rfl⟩

set_option maxHeartbeats 1000000 in
theorem refRun_any (s : ByteArray) (p : Nat) (w : World) (hs : s.size ≤ 140737488351232) (hp : p ≤ s.size) :
    Calls Tryz.prog 86 #[.string s, .int .i64 p] w fun e w' => e = .returned (.string (s.extract p (runE (strI s) p))) ∧ w = w' := by
  have HE : Hid (∀ k, p ≤ k → k ≤ s.size → (∀ i, p ≤ i → i < k → runB (nth (strI s) i) = true) → (k = s.size ∨ runB (nth (strI s) k) = false) → runE (strI s) p = k) := fun k h1 h2 h3 h4 => runE_spec h1 (by rw [strI_len]; exact h2) h3 (by rw [strI_len]; exact h4)
  have hp' : (p : Int) ≤ (s.size : Int) := by omega
  go_enter Tryz.func86, Tryz.ntmps86
  go_wp2
  go_loop [5] (fun i => ∃ k : Nat, p ≤ k ∧ k ≤ s.size ∧ i = .int .i64 k ∧ ∀ j, p ≤ j → j < k → runB (nth (strI s) j) = true) (fun i => s.size - (intOf i).toNat)
  case atStart => exact ⟨p, Nat.le_refl _, hp, rfl, fun j h1 h2 => by omega⟩
  case round =>
    obtain ⟨k, hpk, hk, rfl, hall⟩ := hrel
    have hpk' : (p : Int) ≤ (k : Int) := by omega
    have hk' : (k : Int) ≤ (s.size : Int) := by omega
    by_cases hlt : k < s.size
    · have hc0 : (0 : Int) ≤ (s[k].toNat : Int) := by omega
      have hc1 : (s[k].toNat : Int) < 256 := by have := s[k].toNat_lt; omega
      have hL := fun wx => ref6Letter_any (s[k].toNat : Int) wx hc0 hc1
      have hD := fun wx => refDigit_any (s[k].toNat : Int) wx hc0 hc1
      have hlt' : (k : Int) < (s.size : Int) := by omega
      have EE := HE.out k hpk hk hall
      rw [nth_strI s k hlt] at EE
      have EA : Hid (runB (s[k].toNat : Int) = true → ∀ j, p ≤ j → j < k + 1 → runB (nth (strI s) j) = true) := fun h j hpj hj => by
        by_cases e : j = k
        · subst e; rw [nth_strI s j hlt]; exact h
        · exact hall j hpj (by omega)
      have ER : Hid (runB (s[k].toNat : Int) = (letterB (s[k].toNat : Int) || digitB (s[k].toNat : Int))) := rfl
      have EE' : Hid (runB (s[k].toNat : Int) = false → runE (strI s) p = k) := fun h => EE (Or.inr h)
      clear EE hall
      generalize runB (s[k].toNat : Int) = rb at *
      cases hl : letterB (s[k].toNat : Int)
      · cases hd : digitB (s[k].toNat : Int)
        · have HB : Hid (runE (strI s) p = k) := EE'.out (by rw [ER.out, hl, hd]; rfl)
          rw [hl] at hL
          rw [hd] at hD
          clear hl hd ER EA EE' HE
          go_wp2_with (first | (go_at_call 85; refine (hL _).mono ?_; rintro e w' ⟨rfl, rfl⟩) | (go_at_call 88; refine (hD _).mono ?_; rintro e w' ⟨rfl, rfl⟩))
          go_ret
          exact ⟨by rw [HB.out]; rfl, rfl⟩
        · have HA : Hid (∀ j, p ≤ j → j < k + 1 → runB (nth (strI s) j) = true) := EA.out (by rw [ER.out, hl, hd]; rfl)
          rw [hl] at hL
          rw [hd] at hD
          clear hl hd ER EA EE' HE
          go_wp2_with (first | (go_at_call 85; refine (hL _).mono ?_; rintro e w' ⟨rfl, rfl⟩) | (go_at_call 88; refine (hD _).mono ?_; rintro e w' ⟨rfl, rfl⟩))
          go_round
          case rel => exact ⟨k + 1, by omega, by omega, by go_num, HA.out⟩
          case measure => simp [intOf]; omega
      · have HA : Hid (∀ j, p ≤ j → j < k + 1 → runB (nth (strI s) j) = true) := EA.out (by rw [ER.out, hl]; rfl)
        rw [hl] at hL
        clear hl ER EA EE' HE hD
        go_wp2_with (go_at_call 85; refine (hL _).mono ?_; rintro e w' ⟨rfl, rfl⟩)
        go_round
        case rel => exact ⟨k + 1, by omega, by omega, by go_num, HA.out⟩
        case measure => simp [intOf]; omega
    · obtain rfl : k = s.size := by omega
      have HB : Hid (runE (strI s) p = s.size) := HE.out s.size hpk hk hall (Or.inl rfl)
      clear hall HE
      go_wp2
      go_ret
      exact ⟨by rw [HB.out]; rfl, rfl⟩

end Go.Proofs.YtmobologlaeefaaGreat

/-
  Part of the document's answer. Nothing that was there turns.
-/
namespace Go.Proofs.YtmobologlaeefaaGreat
open Go.RowKit
set_option maxRecDepth 10000
set_option linter.unusedVariables false
set_option linter.unusedSimpArgs false

def part6V (l : List Int) (p : Nat) : Int × Nat := match partP l p with
  | some x => x
  | none => (0, 0)
theorem pv_low {l : List Int} {p : Nat} (h : nth l p < 32 ∨ 126 < nth l p) : part6V l p = (0, 0) := by
  have : partP l p = none := by
    unfold partP
    rw [if_neg (by omega), if_neg (by simp [printB]; omega)]
  unfold part6V; rw [this]
theorem pv_plain {l : List Int} {p : Nat} (h0 : 32 ≤ nth l p) (h1 : nth l p ≤ 126) (h2 : nth l p ≠ 92) : part6V l p = (nth l p, 1) := by
  have : partP l p = some (nth l p, 1) := by
    unfold partP
    rw [if_neg h2, if_pos (by simp [printB]; omega)]
  unfold part6V; rw [this]
theorem pv_two {l : List Int} {p : Nat} (h0 : nth l p = 92) (h1 : nth l (p + 1) = 34 ∨ nth l (p + 1) = 92) : part6V l p = (nth l (p + 1), 2) := by
  have : partP l p = some (nth l (p + 1), 2) := by
    unfold partP
    rw [if_pos h0, if_pos h1]
  unfold part6V; rw [this]
theorem pv_four {l : List Int} {p : Nat} (h0 : nth l p = 92) (h1 : ¬ (nth l (p + 1) = 34 ∨ nth l (p + 1) = 92)) (h2 : nth l (p + 1) = 120 ∧ hexB (nth l (p + 2)) = true ∧ hexB (nth l (p + 3)) = true) : part6V l p = (16 * dvI (nth l (p + 2)) + dvI (nth l (p + 3)), 4) := by
  have : partP l p = some (16 * dvI (nth l (p + 2)) + dvI (nth l (p + 3)), 4) := by
    unfold partP
    rw [if_pos h0, if_neg h1, if_pos h2]
  unfold part6V; rw [this]
theorem pv_bad {l : List Int} {p : Nat} (h0 : nth l p = 92) (h1 : ¬ (nth l (p + 1) = 34 ∨ nth l (p + 1) = 92)) (h2 : ¬ (nth l (p + 1) = 120 ∧ hexB (nth l (p + 2)) = true ∧ hexB (nth l (p + 3)) = true)) : part6V l p = (0, 0) := by
  have : partP l p = none := by
    unfold partP
    rw [if_pos h0, if_neg h1, if_neg h2]
  unfold part6V; rw [this]
theorem byte_lo (s : ByteArray) (k : Nat) (h : k < s.size) : (0 : Int) ≤ (s[k].toNat : Int) ∧ (s[k].toNat : Int) < 256 := ⟨by omega, by have := s[k].toNat_lt; omega⟩

set_option maxHeartbeats 2000000 in
theorem refPart_any (s : ByteArray) (p : Nat) (w : World) (hs : s.size ≤ 140737488351232) (hp : p < s.size) (hq : nth (strI s) p ≠ 34) :
    Calls Tryz.prog 116 #[.string s, .int .i64 p] w fun e w' => e = .returned (.tuple #[.int .u8 (part6V (strI s) p).1, .int .i64 (part6V (strI s) p).2]) ∧ ∃ q, w' = w.drewN q := by
  have hpi : (p : Int) < (s.size : Int) := by omega
  have n0 := nth_strI s p hp
  obtain ⟨c0, c1⟩ := byte_lo s p hp
  have HLEN := hid1 (strI_len s)
  by_cases a0 : (s[p].toNat : Int) < 32
  · have HO := hid1 (pv_low (l := strI s) (p := p) (by omega))
    clear n0 hq
    go_enter Tryz.func116, Tryz.ntmps116
    go_wp2_with (fail)
    go_ret2
    exact ⟨by rw [HO.out]; rfl, ⟨0, rfl⟩⟩
  by_cases a1 : 126 < (s[p].toNat : Int)
  · have HO := hid1 (pv_low (l := strI s) (p := p) (by omega))
    clear n0 hq
    go_enter Tryz.func116, Tryz.ntmps116
    go_wp2_with (fail)
    go_ret2
    exact ⟨by rw [HO.out]; rfl, ⟨0, rfl⟩⟩
  have a2 : ((s[p].toNat : Int) == 34) = false := by rw [← n0]; simpa using hq
  by_cases a3 : (s[p].toNat : Int) = 92
  · have N0 := hid1 (n0.trans a3)
    have a3' : ((s[p].toNat : Int) != 92) = false := by simpa using a3
    clear n0 hq a3
    by_cases p1 : p + 1 < s.size
    · have p1' : (p : Int) + 1 < (s.size : Int) := by omega
      have n1 := nth_strI s (p + 1) p1
      obtain ⟨d0, d1⟩ := byte_lo s (p + 1) p1
      by_cases b0 : (s[p + 1].toNat : Int) = 34
      · have HO := hid1 (pv_two N0.out (Or.inl (n1.trans b0)))
        rw [n1] at HO
        have b0' : ((s[p + 1].toNat : Int) == 34) = true := by simpa using b0
        clear n1 b0
        go_enter Tryz.func116, Tryz.ntmps116
        go_wp2_with (fail)
        go_ret2
        exact ⟨by rw [HO.out]; rfl, ⟨0, rfl⟩⟩
      by_cases b1 : (s[p + 1].toNat : Int) = 92
      · have HO := hid1 (pv_two N0.out (Or.inr (n1.trans b1)))
        rw [n1] at HO
        have b0' : ((s[p + 1].toNat : Int) == 34) = false := by simpa using b0
        have b1' : ((s[p + 1].toNat : Int) == 92) = true := by simpa using b1
        clear n1 b1 b0
        go_enter Tryz.func116, Tryz.ntmps116
        go_wp2_with (fail)
        go_ret2
        exact ⟨by rw [HO.out]; rfl, ⟨0, rfl⟩⟩
      have NB := hid1 (show ¬ (nth (strI s) (p + 1) = 34 ∨ nth (strI s) (p + 1) = 92) by rw [n1]; intro h; rcases h with h | h; exact b0 h; exact b1 h)
      have b0' : ((s[p + 1].toNat : Int) == 34) = false := by simpa using b0
      have b1' : ((s[p + 1].toNat : Int) == 92) = false := by simpa using b1
      clear b0 b1
      by_cases p3 : p + 3 < s.size
      · have p3' : (p : Int) + 3 < (s.size : Int) := by omega
        have p2' : (p : Int) + 2 < (s.size : Int) := by omega
        have n2 := nth_strI s (p + 2) (by omega)
        have n3 := nth_strI s (p + 3) p3
        by_cases b2 : (s[p + 1].toNat : Int) = 120
        · have N1 := hid1 (n1.trans b2)
          have b2' : ((s[p + 1].toNat : Int) == 120) = true := by simpa using b2
          obtain ⟨x0, x1⟩ := byte_lo s (p + 2) (by omega)
          obtain ⟨y0, y1⟩ := byte_lo s (p + 3) p3
          have hX := fun wx => refHex_any (s[p + 2].toNat : Int) wx x0 x1
          have hY := fun wx => refHex_any (s[p + 3].toNat : Int) wx y0 y1
          clear b2 n1 d0 d1
          cases e2 : hexB (s[p + 2].toNat : Int)
          · have HO := hid1 (pv_bad N0.out NB.out (fun h => by have := h.2.1; rw [n2, e2] at this; cases this))
            rw [e2] at hX
            clear e2 n2 n3 hY
            go_enter Tryz.func116, Tryz.ntmps116
            go_wp2_with (go_at_call 90; refine (hX _).mono ?_; rintro e w' ⟨rfl, rfl⟩)
            go_ret2
            exact ⟨by rw [HO.out]; rfl, ⟨0, rfl⟩⟩
          cases e3 : hexB (s[p + 3].toNat : Int)
          · have HO := hid1 (pv_bad N0.out NB.out (fun h => by have := h.2.2; rw [n3, e3] at this; cases this))
            rw [e2] at hX
            rw [e3] at hY
            clear e2 e3 n2 n3
            go_enter Tryz.func116, Tryz.ntmps116
            go_wp2_with fail
            refine (hX _).mono ?_
            rintro e w' ⟨rfl, rfl⟩
            go_wp2_with fail
            refine (hY _).mono ?_
            rintro e w' ⟨rfl, rfl⟩
            go_wp2_with fail
            go_ret2
            exact ⟨by rw [HO.out]; rfl, ⟨0, rfl⟩⟩
          · have HO := hid1 (pv_four N0.out NB.out ⟨N1.out, by rw [n2]; exact e2, by rw [n3]; exact e3⟩)
            rw [n2, n3] at HO
            have hX2 := fun wx => refWorth_any (s[p + 2].toNat : Int) wx x0 x1 e2
            have hY2 := fun wx => refWorth_any (s[p + 3].toNat : Int) wx y0 y1 e3
            have v0 := dv_lo (s[p + 2].toNat : Int)
            have v1 := (dv_hex (s[p + 2].toNat : Int)).2 e2
            have u0 := dv_lo (s[p + 3].toNat : Int)
            have u1 := (dv_hex (s[p + 3].toNat : Int)).2 e3
            rw [e2] at hX
            rw [e3] at hY
            clear n2 n3 hX2 hY2
            have wv : (16 * dvI (s[p + 2].toNat : Int) + dvI (s[p + 3].toNat : Int)) % 256 = 16 * dvI (s[p + 2].toNat : Int) + dvI (s[p + 3].toNat : Int) := by omega
            go_enter Tryz.func116, Tryz.ntmps116
            go_wp2_with fail
            refine (hX _).mono ?_
            rintro e w' ⟨rfl, rfl⟩
            go_wp2_with fail
            refine (hY _).mono ?_
            rintro e w' ⟨rfl, rfl⟩
            go_wp2_with fail
            go_quiet ((go_at_call 91; exact Calls.quiet_of_same ((refWorth_any _ _ (by omega) (by omega) (by assumption)).mono fun _ _ h => ⟨h.1, h.2.symm⟩)))
            go_wp2_with fail
            go_ret2
            exact ⟨by rw [HO.out]; first | rfl | (simp [wv]; done) | (simp; omega), ⟨_, rfl⟩⟩
        · have HO := hid1 (pv_bad N0.out NB.out (fun h => b2 (n1.symm.trans h.1)))
          have b2' : ((s[p + 1].toNat : Int) == 120) = false := by simpa using b2
          clear n1 n2 n3 b2
          go_enter Tryz.func116, Tryz.ntmps116
          go_wp2_with (fail)
          go_ret2
          exact ⟨by rw [HO.out]; rfl, ⟨0, rfl⟩⟩
      · have HO := hid1 (pv_bad N0.out NB.out (fun h => by
          have h3 := h.2.2
          rw [nth_over _ _ (by rw [HLEN.out]; omega)] at h3
          exact absurd h3 (by decide)))
        have p3' : ¬ ((p : Int) + 3 < (s.size : Int)) := by omega
        clear n1
        go_enter Tryz.func116, Tryz.ntmps116
        go_wp2_with (fail)
        go_ret2
        exact ⟨by rw [HO.out]; rfl, ⟨0, rfl⟩⟩
    · have z1 : nth (strI s) (p + 1) = 0 := nth_over _ _ (by rw [HLEN.out]; omega)
      have HO := hid1 (pv_bad N0.out (by rw [z1]; decide) (fun h => by rw [z1] at h; exact absurd h.1 (by decide)))
      have p1' : ¬ ((p : Int) + 1 < (s.size : Int)) := by omega
      have p3' : ¬ ((p : Int) + 3 < (s.size : Int)) := by omega
      clear z1
      go_enter Tryz.func116, Tryz.ntmps116
      go_wp2_with (fail)
      go_ret2
      exact ⟨by rw [HO.out]; rfl, ⟨0, rfl⟩⟩
  · have HO := hid1 (pv_plain (l := strI s) (p := p) (by omega) (by omega) (by omega))
    rw [n0] at HO
    have a3' : ((s[p].toNat : Int) != 92) = true := by simpa using a3
    clear n0 hq a3
    go_enter Tryz.func116, Tryz.ntmps116
    go_wp2_with (fail)
    go_ret2
    exact ⟨by rw [HO.out]; rfl, ⟨0, rfl⟩⟩

end Go.Proofs.YtmobologlaeefaaGreat

/-
  What digit and Quote of the document's answer for layer 6 return, for every text whose quoted form keeps to the memory's reach; nothing that was there turns.
-/
namespace Go.Proofs.YtmobologlaeefaaGreat
open Go.RowKit
set_option maxRecDepth 10000
set_option linter.unusedVariables false
set_option linter.unusedSimpArgs false

/-- A row of bytes of the call's own. -/
def RowB (B : Nat) (v : Value) (zs : List Int) (w : World) : Prop := w.ownsRow B 5 1 v zs.length (zs.map (Value.int .u8))
theorem rowB_push {B : Nat} {v : Value} {zs ys : List Int} {w : World} (h : w.ownsRow B 5 1 v (zs.length + ys.length) (zs.map (Value.int .u8) ++ ys.map (Value.int .u8))) : RowB B v (zs ++ ys) w := by
  unfold RowB; rw [List.length_append, List.map_append]; exact h
theorem one_cells {w : World} (ys : List Int) : ∀ j u, (ys.map (Value.int .u8))[j]? = some u → (w.alloc (.cells (ys.map (Value.int .u8)).toArray 5)).cell? ((⟨w.heap.size, 0, none⟩ : Addr).add j) = some u := by
  intro j u hj
  have := heap_alloc_new w (.cells (ys.map (Value.int .u8)).toArray 5)
  rw [Addr.add_lit, Nat.zero_add, Lib.cell_of_heap this]
  simpa using hj
theorem oneC_all (ys : List Int) : ∀ u ∈ ys.map (Value.int .u8), u.oneCell' = true := by
  intro u hu
  obtain ⟨z, _, rfl⟩ := List.mem_map.1 hu
  rfl

end Go.Proofs.YtmobologlaeefaaGreat
