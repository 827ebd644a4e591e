/-
  Texts laid together in one: CodeSameInst, CodeSame, MathE, DrawE, Law04One.
-/
import Derived.WalkSpells
import Derived.Deep.QuietTactic
import Derived.BigQuiet
import Derived.BigRegion
import Derived.Deep.RegionWith
import Derived.Deep.DrawnRows
import Derived.Test.YtpggcpnjcalfaabProg
import Derived.Test.YtpggcpnjcalfaabB02
import Derived.Test.YtpggcpnjcalfaabB04
import Derived.Test.YtpggcpnjcalfaabB18
import Derived.Test.YtpggcpnjcalfaabB17
import Derived.Test.YtpggcpnjcalfaabB10
import Derived.OrdersIn
import Derived.RangeFuncNested
import Derived.Test.YtpggcpnjcalfaabB13
import Derived.WalkKit
import Derived.OwnWalkIn
import Derived.TacticsInMore
/-
  sameInst of the package code tells whether two instructions are the same.
-/
namespace Go.Proofs.Ytpggcpnjcalfaab
open Go.RowKit

set_option maxRecDepth 10000 in
set_option maxHeartbeats 1000000 in
theorem sameInst_any (x y : InstT) (ax ay : Option Addr) (n m cx cy : Nat) (w : World) (hx : ArgsV w ax x.2.2.2) (hy : ArgsV w ay y.2.2.2) (hlx : x.2.2.2.length = n) (hly : y.2.2.2.length = m) (hn : n ≤ 140737488351232) (hm : m ≤ 140737488351232) :
    Calls Try.prog 36 #[instV x ax n cx, instV y ay m cy] w fun e w' => e = .returned (.bool (decide (x = y))) ∧ Below w.heap.size w w' := by
  obtain ⟨xo, xt, xr, xl⟩ := x
  obtain ⟨yo, yt, yr, yl⟩ := y
  simp only at *
  have hF := fun (x : InstT) a n c w => frontOf_any x a n c w
  unfold instV at hF ⊢
  by_cases H : xo = yo ∧ xt = yt ∧ xr = yr
  · obtain ⟨rfl, rfl, rfl⟩ := H
    have e1 : decide ((xo, xt, xr, xl) = (xo, xt, xr, yl)) = decide (xl = yl) := by simp
    rw [e1]
    go_enter Try.func36, Try.ntmps36
    go_wp2_with fail
    have hB := two_boxes w (.cells #[.int .u16 xo, .int .u32 xt, .int .u32 xr, .slice ax n cx] 43) (.cells #[.int .u16 xo, .int .u32 xt, .int .u32 xr, .slice ay m cy] 43)
    have hs : w.heap.size + 2 = ((w.alloc (.cells #[.int .u16 xo, .int .u32 xt, .int .u32 xr, .slice ax n cx] 43)).alloc (.cells #[.int .u16 xo, .int .u32 xt, .int .u32 xr, .slice ay m cy] 43)).heap.size := by simp
    have hA := block_two w #[.int .u16 xo, .int .u32 xt, .int .u32 xr, .slice ax n cx] #[.int .u16 xo, .int .u32 xt, .int .u32 xr, .slice ay m cy] 43 43
    generalize ((w.alloc (.cells #[.int .u16 xo, .int .u32 xt, .int .u32 xr, .slice ax n cx] 43)).alloc (.cells #[.int .u16 xo, .int .u32 xt, .int .u32 xr, .slice ay m cy] 43)) = W at *
    have hx1 := hx.below hB
    have hy1 := hy.below hB
    have a0 := fun s : InC (Below W.heap.size W) => s.cell (p := ⟨w.heap.size, 0, none⟩) (by show w.heap.size < _; omega) (hA.1 0)
    have a1 := fun s : InC (Below W.heap.size W) => s.cell (p := ⟨w.heap.size, 1, none⟩) (by show w.heap.size < _; omega) (hA.1 1)
    have a2 := fun s : InC (Below W.heap.size W) => s.cell (p := ⟨w.heap.size, 2, none⟩) (by show w.heap.size < _; omega) (hA.1 2)
    have a3 := fun s : InC (Below W.heap.size W) => s.cell (p := ⟨w.heap.size, 3, none⟩) (by show w.heap.size < _; omega) (hA.1 3)
    have b0 := fun s : InC (Below W.heap.size W) => s.cell (p := ⟨w.heap.size + 1, 0, none⟩) (by show w.heap.size + 1 < _; omega) (hA.2 0)
    have b1 := fun s : InC (Below W.heap.size W) => s.cell (p := ⟨w.heap.size + 1, 1, none⟩) (by show w.heap.size + 1 < _; omega) (hA.2 1)
    have b2 := fun s : InC (Below W.heap.size W) => s.cell (p := ⟨w.heap.size + 1, 2, none⟩) (by show w.heap.size + 1 < _; omega) (hA.2 2)
    have b3 := fun s : InC (Below W.heap.size W) => s.cell (p := ⟨w.heap.size + 1, 3, none⟩) (by show w.heap.size + 1 < _; omega) (hA.2 3)
    have hG := fun (o t r : Int) (a : Option Addr) (n c : Nat) (s : InC (Below W.heap.size W)) => Calls.inC s (hF (o, t, r, []) a n c s.w)
    simp only at hG
    have hE := fun s : InC (Below W.heap.size W) => Calls.inC_drew s (argsEqual_any xl yl ax ay n m cx cy s.w (hx1.below s.ok) (hy1.below s.ok) hlx hly hn hm)
    clear hF hA hx hy hx1 hy1
    refine wp_region_class (C := Below W.heap.size W) (by kernel_rfl) (by kernel_rfl) (below_drew W) ?_
    have hne : Nonempty (InC (Below W.heap.size W)) := ⟨⟨W, Below.refl _ _⟩⟩
    repeat (go_big_quiet_step ((first | (go_at_call 57; exact hG _ _ _ _ _ _ _) | (go_at_call 58; exact hE _))))
    refine wpQuiet_nil ?_
    rintro _ ⟨s, rfl⟩
    have hfin := hB.trans (s.ok.mono (by omega))
    clear hne hG hE a0 a1 a2 a3 b0 b1 b2 b3
    go_wp2
    go_ret
    exact ⟨rfl, hfin⟩
  · have e1 : decide ((xo, xt, xr, xl) = (yo, yt, yr, yl)) = false := by
      rw [decide_eq_false]
      intro h
      simp only [Prod.mk.injEq] at h
      exact H ⟨h.1, h.2.1, h.2.2.1⟩
    rw [e1]
    have H2 : (¬ xo = yo) ∨ (xo = yo ∧ ¬ xt = yt) ∨ (xo = yo ∧ xt = yt ∧ ¬ xr = yr) := by
      by_cases h1 : xo = yo
      · by_cases h2 : xt = yt
        · exact .inr (.inr ⟨h1, h2, fun h3 => H ⟨h1, h2, h3⟩⟩)
        · exact .inr (.inl ⟨h1, h2⟩)
      · exact .inl h1
    clear H e1
    rcases H2 with h1 | ⟨rfl, h1⟩ | ⟨rfl, rfl, h1⟩
    · go_enter Try.func36, Try.ntmps36
      go_wp2_with fail
      have hB := two_boxes w (.cells #[.int .u16 xo, .int .u32 xt, .int .u32 xr, .slice ax n cx] 43) (.cells #[.int .u16 yo, .int .u32 yt, .int .u32 yr, .slice ay m cy] 43)
      have hs : w.heap.size + 2 = ((w.alloc (.cells #[.int .u16 xo, .int .u32 xt, .int .u32 xr, .slice ax n cx] 43)).alloc (.cells #[.int .u16 yo, .int .u32 yt, .int .u32 yr, .slice ay m cy] 43)).heap.size := by simp
      have hA := block_two w #[.int .u16 xo, .int .u32 xt, .int .u32 xr, .slice ax n cx] #[.int .u16 yo, .int .u32 yt, .int .u32 yr, .slice ay m cy] 43 43
      generalize ((w.alloc (.cells #[.int .u16 xo, .int .u32 xt, .int .u32 xr, .slice ax n cx] 43)).alloc (.cells #[.int .u16 yo, .int .u32 yt, .int .u32 yr, .slice ay m cy] 43)) = W at *
      have hx1 := hx.below hB
      have hy1 := hy.below hB
      have a0 := fun s : InC (Below W.heap.size W) => s.cell (p := ⟨w.heap.size, 0, none⟩) (by show w.heap.size < _; omega) (hA.1 0)
      have a1 := fun s : InC (Below W.heap.size W) => s.cell (p := ⟨w.heap.size, 1, none⟩) (by show w.heap.size < _; omega) (hA.1 1)
      have a2 := fun s : InC (Below W.heap.size W) => s.cell (p := ⟨w.heap.size, 2, none⟩) (by show w.heap.size < _; omega) (hA.1 2)
      have a3 := fun s : InC (Below W.heap.size W) => s.cell (p := ⟨w.heap.size, 3, none⟩) (by show w.heap.size < _; omega) (hA.1 3)
      have b0 := fun s : InC (Below W.heap.size W) => s.cell (p := ⟨w.heap.size + 1, 0, none⟩) (by show w.heap.size + 1 < _; omega) (hA.2 0)
      have b1 := fun s : InC (Below W.heap.size W) => s.cell (p := ⟨w.heap.size + 1, 1, none⟩) (by show w.heap.size + 1 < _; omega) (hA.2 1)
      have b2 := fun s : InC (Below W.heap.size W) => s.cell (p := ⟨w.heap.size + 1, 2, none⟩) (by show w.heap.size + 1 < _; omega) (hA.2 2)
      have b3 := fun s : InC (Below W.heap.size W) => s.cell (p := ⟨w.heap.size + 1, 3, none⟩) (by show w.heap.size + 1 < _; omega) (hA.2 3)
      have hG := fun (o t r : Int) (a : Option Addr) (n c : Nat) (s : InC (Below W.heap.size W)) => Calls.inC s (hF (o, t, r, []) a n c s.w)
      simp only at hG
      have hE := fun s : InC (Below W.heap.size W) => Calls.inC_drew s (argsEqual_any xl yl ax ay n m cx cy s.w (hx1.below s.ok) (hy1.below s.ok) hlx hly hn hm)
      clear hF hA hx hy hx1 hy1
      refine wp_region_class (C := Below W.heap.size W) (by kernel_rfl) (by kernel_rfl) (below_drew W) ?_
      have hne : Nonempty (InC (Below W.heap.size W)) := ⟨⟨W, Below.refl _ _⟩⟩
      repeat (go_big_quiet_step ((first | (go_at_call 57; exact hG _ _ _ _ _ _ _) | (go_at_call 58; exact hE _))))
      refine wpQuiet_nil ?_
      rintro _ ⟨s, rfl⟩
      have hfin := hB.trans (s.ok.mono (by omega))
      clear hne hG hE a0 a1 a2 a3 b0 b1 b2 b3
      go_wp2
      go_ret
      exact ⟨rfl, hfin⟩
    · go_enter Try.func36, Try.ntmps36
      go_wp2_with fail
      have hB := two_boxes w (.cells #[.int .u16 xo, .int .u32 xt, .int .u32 xr, .slice ax n cx] 43) (.cells #[.int .u16 xo, .int .u32 yt, .int .u32 yr, .slice ay m cy] 43)
      have hs : w.heap.size + 2 = ((w.alloc (.cells #[.int .u16 xo, .int .u32 xt, .int .u32 xr, .slice ax n cx] 43)).alloc (.cells #[.int .u16 xo, .int .u32 yt, .int .u32 yr, .slice ay m cy] 43)).heap.size := by simp
      have hA := block_two w #[.int .u16 xo, .int .u32 xt, .int .u32 xr, .slice ax n cx] #[.int .u16 xo, .int .u32 yt, .int .u32 yr, .slice ay m cy] 43 43
      generalize ((w.alloc (.cells #[.int .u16 xo, .int .u32 xt, .int .u32 xr, .slice ax n cx] 43)).alloc (.cells #[.int .u16 xo, .int .u32 yt, .int .u32 yr, .slice ay m cy] 43)) = W at *
      have hx1 := hx.below hB
      have hy1 := hy.below hB
      have a0 := fun s : InC (Below W.heap.size W) => s.cell (p := ⟨w.heap.size, 0, none⟩) (by show w.heap.size < _; omega) (hA.1 0)
      have a1 := fun s : InC (Below W.heap.size W) => s.cell (p := ⟨w.heap.size, 1, none⟩) (by show w.heap.size < _; omega) (hA.1 1)
      have a2 := fun s : InC (Below W.heap.size W) => s.cell (p := ⟨w.heap.size, 2, none⟩) (by show w.heap.size < _; omega) (hA.1 2)
      have a3 := fun s : InC (Below W.heap.size W) => s.cell (p := ⟨w.heap.size, 3, none⟩) (by show w.heap.size < _; omega) (hA.1 3)
      have b0 := fun s : InC (Below W.heap.size W) => s.cell (p := ⟨w.heap.size + 1, 0, none⟩) (by show w.heap.size + 1 < _; omega) (hA.2 0)
      have b1 := fun s : InC (Below W.heap.size W) => s.cell (p := ⟨w.heap.size + 1, 1, none⟩) (by show w.heap.size + 1 < _; omega) (hA.2 1)
      have b2 := fun s : InC (Below W.heap.size W) => s.cell (p := ⟨w.heap.size + 1, 2, none⟩) (by show w.heap.size + 1 < _; omega) (hA.2 2)
      have b3 := fun s : InC (Below W.heap.size W) => s.cell (p := ⟨w.heap.size + 1, 3, none⟩) (by show w.heap.size + 1 < _; omega) (hA.2 3)
      have hG := fun (o t r : Int) (a : Option Addr) (n c : Nat) (s : InC (Below W.heap.size W)) => Calls.inC s (hF (o, t, r, []) a n c s.w)
      simp only at hG
      have hE := fun s : InC (Below W.heap.size W) => Calls.inC_drew s (argsEqual_any xl yl ax ay n m cx cy s.w (hx1.below s.ok) (hy1.below s.ok) hlx hly hn hm)
      clear hF hA hx hy hx1 hy1
      refine wp_region_class (C := Below W.heap.size W) (by kernel_rfl) (by kernel_rfl) (below_drew W) ?_
      have hne : Nonempty (InC (Below W.heap.size W)) := ⟨⟨W, Below.refl _ _⟩⟩
      repeat (go_big_quiet_step ((first | (go_at_call 57; exact hG _ _ _ _ _ _ _) | (go_at_call 58; exact hE _))))
      refine wpQuiet_nil ?_
      rintro _ ⟨s, rfl⟩
      have hfin := hB.trans (s.ok.mono (by omega))
      clear hne hG hE a0 a1 a2 a3 b0 b1 b2 b3
      go_wp2
      go_ret
      exact ⟨rfl, hfin⟩
    · go_enter Try.func36, Try.ntmps36
      go_wp2_with fail
      have hB := two_boxes w (.cells #[.int .u16 xo, .int .u32 xt, .int .u32 xr, .slice ax n cx] 43) (.cells #[.int .u16 xo, .int .u32 xt, .int .u32 yr, .slice ay m cy] 43)
      have hs : w.heap.size + 2 = ((w.alloc (.cells #[.int .u16 xo, .int .u32 xt, .int .u32 xr, .slice ax n cx] 43)).alloc (.cells #[.int .u16 xo, .int .u32 xt, .int .u32 yr, .slice ay m cy] 43)).heap.size := by simp
      have hA := block_two w #[.int .u16 xo, .int .u32 xt, .int .u32 xr, .slice ax n cx] #[.int .u16 xo, .int .u32 xt, .int .u32 yr, .slice ay m cy] 43 43
      generalize ((w.alloc (.cells #[.int .u16 xo, .int .u32 xt, .int .u32 xr, .slice ax n cx] 43)).alloc (.cells #[.int .u16 xo, .int .u32 xt, .int .u32 yr, .slice ay m cy] 43)) = W at *
      have hx1 := hx.below hB
      have hy1 := hy.below hB
      have a0 := fun s : InC (Below W.heap.size W) => s.cell (p := ⟨w.heap.size, 0, none⟩) (by show w.heap.size < _; omega) (hA.1 0)
      have a1 := fun s : InC (Below W.heap.size W) => s.cell (p := ⟨w.heap.size, 1, none⟩) (by show w.heap.size < _; omega) (hA.1 1)
      have a2 := fun s : InC (Below W.heap.size W) => s.cell (p := ⟨w.heap.size, 2, none⟩) (by show w.heap.size < _; omega) (hA.1 2)
      have a3 := fun s : InC (Below W.heap.size W) => s.cell (p := ⟨w.heap.size, 3, none⟩) (by show w.heap.size < _; omega) (hA.1 3)
      have b0 := fun s : InC (Below W.heap.size W) => s.cell (p := ⟨w.heap.size + 1, 0, none⟩) (by show w.heap.size + 1 < _; omega) (hA.2 0)
      have b1 := fun s : InC (Below W.heap.size W) => s.cell (p := ⟨w.heap.size + 1, 1, none⟩) (by show w.heap.size + 1 < _; omega) (hA.2 1)
      have b2 := fun s : InC (Below W.heap.size W) => s.cell (p := ⟨w.heap.size + 1, 2, none⟩) (by show w.heap.size + 1 < _; omega) (hA.2 2)
      have b3 := fun s : InC (Below W.heap.size W) => s.cell (p := ⟨w.heap.size + 1, 3, none⟩) (by show w.heap.size + 1 < _; omega) (hA.2 3)
      have hG := fun (o t r : Int) (a : Option Addr) (n c : Nat) (s : InC (Below W.heap.size W)) => Calls.inC s (hF (o, t, r, []) a n c s.w)
      simp only at hG
      have hE := fun s : InC (Below W.heap.size W) => Calls.inC_drew s (argsEqual_any xl yl ax ay n m cx cy s.w (hx1.below s.ok) (hy1.below s.ok) hlx hly hn hm)
      clear hF hA hx hy hx1 hy1
      refine wp_region_class (C := Below W.heap.size W) (by kernel_rfl) (by kernel_rfl) (below_drew W) ?_
      have hne : Nonempty (InC (Below W.heap.size W)) := ⟨⟨W, Below.refl _ _⟩⟩
      repeat (go_big_quiet_step ((first | (go_at_call 57; exact hG _ _ _ _ _ _ _) | (go_at_call 58; exact hE _))))
      refine wpQuiet_nil ?_
      rintro _ ⟨s, rfl⟩
      have hfin := hB.trans (s.ok.mono (by omega))
      clear hne hG hE a0 a1 a2 a3 b0 b1 b2 b3
      go_wp2
      go_ret
      exact ⟨rfl, hfin⟩

end Go.Proofs.Ytpggcpnjcalfaab

/-
  Same of the package code tells whether two modules are the same.
-/
namespace Go.Proofs.Ytpggcpnjcalfaab
open Go.RowKit

set_option maxRecDepth 10000 in
set_option maxHeartbeats 1000000 in
theorem instsEqual_any (l m : List InstT) (ax ay : Option Addr) (nx ny cx cy : Nat) (w : World) (hx : InstsV w ax l) (hy : InstsV w ay m) (hlx : l.length = nx) (hly : m.length = ny) (hokx : InstsOk l) (hoky : InstsOk m) (hnx : nx ≤ 140737488351232) (hny : ny ≤ 140737488351232) (r : Bool) (hr : r = true ↔ l = m) :
    Calls Try.prog 35 #[.slice ax nx cx, .slice ay ny cy, .func (.func 36) #[] #[]] w fun e w' => e = .returned (.bool r) ∧ Below w.heap.size w w' := by
  have HR : Hid (r = true ↔ l = m) := hr
  have HLX : Hid (l.length = nx) := hlx
  have HLY : Hid (m.length = ny) := hly
  clear hlx hly hr
  by_cases H : nx = ny
  · subst H
    go_enter Try.func35, Try.ntmps35
    go_wp2
    go_loopw [17] (fun i wr => ∃ k : Nat, k ≤ nx ∧ i = .int .i64 k ∧ Below w.heap.size w wr ∧ ∀ j, j < k → nthI l j = nthI m j) (fun i _ => nx - (intOf i).toNat)
    case atStart => exact ⟨0, Nat.zero_le _, rfl, Below.refl _ _, fun j hj => by omega⟩
    case round =>
      obtain ⟨k, hk, rfl, hbr, hall⟩ := hrel
      have HALL : Hid (∀ j, j < k → nthI l j = nthI m j) := hall
      clear hall
      have hs2 := hbr.size
      by_cases hlt : k < nx
      · obtain ⟨b1, o1, p1, k1, n1, rfl, l1, c1, c2, c3, c4, c5, c6, _⟩ := hx k (by rw [HLX.out]; exact hlt)
        obtain ⟨b2, o2, p2, k2, n2, rfl, l2, d1, d2, d3, d4, d5, d6, _⟩ := hy k (by rw [HLY.out]; exact hlt)
        have hk0 : (0 : Int) ≤ (k : Int) := by omega
        have hki : (k : Int) < (nx : Int) := by omega
        have s1 := (hokx k (by rw [HLX.out]; exact hlt)).2.2.2.2.2.2.2
        have s2 := (hoky k (by rw [HLY.out]; exact hlt)).2.2.2.2.2.2.2
        rw [c5] at s1
        rw [d5] at s2
        have hC := fun wx (hb : Below w.heap.size w wx) => sameInst_any (nthI l k) (nthI m k) p1 p2 n1 n2 k1 k2 wx (c6.below hb) (d6.below hb) c5 d5 (by omega) (by omega)
        unfold instV at hC
        replace c1 := (hbr.cell (p := ⟨b1, o1 + k * 4, none⟩) l1).trans c1
        replace c2 := (hbr.cell (p := ⟨b1, o1 + k * 4 + 1, none⟩) l1).trans c2
        replace c3 := (hbr.cell (p := ⟨b1, o1 + k * 4 + 2, none⟩) l1).trans c3
        replace c4 := (hbr.cell (p := ⟨b1, o1 + k * 4 + 3, none⟩) l1).trans c4
        replace d1 := (hbr.cell (p := ⟨b2, o2 + k * 4, none⟩) l2).trans d1
        replace d2 := (hbr.cell (p := ⟨b2, o2 + k * 4 + 1, none⟩) l2).trans d2
        replace d3 := (hbr.cell (p := ⟨b2, o2 + k * 4 + 2, none⟩) l2).trans d3
        replace d4 := (hbr.cell (p := ⟨b2, o2 + k * 4 + 3, none⟩) l2).trans d4
        have l1' : b1 < wr.heap.size := by omega
        have l2' : b2 < wr.heap.size := by omega
        clear hx hy c5 c6 d5 d6 s1 s2
        by_cases he : nthI l k = nthI m k
        · have HE : Hid (nthI l k = nthI m k) := he
          rw [decide_eq_true he] at hC
          clear he
          go_wp2_with fail
          have hb2 := fun o p => hbr.trans ((two_boxes wr o p).mono hs2)
          refine (hC _ (hb2 _ _)).mono ?_
          rintro e w' ⟨rfl, hb'⟩
          have hbC := (hb2 _ _).trans (hb'.mono (by simp; omega))
          clear hb' hb2 hC
          go_wp2
          go_roundw
          case rel => exact ⟨k + 1, by omega, by go_num, hbC, fun j hj => by
            by_cases hjk : j < k
            · exact HALL.out j hjk
            · obtain rfl : j = k := by omega
              exact HE.out⟩
          case measure => simp [intOf]; omega
        · have HE : Hid (r = false) := by
            show r = false
            rw [← Bool.not_eq_true]
            intro hr
            exact he (by rw [HR.out.1 hr])
          rw [decide_eq_false he] at hC
          clear he
          go_wp2_with fail
          have hb2 := fun o p => hbr.trans ((two_boxes wr o p).mono hs2)
          refine (hC _ (hb2 _ _)).mono ?_
          rintro e w' ⟨rfl, hb'⟩
          have hbC := (hb2 _ _).trans (hb'.mono (by simp; omega))
          clear hb' hb2 hC
          go_wp2
          go_ret
          exact ⟨by rw [HE.out]; rfl, hbC⟩
      · go_wp2
        go_ret
        refine ⟨?_, hbr⟩
        obtain rfl : k = nx := by omega
        show Ending.returned (.bool true) = _
        rw [HR.out.2 ((instsEq_iff _ _).2 ⟨by rw [HLX.out, HLY.out], fun j hj => HALL.out j (by rw [← HLX.out]; exact hj)⟩)]
  · have e1 : r = false := by
      rw [← Bool.not_eq_true]
      intro hr
      have := HR.out.1 hr
      subst this
      exact H (HLX.out.symm.trans HLY.out)
    subst e1
    have H2 : ¬ (nx : Int) = (ny : Int) := by omega
    go_enter Try.func35, Try.ntmps35
    go_wp2
    go_ret
    exact ⟨rfl, Below.refl _ _⟩

set_option maxRecDepth 10000 in
set_option maxHeartbeats 1000000 in
theorem same_any (g1 b1 g2 b2 : Int) (l m : List InstT) (ax ay : Option Addr) (nx ny cx cy : Nat) (w : World) (hx : InstsV w ax l) (hy : InstsV w ay m) (hlx : l.length = nx) (hly : m.length = ny) (hokx : InstsOk l) (hoky : InstsOk m) (hnx : nx ≤ 140737488351232) (hny : ny ≤ 140737488351232) (r : Bool) (hr : r = true ↔ (g1 = g2 ∧ b1 = b2 ∧ l = m)) :
    Calls Try.prog 15 #[modV g1 b1 ax nx cx, modV g2 b2 ay ny cy] w fun e w' => e = .returned (.bool r) ∧ Below w.heap.size w w' := by
  have hF := fun g b a n c w => headOf_any g b a n c w
  unfold modV at hF ⊢
  by_cases H : g1 = g2 ∧ b1 = b2
  · obtain ⟨rfl, rfl⟩ := H
    have hr' : r = true ↔ l = m := by simpa using hr
    go_enter Try.func15, Try.ntmps15
    go_wp2_with fail
    have hB := two_boxes w (.cells #[.int .u32 g1, .int .u32 b1, .slice ax nx cx] 25) (.cells #[.int .u32 g1, .int .u32 b1, .slice ay ny cy] 25)
    have hs : w.heap.size + 2 = ((w.alloc (.cells #[.int .u32 g1, .int .u32 b1, .slice ax nx cx] 25)).alloc (.cells #[.int .u32 g1, .int .u32 b1, .slice ay ny cy] 25)).heap.size := by simp
    have hA := block_two w #[.int .u32 g1, .int .u32 b1, .slice ax nx cx] #[.int .u32 g1, .int .u32 b1, .slice ay ny cy] 25 25
    generalize ((w.alloc (.cells #[.int .u32 g1, .int .u32 b1, .slice ax nx cx] 25)).alloc (.cells #[.int .u32 g1, .int .u32 b1, .slice ay ny cy] 25)) = W at *
    have hx1 := hx.below hB
    have hy1 := hy.below hB
    have a0 := fun s : InC (Below W.heap.size W) => s.cell (p := ⟨w.heap.size, 0, none⟩) (by show w.heap.size < _; omega) (hA.1 0)
    have a1 := fun s : InC (Below W.heap.size W) => s.cell (p := ⟨w.heap.size, 1, none⟩) (by show w.heap.size < _; omega) (hA.1 1)
    have a2 := fun s : InC (Below W.heap.size W) => s.cell (p := ⟨w.heap.size, 2, none⟩) (by show w.heap.size < _; omega) (hA.1 2)
    have e0 := fun s : InC (Below W.heap.size W) => s.cell (p := ⟨w.heap.size + 1, 0, none⟩) (by show w.heap.size + 1 < _; omega) (hA.2 0)
    have e1 := fun s : InC (Below W.heap.size W) => s.cell (p := ⟨w.heap.size + 1, 1, none⟩) (by show w.heap.size + 1 < _; omega) (hA.2 1)
    have e2 := fun s : InC (Below W.heap.size W) => s.cell (p := ⟨w.heap.size + 1, 2, none⟩) (by show w.heap.size + 1 < _; omega) (hA.2 2)
    have hG := fun (g b : Int) (a : Option Addr) (n c : Nat) (s : InC (Below W.heap.size W)) => Calls.inC s (hF g b a n c s.w)
    have hE := fun s : InC (Below W.heap.size W) => Calls.inC s (instsEqual_any l m ax ay nx ny cx cy s.w (hx1.below s.ok) (hy1.below s.ok) hlx hly hokx hoky hnx hny r hr')
    clear hF hA hx hy hx1 hy1
    refine wp_region_class (C := Below W.heap.size W) (by kernel_rfl) (by kernel_rfl) (below_drew W) ?_
    have hne : Nonempty (InC (Below W.heap.size W)) := ⟨⟨W, Below.refl _ _⟩⟩
    repeat (go_big_quiet_step ((first | (go_at_call 29; exact hG _ _ _ _ _ _) | (go_at_call 35; exact hE _))))
    refine wpQuiet_nil ?_
    rintro _ ⟨s, rfl⟩
    have hfin := hB.trans (s.ok.mono (by omega))
    clear hne hG hE a0 a1 a2 e0 e1 e2
    go_wp2
    go_ret
    exact ⟨rfl, hfin⟩
  · have e1 : r = false := by
      rw [← Bool.not_eq_true]
      intro h
      obtain ⟨h1, h2, _⟩ := hr.1 h
      exact H ⟨h1, h2⟩
    subst e1
    have H2 : (¬ g1 = g2) ∨ (g1 = g2 ∧ ¬ b1 = b2) := by
      by_cases h1 : g1 = g2
      · exact .inr ⟨h1, fun h2 => H ⟨h1, h2⟩⟩
      · exact .inl h1
    clear H hr
    rcases H2 with h1 | ⟨rfl, h1⟩
    · go_enter Try.func15, Try.ntmps15
      go_wp2_with fail
      have hB := two_boxes w (.cells #[.int .u32 g1, .int .u32 b1, .slice ax nx cx] 25) (.cells #[.int .u32 g2, .int .u32 b2, .slice ay ny cy] 25)
      have hs : w.heap.size + 2 = ((w.alloc (.cells #[.int .u32 g1, .int .u32 b1, .slice ax nx cx] 25)).alloc (.cells #[.int .u32 g2, .int .u32 b2, .slice ay ny cy] 25)).heap.size := by simp
      have hA := block_two w #[.int .u32 g1, .int .u32 b1, .slice ax nx cx] #[.int .u32 g2, .int .u32 b2, .slice ay ny cy] 25 25
      generalize ((w.alloc (.cells #[.int .u32 g1, .int .u32 b1, .slice ax nx cx] 25)).alloc (.cells #[.int .u32 g2, .int .u32 b2, .slice ay ny cy] 25)) = W at *
      have hx1 := hx.below hB
      have hy1 := hy.below hB
      have a0 := fun s : InC (Below W.heap.size W) => s.cell (p := ⟨w.heap.size, 0, none⟩) (by show w.heap.size < _; omega) (hA.1 0)
      have a1 := fun s : InC (Below W.heap.size W) => s.cell (p := ⟨w.heap.size, 1, none⟩) (by show w.heap.size < _; omega) (hA.1 1)
      have a2 := fun s : InC (Below W.heap.size W) => s.cell (p := ⟨w.heap.size, 2, none⟩) (by show w.heap.size < _; omega) (hA.1 2)
      have e0 := fun s : InC (Below W.heap.size W) => s.cell (p := ⟨w.heap.size + 1, 0, none⟩) (by show w.heap.size + 1 < _; omega) (hA.2 0)
      have e1 := fun s : InC (Below W.heap.size W) => s.cell (p := ⟨w.heap.size + 1, 1, none⟩) (by show w.heap.size + 1 < _; omega) (hA.2 1)
      have e2 := fun s : InC (Below W.heap.size W) => s.cell (p := ⟨w.heap.size + 1, 2, none⟩) (by show w.heap.size + 1 < _; omega) (hA.2 2)
      have hG := fun (g b : Int) (a : Option Addr) (n c : Nat) (s : InC (Below W.heap.size W)) => Calls.inC s (hF g b a n c s.w)
      clear hF hA hx hy hx1 hy1
      refine wp_region_class (C := Below W.heap.size W) (by kernel_rfl) (by kernel_rfl) (below_drew W) ?_
      have hne : Nonempty (InC (Below W.heap.size W)) := ⟨⟨W, Below.refl _ _⟩⟩
      repeat (go_big_quiet_step ((first | (go_at_call 29; exact hG _ _ _ _ _ _))))
      refine wpQuiet_nil ?_
      rintro _ ⟨s, rfl⟩
      have hfin := hB.trans (s.ok.mono (by omega))
      clear hne hG a0 a1 a2 e0 e1 e2
      go_wp2
      go_ret
      exact ⟨rfl, hfin⟩
    · go_enter Try.func15, Try.ntmps15
      go_wp2_with fail
      have hB := two_boxes w (.cells #[.int .u32 g1, .int .u32 b1, .slice ax nx cx] 25) (.cells #[.int .u32 g1, .int .u32 b2, .slice ay ny cy] 25)
      have hs : w.heap.size + 2 = ((w.alloc (.cells #[.int .u32 g1, .int .u32 b1, .slice ax nx cx] 25)).alloc (.cells #[.int .u32 g1, .int .u32 b2, .slice ay ny cy] 25)).heap.size := by simp
      have hA := block_two w #[.int .u32 g1, .int .u32 b1, .slice ax nx cx] #[.int .u32 g1, .int .u32 b2, .slice ay ny cy] 25 25
      generalize ((w.alloc (.cells #[.int .u32 g1, .int .u32 b1, .slice ax nx cx] 25)).alloc (.cells #[.int .u32 g1, .int .u32 b2, .slice ay ny cy] 25)) = W at *
      have hx1 := hx.below hB
      have hy1 := hy.below hB
      have a0 := fun s : InC (Below W.heap.size W) => s.cell (p := ⟨w.heap.size, 0, none⟩) (by show w.heap.size < _; omega) (hA.1 0)
      have a1 := fun s : InC (Below W.heap.size W) => s.cell (p := ⟨w.heap.size, 1, none⟩) (by show w.heap.size < _; omega) (hA.1 1)
      have a2 := fun s : InC (Below W.heap.size W) => s.cell (p := ⟨w.heap.size, 2, none⟩) (by show w.heap.size < _; omega) (hA.1 2)
      have e0 := fun s : InC (Below W.heap.size W) => s.cell (p := ⟨w.heap.size + 1, 0, none⟩) (by show w.heap.size + 1 < _; omega) (hA.2 0)
      have e1 := fun s : InC (Below W.heap.size W) => s.cell (p := ⟨w.heap.size + 1, 1, none⟩) (by show w.heap.size + 1 < _; omega) (hA.2 1)
      have e2 := fun s : InC (Below W.heap.size W) => s.cell (p := ⟨w.heap.size + 1, 2, none⟩) (by show w.heap.size + 1 < _; omega) (hA.2 2)
      have hG := fun (g b : Int) (a : Option Addr) (n c : Nat) (s : InC (Below W.heap.size W)) => Calls.inC s (hF g b a n c s.w)
      clear hF hA hx hy hx1 hy1
      refine wp_region_class (C := Below W.heap.size W) (by kernel_rfl) (by kernel_rfl) (below_drew W) ?_
      have hne : Nonempty (InC (Below W.heap.size W)) := ⟨⟨W, Below.refl _ _⟩⟩
      repeat (go_big_quiet_step ((first | (go_at_call 29; exact hG _ _ _ _ _ _))))
      refine wpQuiet_nil ?_
      rintro _ ⟨s, rfl⟩
      have hfin := hB.trans (s.ok.mono (by omega))
      clear hne hG a0 a1 a2 e0 e1 e2
      go_wp2
      go_ret
      exact ⟨rfl, hfin⟩

end Go.Proofs.Ytpggcpnjcalfaab

/-
  Plain facts: bytes to module and back are the bytes; modules to bytes and back are the modules.
-/
namespace Go.Proofs.Ytpggcpnjcalfaab
open Go.RowKit
set_option linter.unusedVariables false

theorem shape_faultF (b : Int) (l : List InstT) (hE : ∀ k, k < l.length → rawE (nthI l k) b = 0) : ∀ d k, l.length - k = d → fault (rawsL b l) k = (0, 0) → shapeF b k (sizeTo (rawsL b l) k) (l.drop k) = (0, 0)
  | 0, k, hd, _ => shape_end b l k _ (by omega)
  | d + 1, k, hd, h => by
    have hk : k < l.length := by omega
    rw [shape_step b l k hk, if_neg (by simp [hE k hk])]
    rw [fault_step _ _ (by rw [rawsL_len]; exact hk), nthR_raws b l k hk] at h
    have hs := rawWs_len (nthI l k) b
    rw [if_neg (by simp only; omega)] at h
    by_cases h2 : 1048576 < sizeTo (rawsL b l) (k + 1)
    · rw [if_pos h2] at h; cases h
    · rw [if_neg h2] at h ⊢
      exact shape_faultF b l hE d (k + 1) (by omega) h
theorem shape_of_fault {b : Int} {l : List InstT} (h0 : ¬ b = 0) (h1 : ¬ 65536 < b) (hE : ∀ k, k < l.length → rawE (nthI l k) b = 0) (h : fault (rawsL b l) 0 = (0, 0)) : shapeE b l = (0, 0) := by
  unfold shapeE
  rw [if_neg (by rintro (h | h)
                 · exact h0 h
                 · exact h1 h)]
  exact shape_faultF b l hE _ 0 rfl h

theorem split_len {bs : List Int} (h : splitErr bs = 0) : bs.length ≤ 4194304 ∧ bs.length % 4 = 0 := by
  unfold splitErr at h
  by_cases h1 : 4194304 < bs.length
  · rw [if_pos h1] at h; cases h
  · rw [if_neg h1] at h
    by_cases h2 : bs.length % 4 = 0
    · exact ⟨by omega, h2⟩
    · rw [if_neg h2] at h; cases h

/-- THE BYTES. -/
theorem enc_dec {bs : List Int} (hw : Within 256 bs) (h : (decE bs).1 = 0) : decH bs 3 ≠ 0 ∧ ¬ 65536 < decH bs 3 ∧ shapeE (decH bs 3) (decL bs) = (0, 0) ∧ encL (decH bs 2) (decH bs 3) (decL bs) = bs := by
  obtain ⟨h1, h2, h3, h4, h5, h6⟩ := decE_ok h
  have hww := splitL_within bs hw
  obtain ⟨w1, w2, w3, w4, w5, w6⟩ := write_read (splitL bs) hww h2
  obtain ⟨s1, s2⟩ := split_len h1
  have hj := join_split bs s2 hw
  rw [h4, h5, h6]
  generalize splitL bs = zs at *
  generalize hb : nth zs 3 = b at *
  have hre : ∀ p ∈ rest zs 5, (instAt zs b p).1.1 = (rawAt zs p).1 ∧ rawE (instAt zs b p).1 b = 0 ∧ rawWs (instAt zs b p).1 b = (rawAt zs p).2 := fun p hp => rawE_instI (rawAt_within hww p) (h3 p hp)
  have hR : rawsL b (instsAt zs b (rest zs 5)) = readR zs := by
    unfold rawsL instsAt readR
    rw [List.map_map]
    refine List.map_congr_left fun p hp => ?_
    obtain ⟨e1, _, e3⟩ := hre p hp
    simp only [Function.comp]
    rw [e1, e3]
  have hE : ∀ k, k < (instsAt zs b (rest zs 5)).length → rawE (nthI (instsAt zs b (rest zs 5)) k) b = 0 := fun k hk => by
    rw [nthI_lt _ _ hk]
    simp only [instsAt, List.getElem_map]
    exact (hre _ (List.getElem_mem _)).2.1
  have hS : shapeE b (instsAt zs b (rest zs 5)) = (0, 0) := shape_of_fault w2 w3 hE (by rw [hR]; exact w4)
  refine ⟨w2, w3, hS, ?_⟩
  unfold encL encW
  rw [hS, if_pos rfl, hR, show (instsAt zs b (rest zs 5)).length = (readR zs).length by simp [instsAt, readR], w6, hj]

/-- THE MODULES. -/
theorem dec_enc {gen b : Int} {l : List InstT} (hg0 : 0 ≤ gen) (hg1 : gen < 4294967296) (hb0 : 0 ≤ b) (hb1 : b < 4294967296) (hok : InstsOk l) (h : (shapeE b l).1 = 0) : decE (encL gen b l) = (0, 0) ∧ decL (encL gen b l) = l ∧ decH (encL gen b l) 2 = gen ∧ decH (encL gen b l) 3 = b ∧ 20 ≤ (encL gen b l).length ∧ Within 256 (encL gen b l) := by
  obtain ⟨n0, n1⟩ := shape_bound h
  have hW := encW_within (gen := gen) (b := b) hg0 hg1 hb0 hb1 hok
  obtain ⟨l1, l2⟩ := encW_len (gen := gen) h
  have hL : encL gen b l = joinL (encW gen b l) := by unfold encL; rw [if_pos h]
  have hjl := joinL_len (encW gen b l)
  have hsp := split_join (encW gen b l) hW
  have hse : splitErr (joinL (encW gen b l)) = 0 := splitErr_ok _ (by omega) (by omega)
  obtain ⟨r1, r2, r3, r4⟩ := read_write gen b (rawsL b l) (rawsL_ok b hok) (fault_shape h) n0 n1
  rw [rawsL_len] at r1 r2 r3 r4
  have hwi := joinL_within (encW gen b l)
  rw [hL]
  have eW : writeTo gen b (rawsL b l) l.length = encW gen b l := rfl
  rw [eW] at r1 r2 r3 r4
  have r2' : readR (encW gen b l) = rawsL b l := by unfold readL at r2; rw [r1, if_pos rfl] at r2; exact r2
  have r3' : nth (encW gen b l) 2 = gen := by unfold readAt at r3; rw [r1, if_pos rfl] at r3; exact r3
  have r4' : nth (encW gen b l) 3 = b := by unfold readAt at r4; rw [r1, if_pos rfl] at r4; exact r4
  generalize encW gen b l = zs at *
  have hI : ∀ p ∈ rest zs 5, ∃ x ∈ l, rawAt zs p = (x.1, rawWs x b) ∧ instAt zs b p = (x, 0) := fun p hp => by
    have : rawAt zs p ∈ readR zs := List.mem_map.2 ⟨p, hp, rfl⟩
    rw [r2'] at this
    obtain ⟨x, hx, e⟩ := List.mem_map.1 this
    obtain ⟨k, hk, rfl⟩ := List.mem_iff_getElem.1 hx
    have he := shape_each h k hk
    rw [nthI_lt _ _ hk] at he
    refine ⟨l[k], hx, e.symm, ?_⟩
    unfold instAt
    rw [← e]
    exact instI_words he (Int.le_refl _)
  have hall : ∀ p ∈ rest zs 5, (instAt zs b p).2 = 0 := fun p hp => by
    obtain ⟨x, _, _, e⟩ := hI p hp
    rw [e]
  have hD : decE (joinL zs) = (0, 0) := by
    unfold decE
    rw [if_neg (by simp [hse]), hsp, if_neg (by simp [r1]), r4']
    exact decF_all _ _ _ hall
  have hD2 : decL (joinL zs) = l := by
    unfold decL
    rw [hD, if_pos rfl, hsp, r4']
    have e1 : instsAt zs b (rest zs 5) = (readR zs).map fun r => (instI r.1 r.2 b).1 := by
      unfold instsAt readR
      rw [List.map_map]
      rfl
    rw [e1, r2']
    unfold rawsL
    rw [List.map_map]
    refine List.ext_getElem (by simp) fun k h1 h2 => ?_
    rw [List.getElem_map]
    have he := shape_each h k h2
    rw [nthI_lt _ _ h2] at he
    simp only [Function.comp]
    rw [instI_words he (Int.le_refl _)]
  refine ⟨hD, hD2, ?_, ?_, by omega, hwi⟩
  · unfold decH; rw [hD, if_pos rfl, hsp, r3']
  · unfold decH; rw [hD, if_pos rfl, hsp, r4']

end Go.Proofs.Ytpggcpnjcalfaab

/-
  As Draw, where some operations of the region (those of E) may leave the class: each of them waits for every operation that is taken first.
-/
namespace Go.Proofs.Ytpggcpnjcalfaab
open Go.RowKit
set_option linter.unusedVariables false

section
variable {F : Fence} {n : Nat} {P : Program} {md : Region.Mode} {ops : Array Oper} {C : World → Prop} {E : Nat → Bool} {Q : Exit → Act → World → Prop}

/-- As wpAnyIn, and each operation leaves a world of the class. -/
def wpAnyE (F : Fence) (n : Nat) (P : Program) (md : Region.Mode) (ops : Array Oper) (C : World → Prop) (E : Nat → Bool) (Q : Exit → Act → World → Prop) : Nat → Array Bool → Act → World → Prop
  | 0, listed, a, w => Region.ready md ops listed = [] ∧ Q .normal a w
  | fuel + 1, listed, a, w => (Region.ready md ops listed = [] → Q .normal a w) ∧ ∀ i ∈ Region.ready md ops listed, wpOpIn F n P ops Q i (fun a' w' => (E i = true ∨ C w') ∧ wpAnyE F n P md ops C E Q fuel (listed.setIfInBounds i true) a' w') a w

theorem wpAnyE_sound : ∀ (fuel : Nat) (listed : Array Bool) (a : Act) (w : World), wpAnyE F n P md ops C E Q fuel listed a w → wpAnyIn F n P md ops Q fuel listed a w
  | 0, _, _, _, h => h
  | fuel + 1, listed, a, w, h => ⟨h.1, fun i hi => wpOpIn_mono (fun a' w' h' => wpAnyE_sound fuel _ a' w' h'.2) (h.2 i hi)⟩

theorem wpAnyE_done {listed : Array Bool} {a : Act} {w : World} (hr : Region.ready md ops listed = []) (h : Q .normal a w) : ∀ fuel, wpAnyE F n P md ops C E Q fuel listed a w
  | 0 => ⟨hr, h⟩
  | _ + 1 => ⟨fun _ => h, by rw [hr]; simp⟩

/-- An operation that may leave the class waits for i. -/
def waits (md : Region.Mode) (ops : Array Oper) (E : Nat → Bool) (i : Nat) : Bool := (List.range ops.size).all fun j => !E j || j == i || (match ops[j]? with | some o => o.after.any fun e => Region.binds md e && e.on == i | none => true)
theorem waits_spec {i : Nat} (h : waits md ops E i = true) {j : Nat} {oj : Oper} (hj : ops[j]? = some oj) (hE : E j = true) (hji : j ≠ i) : ∃ e ∈ oj.after, Region.binds md e = true ∧ e.on = i := by
  have hlt := (Array.getElem?_eq_some_iff.1 hj).1
  have := List.all_eq_true.1 h j (List.mem_range.2 hlt)
  simp only [hE, Bool.not_true, Bool.false_or, hj, Bool.or_eq_true, beq_iff_eq, hji, false_or] at this
  obtain ⟨e, he, h2⟩ := Array.any_eq_true'.1 this
  simp only [Bool.and_eq_true, beq_iff_eq] at h2
  exact ⟨e, he, h2.1, h2.2⟩

theorem wpAnyE_first {i : Nat} {oi : Oper} {v : Value} (hF : ∀ f, F.fn f) (hnd : ∀ (j : Nat) (o : Oper), ops[j]? = some o → ∀ c, o.op ≠ .defer c) (hi : ops[i]? = some oi) (hsel : ∀ (j : Nat) (o : Oper) cs b, ops[j]? = some o → o.op ≠ .select cs b)
    (hQ : ∀ c a w, Q (.panic c) (a.put oi.dst v) w → Q (.panic c) a w) (hE : waits md ops E i = true) : ∀ (fuel : Nat) (listed : Array Bool) (a : Act) (w : World),
      (∀ j oj, ops[j]? = some oj → j ≠ i → listed.getD j true = false → (∀ e ∈ oj.after, Region.binds md e = true → e.on ≠ i) → oi.apart ops oj = true) →
      i ∈ Region.ready md ops listed → YieldsC P ops C oi v a → C w → wpAnyE F n P md ops C E Q fuel (listed.setIfInBounds i true) (a.put oi.dst v) w → wpAnyE F n P md ops C E Q (fuel + 1) listed a w := by
  intro fuel
  induction fuel with
  | zero =>
    intro listed a w _ hr hy hC H
    refine ⟨fun h => (by rw [h] at hr; cases hr), fun j hj => ?_⟩
    by_cases hji : j = i
    · subst hji; exact hy.op hF (hnd j oi hi) hi hC ⟨.inr hC, H⟩
    · have := ready_mono hj hji
      rw [H.1] at this
      cases this
  | succ fuel ih =>
    intro listed a w hfree hr hy hC H
    refine ⟨fun h => (by rw [h] at hr; cases hr), fun j hj => ?_⟩
    by_cases hji : j = i
    · subst hji; exact hy.op hF (hnd j oi hi) hi hC ⟨.inr hC, H⟩
    · obtain ⟨hjun, oj, hoj, hall⟩ := mem_ready.1 hj
      have hnot : ∀ e ∈ oj.after, Region.binds md e = true → e.on ≠ i := fun e he hb heq => by
        have h1 := hall e he hb
        have h0 := (mem_ready.1 hr).1
        rw [heq] at h1
        rcases Nat.lt_or_ge i listed.size with h' | h'
        · simp [h'] at h0 h1; rw [h0] at h1; cases h1
        · simp [Array.getElem?_eq_none h'] at h1
      have hap := hfree j oj hoj hji hjun hnot
      have h2 := opIn_put hF (hnd j oj hoj) hoj hap (fun cs b => hsel j oj cs b hoj) hQ (H.2 j (ready_mono hj hji))
      refine wpOpIn_mono (fun a' w' h3 => ?_) h2
      obtain ⟨⟨ds, u, rfl⟩, hC0, h4⟩ := h3
      have hC' : C w' := by
        rcases hC0 with hEj | hC'
        · obtain ⟨e, he, hb, hon⟩ := waits_spec hE hoj hEj hji
          exact absurd hon (hnot e he hb)
        · exact hC'
      refine ⟨.inr hC', ih (listed.setIfInBounds j true) _ w' (fun k ok hk hki hun hno => hfree k ok hk hki ?_ hno) (ready_mono hr (Ne.symm hji)) (hy.put hap (fun cs b => hsel i oi cs b hi)) hC' ?_⟩
      · by_cases hjk : j = k
        · subst hjk; exact hjun
        · rw [getD_set_ne true hjk] at hun; exact hun
      · rw [Array.setIfInBounds_comm _ _ hji]
        exact h4

theorem wpAnyE_take {i : Nat} {oi : Oper} {v : Value} {fuel : Nat} {listed : Array Bool} {a : Act} {w : World} (hF : ∀ f, F.fn f) (hnd : noDefer ops = true) (hi : ops[i]? = some oi) (hs : Region.noSelect ops = true) (hf : Region.free md ops listed i = true) (hr : (Region.ready md ops listed).contains i = true)
    (hE : waits md ops E i = true) (hQ : ∀ c a w, Q (.panic c) (a.put oi.dst v) w → Q (.panic c) a w) (hC : C w) (hy : YieldsC P ops C oi v a) (h : wpAnyE F n P md ops C E Q fuel (listed.setIfInBounds i true) (a.put oi.dst v) w) : wpAnyE F n P md ops C E Q (fuel + 1) listed a w :=
  wpAnyE_first hF (noDefer_spec hnd) hi (Region.noSelect_spec hs) hQ hE fuel listed a w (Region.free_spec hi hf) (by simpa using hr) hy hC h

/-- The same, with the temporary named. -/
theorem wpAnyE_takeD {i : Nat} {oi : Oper} (d : Option Tmp) {v : Value} {fuel : Nat} {listed : Array Bool} {a : Act} {w : World} (hF : ∀ f, F.fn f) (hnd : noDefer ops = true) (hi : ops[i]? = some oi) (hd : oi.dst = d) (hs : Region.noSelect ops = true) (hf : Region.free md ops listed i = true) (hr : (Region.ready md ops listed).contains i = true)
    (hE : waits md ops E i = true) (hQ : ∀ c a w, Q (.panic c) (a.put d v) w → Q (.panic c) a w) (hC : C w) (hy : YieldsC P ops C oi v a) (h : wpAnyE F n P md ops C E Q fuel (listed.setIfInBounds i true) (a.put d v) w) : wpAnyE F n P md ops C E Q (fuel + 1) listed a w := by
  subst hd
  exact wpAnyE_take hF hnd hi hs hf hr hE hQ hC hy h

/-- The operations that may come up, one by one. -/
def AllE (F : Fence) (n : Nat) (P : Program) (md : Region.Mode) (ops : Array Oper) (C : World → Prop) (E : Nat → Bool) (Q : Exit → Act → World → Prop) (fuel : Nat) (listed : Array Bool) (a : Act) (w : World) (rs : List Nat) : Prop :=
  ∀ i ∈ rs, wpOpIn F n P ops Q i (fun a' w' => (E i = true ∨ C w') ∧ wpAnyE F n P md ops C E Q fuel (listed.setIfInBounds i true) a' w') a w
theorem AllE.nil {fuel : Nat} {listed : Array Bool} {a : Act} {w : World} : AllE F n P md ops C E Q fuel listed a w [] := fun _ h => by cases h
theorem AllE.cons {fuel : Nat} {listed : Array Bool} {a : Act} {w : World} {i : Nat} {o : Oper} {rs : List Nat} (ho : ops[i]? = some o)
    (h : ∀ K' : Act → World → Prop, (∀ a w, (E i = true ∨ C w) → wpAnyE F n P md ops C E Q fuel (listed.setIfInBounds i true) a w → K' a w) → if Region.wanted o (yielded ops a.tmps) = true then Oper.wpIn F n P o a w K' Q else (∀ f, o.about P w a.eval = some f → F.fn f) ∧ K' (a.put o.dst undef) w)
    (hs : AllE F n P md ops C E Q fuel listed a w rs) : AllE F n P md ops C E Q fuel listed a w (i :: rs) := fun j hj => by
  rcases List.mem_cons.1 hj with rfl | hj
  · exact wpOpIn_step ho (fun K' hK => h K' (fun a w hC hw => hK a w ⟨hC, hw⟩))
  · exact hs j hj
theorem wpAnyE_ready {rs : List Nat} {fuel : Nat} {listed : Array Bool} {a : Act} {w : World} (hr : Region.ready md ops listed = rs) (hne : rs ≠ []) (h : AllE F n P md ops C E Q fuel listed a w rs) : wpAnyE F n P md ops C E Q (fuel + 1) listed a w :=
  ⟨fun h0 => absurd (hr ▸ h0) hne, hr ▸ h⟩

end

end Go.Proofs.Ytpggcpnjcalfaab

/-
  one of the laws of layer 4 answers a module of one instruction, in new memory.
-/
namespace Go.Proofs.Ytpggcpnjcalfaab
open Go.RowKit Go.Shelf
attribute [local go_sem] Oper.semAt_some
set_option linter.unusedVariables false
set_option linter.unusedSimpArgs false

/-- That instruction. -/
def oneI : InstT := (128, 1, 2, [(1, 3, ⟨#[]⟩), (1, 4, ⟨#[]⟩)])

theorem kitId_any (n : Int) (w : World) : Calls Try.prog 49 #[.int .u32 n] w fun e w' => e = .returned (.agg #[.int .u8 1, .int .u32 n, .string ⟨#[]⟩]) ∧ Below w.heap.size w w' := by
  go_enter Try.func49, Try.ntmps49
  go_wp2
  refine bodyPost_ret (v := .agg #[.int .u8 1, .int .u32 n, .string ⟨#[]⟩]) ?_ rfl ⟨rfl, ?_⟩
  · simp [results, Try.results49, go_sem]
  · exact (Below.refl _ _).alloc (Nat.le_refl _) _

set_option maxRecDepth 100000 in
set_option maxHeartbeats 4000000 in
theorem one_any (w : World) : Calls Try.prog 31 #[] w fun e w' => ∃ g c, e = .returned (modV 3 9 (some ⟨g, 0, none⟩) 1 c) ∧ InstsV w' (some ⟨g, 0, none⟩) [oneI] ∧ Below w.heap.size w w' := by
  have h3 := fun w => kitId_any 3 w
  have h4 := fun w => kitId_any 4 w
  obtain ⟨i0, hi, hz0, hz1, hz2⟩ := info_parts CopyModule.info
  have hmix : Try.prog.follows .mixedOrders = true := by kernel_rfl
  unfold modV
  refine (callsIn_wide (n := 0)).1 ?_
  refine callsIn_of_wp_marks Try.func31 rfl trivial ?_ rfl
  simp only [Try.ntmps31, List.size_toArray, List.length_cons, List.length_nil, Nat.reduceAdd, Nat.reduceSub, Array.replicate_succ, Array.replicate_zero, List.push_toArray, List.append_toArray, List.nil_append, List.cons_append]
  gi_wp2_with fail
  have hB0 : Below w.heap.size w ((w.alloc (.cells #[.int .u32 0, .int .u32 0, .slice none 0 0] 25)).alloc (.cells #[.int .u32 3, .int .u32 9, .slice none 0 0] 25)) := ((Below.refl _ w).alloc (Nat.le_refl _) _).alloc (by simp) _
  have kR : ((w.alloc (.cells #[.int .u32 0, .int .u32 0, .slice none 0 0] 25)).alloc (.cells #[.int .u32 3, .int .u32 9, .slice none 0 0] 25)).heap[w.heap.size]? = some (.cells #[.int .u32 0, .int .u32 0, .slice none 0 0] 25 (0, 0)) := (Below.heap_alloc _ _ _ (by simp)).trans (alloc_new w _ _)
  have kM : ((w.alloc (.cells #[.int .u32 0, .int .u32 0, .slice none 0 0] 25)).alloc (.cells #[.int .u32 3, .int .u32 9, .slice none 0 0] 25)).heap[w.heap.size + 1]? = some (.cells #[.int .u32 3, .int .u32 9, .slice none 0 0] 25 (0, 0)) := by simpa using alloc_new (w.alloc (.cells #[.int .u32 0, .int .u32 0, .slice none 0 0] 25)) #[.int .u32 3, .int .u32 9, .slice none 0 0] 25
  generalize (w.alloc (.cells #[.int .u32 0, .int .u32 0, .slice none 0 0] 25)).alloc (.cells #[.int .u32 3, .int .u32 9, .slice none 0 0] 25) = W at *
  have lM := (Array.getElem?_eq_some_iff.1 kM).1
  have hC0 : Below W.heap.size W W.drew := below_drew W
  have L2 : Hid (∀ w', Below W.heap.size W w' → w'.cell? ⟨w.heap.size + 1, 2, none⟩ = some (.slice none 0 0)) := fun w' hC => (one_block ((hC.block _ lM).trans kM)).1 2
  refine wpIn_normal (wpIn_region_any hmix (wpAnyE_sound (C := Below W.heap.size W) (E := fun i => i == 9) _ _ _ _ ?_))
  change wpAnyE _ _ _ _ _ _ _ _ _ _ _ (World.drew _)
  refine wpAnyE_takeD (i := 0) (some 3) (v := .pointer (some ⟨w.heap.size + 1, 2, none⟩)) (fun _ => trivial) (by kernel_rfl) rfl rfl (by kernel_rfl) (by kernel_rfl) (by kernel_rfl) (by kernel_rfl) (fun _ _ _ h => by cases h.1) hC0 (Or.inl ⟨by kernel_rfl, fun w' hC => by clear hC; go_simp⟩) ?_
  simp only [Act.put, List.setIfInBounds_toArray, List.set_cons_succ, List.set_cons_zero]
  refine wpAnyE_takeD (i := 1) (some 4) (v := .slice none 0 0) (fun _ => trivial) (by kernel_rfl) rfl rfl (by kernel_rfl) (by kernel_rfl) (by kernel_rfl) (by kernel_rfl) (fun _ _ _ h => by cases h.1) hC0 (Or.inl ⟨by kernel_rfl, fun w' hC => by have e := L2.out w' hC; clear hC; go_simp⟩) ?_
  simp only [Act.put, List.setIfInBounds_toArray, List.set_cons_succ, List.set_cons_zero]
  refine wpAnyE_ready (rs := [2]) (by kernel_rfl) (by simp) ?_
  refine AllE.cons rfl (fun K hK => ?_) AllE.nil
  go_simp
  refine ⟨trivial, rfl, (callsIn_wide.2 (h3 _)).mono ?_⟩
  rintro e w3 ⟨rfl, hb3⟩
  dsimp only
  have hC3 : Below W.heap.size W w3 := hC0.trans hb3
  refine hK _ _ (.inr hC3) ?_
  clear hK K hb3
  refine wpAnyE_ready (rs := [3]) (by kernel_rfl) (by simp) ?_
  refine AllE.cons rfl (fun K hK => ?_) AllE.nil
  go_simp
  refine ⟨trivial, rfl, (callsIn_wide.2 (h4 _)).mono ?_⟩
  rintro e w4 ⟨rfl, hb4⟩
  dsimp only
  have hC4 : Below W.heap.size W w4 := hC3.trans (hb4.mono hC3.size)
  refine hK _ _ (.inr hC4) ?_
  clear hK K hb4
  refine wpAnyE_ready (rs := [4]) (by kernel_rfl) (by simp) ?_
  refine AllE.cons rfl (fun K hK => ?_) AllE.nil
  go_simp
  have hC5 : Below W.heap.size W (w4.alloc (.cells #[.int .u8 1, .int .u32 3, .string ⟨#[]⟩, .int .u8 1, .int .u32 4, .string ⟨#[]⟩] 90)) := hC4.alloc hC4.size _
  refine hK _ _ (.inr hC5) ?_
  clear hK K
  refine wpAnyE_ready (rs := [5]) (by kernel_rfl) (by simp) ?_
  refine AllE.cons rfl (fun K hK => ?_) AllE.nil
  go_simp
  refine hK _ _ (.inr hC5) ?_
  clear hK K
  refine wpAnyE_ready (rs := [6]) (by kernel_rfl) (by simp) ?_
  refine AllE.cons rfl (fun K hK => ?_) AllE.nil
  go_simp
  have hC6 : Below W.heap.size W ((w4.alloc (.cells #[.int .u8 1, .int .u32 3, .string ⟨#[]⟩, .int .u8 1, .int .u32 4, .string ⟨#[]⟩] 90)).alloc (.cells #[.int .u16 128, .int .u32 1, .int .u32 2, .slice (some ⟨w4.heap.size, 0, none⟩) 2 2] 43)) := hC5.alloc hC5.size _
  refine hK _ _ (.inr hC6) ?_
  clear hK K
  refine wpAnyE_ready (rs := [7]) (by kernel_rfl) (by simp) ?_
  refine AllE.cons rfl (fun K hK => ?_) AllE.nil
  have hA : ArgsV ((w4.alloc (.cells #[.int .u8 1, .int .u32 3, .string ⟨#[]⟩, .int .u8 1, .int .u32 4, .string ⟨#[]⟩] 90)).alloc (.cells #[.int .u16 128, .int .u32 1, .int .u32 2, .slice (some ⟨w4.heap.size, 0, none⟩) 2 2] 43)) (some ⟨w4.heap.size, 0, none⟩) [(1, 3, ⟨#[]⟩), (1, 4, ⟨#[]⟩)] := by
    have kA := (Below.heap_alloc (w4.alloc (.cells #[.int .u8 1, .int .u32 3, .string ⟨#[]⟩, .int .u8 1, .int .u32 4, .string ⟨#[]⟩] 90)) (.cells #[.int .u16 128, .int .u32 1, .int .u32 2, .slice (some ⟨w4.heap.size, 0, none⟩) 2 2] 43) w4.heap.size (by simp)).trans (alloc_new w4 #[.int .u8 1, .int .u32 3, .string ⟨#[]⟩, .int .u8 1, .int .u32 4, .string ⟨#[]⟩] 90)
    obtain ⟨hc, _⟩ := one_block kA
    intro j hj
    refine ⟨w4.heap.size, 0, rfl, by simp; omega, ?_⟩
    match j, hj with
    | 0, _ => exact ⟨hc 0, hc 1, hc 2⟩
    | 1, _ => exact ⟨hc 3, hc 4, hc 5⟩
  have sW : W.heap.size ≤ w4.heap.size := hC4.size
  refine stepAny_append _ (fun _ => trivial) rfl (.tmp 4) (.tmp 9) 23 rfl W.heap.size 43 i0 (.agg #[.int .u16 0, .int .u32 0, .int .u32 0, .slice none 0 0]) 4 40 Try.underlying23 hi hz0 hz1 hz2 rfl (by decide) (.slice none 0 0) 0 [] rfl (World.ownsRow_nil _ _ _ _) ⟨w4.heap.size + 1, 0, none⟩ 1 1 [.int .u16 128, .int .u32 1, .int .u32 2, .slice (some ⟨w4.heap.size, 0, none⟩) 2 2] rfl rfl (World.news_of_block (cs := #[.int .u16 128, .int .u32 1, .int .u32 2, .slice (some ⟨w4.heap.size, 0, none⟩) 2 2]) (t := 43) (fr := (0, 0)) (by simpa using alloc_new (w4.alloc (.cells #[.int .u8 1, .int .u32 3, .string ⟨#[]⟩, .int .u8 1, .int .u32 4, .string ⟨#[]⟩] 90)) #[.int .u16 128, .int .u32 1, .int .u32 2, .slice (some ⟨w4.heap.size, 0, none⟩) 2 2] 43)) (by intro u hu; simp at hu; rcases hu with rfl | rfl | rfl | rfl <;> rfl) (by decide) (by unfold maxLen; decide) (by decide) (by simp; omega) ?_
  intro g7 cap7 w7 hown7 hgr7
  have hb7 : Below ((w4.alloc (.cells #[.int .u8 1, .int .u32 3, .string ⟨#[]⟩, .int .u8 1, .int .u32 4, .string ⟨#[]⟩] 90)).alloc (.cells #[.int .u16 128, .int .u32 1, .int .u32 2, .slice (some ⟨w4.heap.size, 0, none⟩) 2 2] 43)).heap.size ((w4.alloc (.cells #[.int .u8 1, .int .u32 3, .string ⟨#[]⟩, .int .u8 1, .int .u32 4, .string ⟨#[]⟩] 90)).alloc (.cells #[.int .u16 128, .int .u32 1, .int .u32 2, .slice (some ⟨w4.heap.size, 0, none⟩) 2 2] 43)) w7 := (Below.refl _ _).grown hgr7 (Nat.le_refl _) (fun k e => by simp [Value.ownBlock] at e)
  have hC7 : Below W.heap.size W w7 := hC6.trans (hb7.mono hC6.size)
  have hA7 := hA.below hb7
  have hV7 : InstsV w7 (some ⟨g7, 0, none⟩) [oneI] := by
    intro j hj
    obtain rfl : j = 0 := by simp at hj; exact hj
    have c0 := hown7.cellAt 0 (by decide)
    have c1 := hown7.cellAt 1 (by decide)
    have c2 := hown7.cellAt 2 (by decide)
    have c3 := hown7.cellAt 3 (by decide)
    exact ⟨g7, 0, some ⟨w4.heap.size, 0, none⟩, 2, 2, rfl, World.block_lt_of_cell? _ _ c0, c0, c1, c2, c3, rfl, hA7, Nat.le_refl _⟩
  have hg7 : W.heap.size ≤ g7 := (hown7.lt g7 rfl).1
  have HVX : Hid (∀ X : World, (∀ k, W.heap.size ≤ k → X.heap[k]? = w7.heap[k]?) → w7.heap.size ≤ X.heap.size → InstsV X (some ⟨g7, 0, none⟩) [oneI]) := by
    intro X hX hs j hj
    obtain ⟨b, off, aj, cj, nj, e, hlt, c1, c2, c3, c4, c5, c6, c7⟩ := hV7 j hj
    obtain rfl : j = 0 := by simp at hj; exact hj
    have hc0 := hown7.cellAt 3 (by decide)
    cases e
    have e4 : aj = some ⟨w4.heap.size, 0, none⟩ := by
      rw [show w7.cell? ⟨g7, 0 + 0 * 4 + 3, none⟩ = w7.cell? ⟨g7, 3, none⟩ from rfl, hc0] at c4
      simp at c4
      exact c4.1.symm
    subst e4
    have cell : ∀ b o, W.heap.size ≤ b → X.cell? ⟨b, o, none⟩ = w7.cell? ⟨b, o, none⟩ := fun b o hb => World.cell?_of_block (hX b hb)
    refine ⟨g7, 0, some ⟨w4.heap.size, 0, none⟩, cj, nj, rfl, by omega, (cell _ _ hg7).trans c1, (cell _ _ hg7).trans c2, (cell _ _ hg7).trans c3, (cell _ _ hg7).trans c4, c5, ?_, c7⟩
    intro i hi
    obtain ⟨b, off, e, hlt, a1, a2, a3⟩ := c6 i hi
    cases e
    exact ⟨_, _, rfl, by omega, (cell _ _ sW).trans a1, (cell _ _ sW).trans a2, (cell _ _ sW).trans a3⟩
  simp only [Act.put, List.setIfInBounds_toArray, List.set_cons_succ, List.set_cons_zero]
  refine hK _ _ (.inr hC7) ?_
  clear hK K hgr7 hb7 hA hA7 hown7
  refine wpAnyE_ready (rs := [8]) (by kernel_rfl) (by simp) ?_
  refine AllE.cons rfl (fun K hK => ?_) AllE.nil
  go_simp
  refine hK _ _ (.inr hC7) ?_
  clear hK K
  refine wpAnyE_ready (rs := [9]) (by kernel_rfl) (by simp) ?_
  refine AllE.cons rfl (fun K hK => ?_) AllE.nil
  have kM7 := (hC7.block _ lM).trans kM
  have kR7 := (hC7.block _ (by omega)).trans kR
  obtain ⟨m7, mf7⟩ := one_block kM7
  have y2 := m7 2
  have yf := mf7 2
  go_simp
  refine hK _ _ (.inl rfl) ?_
  clear hK K y2 yf m7 mf7
  refine wpAnyE_done (by kernel_rfl) ⟨rfl, ?_⟩ _
  have kM8 : (w7.setCell ⟨w.heap.size + 1, 2, none⟩ (.slice (some ⟨g7, 0, none⟩) 1 cap7)).heap[w.heap.size + 1]? = some (.cells #[.int .u32 3, .int .u32 9, .slice (some ⟨g7, 0, none⟩) 1 cap7] 25 (0, 0)) := by simp [World.setCell, Array.getElem?_modify, kM7]
  have kR8 : (w7.setCell ⟨w.heap.size + 1, 2, none⟩ (.slice (some ⟨g7, 0, none⟩) 1 cap7)).heap[w.heap.size]? = some (.cells #[.int .u32 0, .int .u32 0, .slice none 0 0] 25 (0, 0)) := (Below.heap_setCell _ _ _ _ (by simp)).trans kR7
  have hBw : Below w.heap.size w (w7.setCell ⟨w.heap.size + 1, 2, none⟩ (.slice (some ⟨g7, 0, none⟩) 1 cap7)) := (hB0.trans (hC7.mono hB0.size)).setCell (by simp) _
  have HV8 : Hid (InstsV (((((w7.setCell ⟨w.heap.size + 1, 2, none⟩ (.slice (some ⟨g7, 0, none⟩) 1 cap7)).setCell ⟨w.heap.size, 0, none⟩ (.int .u32 3)).setCell ⟨w.heap.size, 1, none⟩ (.int .u32 9)).setCell ⟨w.heap.size, 2, none⟩ (.slice (some ⟨g7, 0, none⟩) 1 cap7))) (some ⟨g7, 0, none⟩) [oneI]) :=
    HVX.out _ (fun k hk => by
      rw [Below.heap_setCell _ _ _ _ (by simp; omega), Below.heap_setCell _ _ _ _ (by simp; omega), Below.heap_setCell _ _ _ _ (by simp; omega), Below.heap_setCell _ _ _ _ (by simp; omega)]) (by simp)
  have hB9 := three_set3 kR8 (.int .u32 3) (.int .u32 9) (.slice (some ⟨g7, 0, none⟩) 1 cap7)
  have hBel := hBw.trans (three_below3 (w7.setCell ⟨w.heap.size + 1, 2, none⟩ (.slice (some ⟨g7, 0, none⟩) 1 cap7)) w.heap.size (.int .u32 3) (.int .u32 9) (.slice (some ⟨g7, 0, none⟩) 1 cap7))
  obtain ⟨mc, _⟩ := one_block kM8
  have m0 := mc 0
  have m1 := mc 1
  have m2 := mc 2
  obtain ⟨rc, rf⟩ := one_block kR8
  have r0 := rc 0
  have r1 := rc 1
  have r2 := rc 2
  have e0 := rf 0
  have e1 := rf 1
  have e2 := rf 2
  have HB9 : Hid _ := hB9
  have HBel : Hid _ := hBel
  clear kM8 kR8 hBw hB9 hBel mc rc rf kM7 kR7 hC0 hC3 hC4 hC5 hC6 hC7 kM kR hB0 HVX
  generalize w7.setCell ⟨w.heap.size + 1, 2, none⟩ (.slice (some ⟨g7, 0, none⟩) 1 cap7) = X at *
  gi_wp2_with fail
  have hB9 := HB9.out
  have hBel := HBel.out
  have hV8 := HV8.out
  clear r0 r1 r2 e0 e1 e2 m0 m1 m2 HB9 HBel HV8
  generalize ((X.setCell _ _).setCell _ _).setCell _ _ = Y at *
  obtain ⟨d, _⟩ := one_block hB9
  have d0 := d 0
  have d1 := d 1
  have d2 := d 2
  refine ⟨.agg #[.int .u32 3, .int .u32 9, .slice (some ⟨g7, 0, none⟩) 1 cap7], by simp [results, Try.results31, go_sem, d0, d1, d2], g7, cap7, rfl, hV8, hBel⟩

end Go.Proofs.Ytpggcpnjcalfaab
