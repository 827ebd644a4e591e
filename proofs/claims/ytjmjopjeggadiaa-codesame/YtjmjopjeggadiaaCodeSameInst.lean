/-
  sameInst of the package code tells whether two instructions are the same.
-/
import Derived.WalkSpells
import Derived.Deep.QuietTactic
import Derived.BigQuiet
import Derived.BigRegion
import Derived.Deep.RegionWith
import Derived.Deep.DrawnRows
import Derived.Test.YtjmjopjeggadiaaProg
import Derived.Test.YtjmjopjeggadiaaKitModule
import Derived.Test.YtjmjopjeggadiaaQuiet
import Derived.Test.YtjmjopjeggadiaaSlicesEqualArgs
import Derived.Test.YtjmjopjeggadiaaCodeFronts
namespace Go.Proofs.Ytjmjopjeggadiaa
open Go.RowKit

set_option maxRecDepth 10000 in
set_option maxHeartbeats 1000000 in
theorem sameInst_any (x y : InstT) (ax ay : Option Addr) (n m cx cy : Nat) (w : World) (hx : ArgsV w ax x.2.2.2) (hy : ArgsV w ay y.2.2.2) (hlx : x.2.2.2.length = n) (hly : y.2.2.2.length = m) (hn : n ≤ 140737488351232) (hm : m ≤ 140737488351232) :
    Calls Try.prog 33 #[instV x ax n cx, instV y ay m cy] w fun e w' => e = .returned (.bool (decide (x = y))) ∧ Below w.heap.size w w' := by
  obtain ⟨xo, xt, xr, xl⟩ := x
  obtain ⟨yo, yt, yr, yl⟩ := y
  simp only at *
  have hF := fun (x : InstT) a n c w => frontOf_any x a n c w
  unfold instV at hF ⊢
  by_cases H : xo = yo ∧ xt = yt ∧ xr = yr
  · obtain ⟨rfl, rfl, rfl⟩ := H
    have e1 : decide ((xo, xt, xr, xl) = (xo, xt, xr, yl)) = decide (xl = yl) := by simp
    rw [e1]
    go_enter Try.func33, Try.ntmps33
    go_wp2_with fail
    have hB := two_boxes w (.cells #[.int .u16 xo, .int .u32 xt, .int .u32 xr, .slice ax n cx] 29) (.cells #[.int .u16 xo, .int .u32 xt, .int .u32 xr, .slice ay m cy] 29)
    have hs : w.heap.size + 2 = ((w.alloc (.cells #[.int .u16 xo, .int .u32 xt, .int .u32 xr, .slice ax n cx] 29)).alloc (.cells #[.int .u16 xo, .int .u32 xt, .int .u32 xr, .slice ay m cy] 29)).heap.size := by simp
    have hA := block_two w #[.int .u16 xo, .int .u32 xt, .int .u32 xr, .slice ax n cx] #[.int .u16 xo, .int .u32 xt, .int .u32 xr, .slice ay m cy] 29 29
    generalize ((w.alloc (.cells #[.int .u16 xo, .int .u32 xt, .int .u32 xr, .slice ax n cx] 29)).alloc (.cells #[.int .u16 xo, .int .u32 xt, .int .u32 xr, .slice ay m cy] 29)) = W at *
    have hx1 := hx.below hB
    have hy1 := hy.below hB
    have a0 := fun s : InC (Below W.heap.size W) => s.cell (p := ⟨w.heap.size, 0, none⟩) (by show w.heap.size < _; omega) (hA.1 0)
    have a1 := fun s : InC (Below W.heap.size W) => s.cell (p := ⟨w.heap.size, 1, none⟩) (by show w.heap.size < _; omega) (hA.1 1)
    have a2 := fun s : InC (Below W.heap.size W) => s.cell (p := ⟨w.heap.size, 2, none⟩) (by show w.heap.size < _; omega) (hA.1 2)
    have a3 := fun s : InC (Below W.heap.size W) => s.cell (p := ⟨w.heap.size, 3, none⟩) (by show w.heap.size < _; omega) (hA.1 3)
    have b0 := fun s : InC (Below W.heap.size W) => s.cell (p := ⟨w.heap.size + 1, 0, none⟩) (by show w.heap.size + 1 < _; omega) (hA.2 0)
    have b1 := fun s : InC (Below W.heap.size W) => s.cell (p := ⟨w.heap.size + 1, 1, none⟩) (by show w.heap.size + 1 < _; omega) (hA.2 1)
    have b2 := fun s : InC (Below W.heap.size W) => s.cell (p := ⟨w.heap.size + 1, 2, none⟩) (by show w.heap.size + 1 < _; omega) (hA.2 2)
    have b3 := fun s : InC (Below W.heap.size W) => s.cell (p := ⟨w.heap.size + 1, 3, none⟩) (by show w.heap.size + 1 < _; omega) (hA.2 3)
    have hG := fun (o t r : Int) (a : Option Addr) (n c : Nat) (s : InC (Below W.heap.size W)) => Calls.inC s (hF (o, t, r, []) a n c s.w)
    simp only at hG
    have hE := fun s : InC (Below W.heap.size W) => Calls.inC_drew s (argsEqual_any xl yl ax ay n m cx cy s.w (hx1.below s.ok) (hy1.below s.ok) hlx hly hn hm)
    clear hF hA hx hy hx1 hy1
    refine wp_region_class (C := Below W.heap.size W) (by kernel_rfl) (by kernel_rfl) (below_drew W) ?_
    have hne : Nonempty (InC (Below W.heap.size W)) := ⟨⟨W, Below.refl _ _⟩⟩
    repeat (go_big_quiet_step ((first | (go_at_call 51; exact hG _ _ _ _ _ _ _) | (go_at_call 52; exact hE _))))
    refine wpQuiet_nil ?_
    rintro _ ⟨s, rfl⟩
    have hfin := hB.trans (s.ok.mono (by omega))
    clear hne hG hE a0 a1 a2 a3 b0 b1 b2 b3
    go_wp2
    go_ret
    exact ⟨rfl, hfin⟩
  · have e1 : decide ((xo, xt, xr, xl) = (yo, yt, yr, yl)) = false := by
      rw [decide_eq_false]
      intro h
      simp only [Prod.mk.injEq] at h
      exact H ⟨h.1, h.2.1, h.2.2.1⟩
    rw [e1]
    have H2 : (¬ xo = yo) ∨ (xo = yo ∧ ¬ xt = yt) ∨ (xo = yo ∧ xt = yt ∧ ¬ xr = yr) := by
      by_cases h1 : xo = yo
      · by_cases h2 : xt = yt
        · exact .inr (.inr ⟨h1, h2, fun h3 => H ⟨h1, h2, h3⟩⟩)
        · exact .inr (.inl ⟨h1, h2⟩)
      · exact .inl h1
    clear H e1
    rcases H2 with h1 | ⟨rfl, h1⟩ | ⟨rfl, rfl, h1⟩
    · go_enter Try.func33, Try.ntmps33
      go_wp2_with fail
      have hB := two_boxes w (.cells #[.int .u16 xo, .int .u32 xt, .int .u32 xr, .slice ax n cx] 29) (.cells #[.int .u16 yo, .int .u32 yt, .int .u32 yr, .slice ay m cy] 29)
      have hs : w.heap.size + 2 = ((w.alloc (.cells #[.int .u16 xo, .int .u32 xt, .int .u32 xr, .slice ax n cx] 29)).alloc (.cells #[.int .u16 yo, .int .u32 yt, .int .u32 yr, .slice ay m cy] 29)).heap.size := by simp
      have hA := block_two w #[.int .u16 xo, .int .u32 xt, .int .u32 xr, .slice ax n cx] #[.int .u16 yo, .int .u32 yt, .int .u32 yr, .slice ay m cy] 29 29
      generalize ((w.alloc (.cells #[.int .u16 xo, .int .u32 xt, .int .u32 xr, .slice ax n cx] 29)).alloc (.cells #[.int .u16 yo, .int .u32 yt, .int .u32 yr, .slice ay m cy] 29)) = W at *
      have hx1 := hx.below hB
      have hy1 := hy.below hB
      have a0 := fun s : InC (Below W.heap.size W) => s.cell (p := ⟨w.heap.size, 0, none⟩) (by show w.heap.size < _; omega) (hA.1 0)
      have a1 := fun s : InC (Below W.heap.size W) => s.cell (p := ⟨w.heap.size, 1, none⟩) (by show w.heap.size < _; omega) (hA.1 1)
      have a2 := fun s : InC (Below W.heap.size W) => s.cell (p := ⟨w.heap.size, 2, none⟩) (by show w.heap.size < _; omega) (hA.1 2)
      have a3 := fun s : InC (Below W.heap.size W) => s.cell (p := ⟨w.heap.size, 3, none⟩) (by show w.heap.size < _; omega) (hA.1 3)
      have b0 := fun s : InC (Below W.heap.size W) => s.cell (p := ⟨w.heap.size + 1, 0, none⟩) (by show w.heap.size + 1 < _; omega) (hA.2 0)
      have b1 := fun s : InC (Below W.heap.size W) => s.cell (p := ⟨w.heap.size + 1, 1, none⟩) (by show w.heap.size + 1 < _; omega) (hA.2 1)
      have b2 := fun s : InC (Below W.heap.size W) => s.cell (p := ⟨w.heap.size + 1, 2, none⟩) (by show w.heap.size + 1 < _; omega) (hA.2 2)
      have b3 := fun s : InC (Below W.heap.size W) => s.cell (p := ⟨w.heap.size + 1, 3, none⟩) (by show w.heap.size + 1 < _; omega) (hA.2 3)
      have hG := fun (o t r : Int) (a : Option Addr) (n c : Nat) (s : InC (Below W.heap.size W)) => Calls.inC s (hF (o, t, r, []) a n c s.w)
      simp only at hG
      have hE := fun s : InC (Below W.heap.size W) => Calls.inC_drew s (argsEqual_any xl yl ax ay n m cx cy s.w (hx1.below s.ok) (hy1.below s.ok) hlx hly hn hm)
      clear hF hA hx hy hx1 hy1
      refine wp_region_class (C := Below W.heap.size W) (by kernel_rfl) (by kernel_rfl) (below_drew W) ?_
      have hne : Nonempty (InC (Below W.heap.size W)) := ⟨⟨W, Below.refl _ _⟩⟩
      repeat (go_big_quiet_step ((first | (go_at_call 51; exact hG _ _ _ _ _ _ _) | (go_at_call 52; exact hE _))))
      refine wpQuiet_nil ?_
      rintro _ ⟨s, rfl⟩
      have hfin := hB.trans (s.ok.mono (by omega))
      clear hne hG hE a0 a1 a2 a3 b0 b1 b2 b3
      go_wp2
      go_ret
      exact ⟨rfl, hfin⟩
    · go_enter Try.func33, Try.ntmps33
      go_wp2_with fail
      have hB := two_boxes w (.cells #[.int .u16 xo, .int .u32 xt, .int .u32 xr, .slice ax n cx] 29) (.cells #[.int .u16 xo, .int .u32 yt, .int .u32 yr, .slice ay m cy] 29)
      have hs : w.heap.size + 2 = ((w.alloc (.cells #[.int .u16 xo, .int .u32 xt, .int .u32 xr, .slice ax n cx] 29)).alloc (.cells #[.int .u16 xo, .int .u32 yt, .int .u32 yr, .slice ay m cy] 29)).heap.size := by simp
      have hA := block_two w #[.int .u16 xo, .int .u32 xt, .int .u32 xr, .slice ax n cx] #[.int .u16 xo, .int .u32 yt, .int .u32 yr, .slice ay m cy] 29 29
      generalize ((w.alloc (.cells #[.int .u16 xo, .int .u32 xt, .int .u32 xr, .slice ax n cx] 29)).alloc (.cells #[.int .u16 xo, .int .u32 yt, .int .u32 yr, .slice ay m cy] 29)) = W at *
      have hx1 := hx.below hB
      have hy1 := hy.below hB
      have a0 := fun s : InC (Below W.heap.size W) => s.cell (p := ⟨w.heap.size, 0, none⟩) (by show w.heap.size < _; omega) (hA.1 0)
      have a1 := fun s : InC (Below W.heap.size W) => s.cell (p := ⟨w.heap.size, 1, none⟩) (by show w.heap.size < _; omega) (hA.1 1)
      have a2 := fun s : InC (Below W.heap.size W) => s.cell (p := ⟨w.heap.size, 2, none⟩) (by show w.heap.size < _; omega) (hA.1 2)
      have a3 := fun s : InC (Below W.heap.size W) => s.cell (p := ⟨w.heap.size, 3, none⟩) (by show w.heap.size < _; omega) (hA.1 3)
      have b0 := fun s : InC (Below W.heap.size W) => s.cell (p := ⟨w.heap.size + 1, 0, none⟩) (by show w.heap.size + 1 < _; omega) (hA.2 0)
      have b1 := fun s : InC (Below W.heap.size W) => s.cell (p := ⟨w.heap.size + 1, 1, none⟩) (by show w.heap.size + 1 < _; omega) (hA.2 1)
      have b2 := fun s : InC (Below W.heap.size W) => s.cell (p := ⟨w.heap.size + 1, 2, none⟩) (by show w.heap.size + 1 < _; omega) (hA.2 2)
      have b3 := fun s : InC (Below W.heap.size W) => s.cell (p := ⟨w.heap.size + 1, 3, none⟩) (by show w.heap.size + 1 < _; omega) (hA.2 3)
      have hG := fun (o t r : Int) (a : Option Addr) (n c : Nat) (s : InC (Below W.heap.size W)) => Calls.inC s (hF (o, t, r, []) a n c s.w)
      simp only at hG
      have hE := fun s : InC (Below W.heap.size W) => Calls.inC_drew s (argsEqual_any xl yl ax ay n m cx cy s.w (hx1.below s.ok) (hy1.below s.ok) hlx hly hn hm)
      clear hF hA hx hy hx1 hy1
      refine wp_region_class (C := Below W.heap.size W) (by kernel_rfl) (by kernel_rfl) (below_drew W) ?_
      have hne : Nonempty (InC (Below W.heap.size W)) := ⟨⟨W, Below.refl _ _⟩⟩
      repeat (go_big_quiet_step ((first | (go_at_call 51; exact hG _ _ _ _ _ _ _) | (go_at_call 52; exact hE _))))
      refine wpQuiet_nil ?_
      rintro _ ⟨s, rfl⟩
      have hfin := hB.trans (s.ok.mono (by omega))
      clear hne hG hE a0 a1 a2 a3 b0 b1 b2 b3
      go_wp2
      go_ret
      exact ⟨rfl, hfin⟩
    · go_enter Try.func33, Try.ntmps33
      go_wp2_with fail
      have hB := two_boxes w (.cells #[.int .u16 xo, .int .u32 xt, .int .u32 xr, .slice ax n cx] 29) (.cells #[.int .u16 xo, .int .u32 xt, .int .u32 yr, .slice ay m cy] 29)
      have hs : w.heap.size + 2 = ((w.alloc (.cells #[.int .u16 xo, .int .u32 xt, .int .u32 xr, .slice ax n cx] 29)).alloc (.cells #[.int .u16 xo, .int .u32 xt, .int .u32 yr, .slice ay m cy] 29)).heap.size := by simp
      have hA := block_two w #[.int .u16 xo, .int .u32 xt, .int .u32 xr, .slice ax n cx] #[.int .u16 xo, .int .u32 xt, .int .u32 yr, .slice ay m cy] 29 29
      generalize ((w.alloc (.cells #[.int .u16 xo, .int .u32 xt, .int .u32 xr, .slice ax n cx] 29)).alloc (.cells #[.int .u16 xo, .int .u32 xt, .int .u32 yr, .slice ay m cy] 29)) = W at *
      have hx1 := hx.below hB
      have hy1 := hy.below hB
      have a0 := fun s : InC (Below W.heap.size W) => s.cell (p := ⟨w.heap.size, 0, none⟩) (by show w.heap.size < _; omega) (hA.1 0)
      have a1 := fun s : InC (Below W.heap.size W) => s.cell (p := ⟨w.heap.size, 1, none⟩) (by show w.heap.size < _; omega) (hA.1 1)
      have a2 := fun s : InC (Below W.heap.size W) => s.cell (p := ⟨w.heap.size, 2, none⟩) (by show w.heap.size < _; omega) (hA.1 2)
      have a3 := fun s : InC (Below W.heap.size W) => s.cell (p := ⟨w.heap.size, 3, none⟩) (by show w.heap.size < _; omega) (hA.1 3)
      have b0 := fun s : InC (Below W.heap.size W) => s.cell (p := ⟨w.heap.size + 1, 0, none⟩) (by show w.heap.size + 1 < _; omega) (hA.2 0)
      have b1 := fun s : InC (Below W.heap.size W) => s.cell (p := ⟨w.heap.size + 1, 1, none⟩) (by show w.heap.size + 1 < _; omega) (hA.2 1)
      have b2 := fun s : InC (Below W.heap.size W) => s.cell (p := ⟨w.heap.size + 1, 2, none⟩) (by show w.heap.size + 1 < _; omega) (hA.2 2)
      have b3 := fun s : InC (Below W.heap.size W) => s.cell (p := ⟨w.heap.size + 1, 3, none⟩) (by show w.heap.size + 1 < _; omega) (hA.2 3)
      have hG := fun (o t r : Int) (a : Option Addr) (n c : Nat) (s : InC (Below W.heap.size W)) => Calls.inC s (hF (o, t, r, []) a n c s.w)
      simp only at hG
      have hE := fun s : InC (Below W.heap.size W) => Calls.inC_drew s (argsEqual_any xl yl ax ay n m cx cy s.w (hx1.below s.ok) (hy1.below s.ok) hlx hly hn hm)
      clear hF hA hx hy hx1 hy1
      refine wp_region_class (C := Below W.heap.size W) (by kernel_rfl) (by kernel_rfl) (below_drew W) ?_
      have hne : Nonempty (InC (Below W.heap.size W)) := ⟨⟨W, Below.refl _ _⟩⟩
      repeat (go_big_quiet_step ((first | (go_at_call 51; exact hG _ _ _ _ _ _ _) | (go_at_call 52; exact hE _))))
      refine wpQuiet_nil ?_
      rintro _ ⟨s, rfl⟩
      have hfin := hB.trans (s.ok.mono (by omega))
      clear hne hG hE a0 a1 a2 a3 b0 b1 b2 b3
      go_wp2
      go_ret
      exact ⟨rfl, hfin⟩

end Go.Proofs.Ytjmjopjeggadiaa
