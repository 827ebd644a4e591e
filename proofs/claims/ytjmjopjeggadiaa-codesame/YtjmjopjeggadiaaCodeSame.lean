/-
  Same of the package code tells whether two modules are the same.
-/
import Derived.WalkSpells
import Derived.Deep.QuietTactic
import Derived.BigQuiet
import Derived.BigRegion
import Derived.Deep.RegionWith
import Derived.Deep.DrawnRows
import Derived.Test.YtjmjopjeggadiaaProg
import Derived.Test.YtjmjopjeggadiaaKitModule
import Derived.Test.YtjmjopjeggadiaaQuiet
import Derived.Test.YtjmjopjeggadiaaSlicesEqualArgs
import Derived.Test.YtjmjopjeggadiaaCodeFronts
import Derived.Test.YtjmjopjeggadiaaCodeSameInst
namespace Go.Proofs.Ytjmjopjeggadiaa
open Go.RowKit

set_option maxRecDepth 10000 in
set_option maxHeartbeats 1000000 in
theorem instsEqual_any (l m : List InstT) (ax ay : Option Addr) (nx ny cx cy : Nat) (w : World) (hx : InstsV w ax l) (hy : InstsV w ay m) (hlx : l.length = nx) (hly : m.length = ny) (hokx : InstsOk l) (hoky : InstsOk m) (hnx : nx ≤ 140737488351232) (hny : ny ≤ 140737488351232) (r : Bool) (hr : r = true ↔ l = m) :
    Calls Try.prog 32 #[.slice ax nx cx, .slice ay ny cy, .func (.func 33) #[] #[]] w fun e w' => e = .returned (.bool r) ∧ Below w.heap.size w w' := by
  have HR : Hid (r = true ↔ l = m) := hr
  have HLX : Hid (l.length = nx) := hlx
  have HLY : Hid (m.length = ny) := hly
  clear hlx hly hr
  by_cases H : nx = ny
  · subst H
    go_enter Try.func32, Try.ntmps32
    go_wp2
    go_loopw [17] (fun i wr => ∃ k : Nat, k ≤ nx ∧ i = .int .i64 k ∧ Below w.heap.size w wr ∧ ∀ j, j < k → nthI l j = nthI m j) (fun i _ => nx - (intOf i).toNat)
    case atStart => exact ⟨0, Nat.zero_le _, rfl, Below.refl _ _, fun j hj => by omega⟩
    case round =>
      obtain ⟨k, hk, rfl, hbr, hall⟩ := hrel
      have HALL : Hid (∀ j, j < k → nthI l j = nthI m j) := hall
      clear hall
      have hs2 := hbr.size
      by_cases hlt : k < nx
      · obtain ⟨b1, o1, p1, k1, n1, rfl, l1, c1, c2, c3, c4, c5, c6, _⟩ := hx k (by rw [HLX.out]; exact hlt)
        obtain ⟨b2, o2, p2, k2, n2, rfl, l2, d1, d2, d3, d4, d5, d6, _⟩ := hy k (by rw [HLY.out]; exact hlt)
        have hk0 : (0 : Int) ≤ (k : Int) := by omega
        have hki : (k : Int) < (nx : Int) := by omega
        have s1 := (hokx k (by rw [HLX.out]; exact hlt)).2.2.2.2.2.2.2
        have s2 := (hoky k (by rw [HLY.out]; exact hlt)).2.2.2.2.2.2.2
        rw [c5] at s1
        rw [d5] at s2
        have hC := fun wx (hb : Below w.heap.size w wx) => sameInst_any (nthI l k) (nthI m k) p1 p2 n1 n2 k1 k2 wx (c6.below hb) (d6.below hb) c5 d5 (by omega) (by omega)
        unfold instV at hC
        replace c1 := (hbr.cell (p := ⟨b1, o1 + k * 4, none⟩) l1).trans c1
        replace c2 := (hbr.cell (p := ⟨b1, o1 + k * 4 + 1, none⟩) l1).trans c2
        replace c3 := (hbr.cell (p := ⟨b1, o1 + k * 4 + 2, none⟩) l1).trans c3
        replace c4 := (hbr.cell (p := ⟨b1, o1 + k * 4 + 3, none⟩) l1).trans c4
        replace d1 := (hbr.cell (p := ⟨b2, o2 + k * 4, none⟩) l2).trans d1
        replace d2 := (hbr.cell (p := ⟨b2, o2 + k * 4 + 1, none⟩) l2).trans d2
        replace d3 := (hbr.cell (p := ⟨b2, o2 + k * 4 + 2, none⟩) l2).trans d3
        replace d4 := (hbr.cell (p := ⟨b2, o2 + k * 4 + 3, none⟩) l2).trans d4
        have l1' : b1 < wr.heap.size := by omega
        have l2' : b2 < wr.heap.size := by omega
        clear hx hy c5 c6 d5 d6 s1 s2
        by_cases he : nthI l k = nthI m k
        · have HE : Hid (nthI l k = nthI m k) := he
          rw [decide_eq_true he] at hC
          clear he
          go_wp2_with fail
          have hb2 := fun o p => hbr.trans ((two_boxes wr o p).mono hs2)
          refine (hC _ (hb2 _ _)).mono ?_
          rintro e w' ⟨rfl, hb'⟩
          have hbC := (hb2 _ _).trans (hb'.mono (by simp; omega))
          clear hb' hb2 hC
          go_wp2
          go_roundw
          case rel => exact ⟨k + 1, by omega, by go_num, hbC, fun j hj => by
            by_cases hjk : j < k
            · exact HALL.out j hjk
            · obtain rfl : j = k := by omega
              exact HE.out⟩
          case measure => simp [intOf]; omega
        · have HE : Hid (r = false) := by
            show r = false
            rw [← Bool.not_eq_true]
            intro hr
            exact he (by rw [HR.out.1 hr])
          rw [decide_eq_false he] at hC
          clear he
          go_wp2_with fail
          have hb2 := fun o p => hbr.trans ((two_boxes wr o p).mono hs2)
          refine (hC _ (hb2 _ _)).mono ?_
          rintro e w' ⟨rfl, hb'⟩
          have hbC := (hb2 _ _).trans (hb'.mono (by simp; omega))
          clear hb' hb2 hC
          go_wp2
          go_ret
          exact ⟨by rw [HE.out]; rfl, hbC⟩
      · go_wp2
        go_ret
        refine ⟨?_, hbr⟩
        obtain rfl : k = nx := by omega
        show Ending.returned (.bool true) = _
        rw [HR.out.2 ((instsEq_iff _ _).2 ⟨by rw [HLX.out, HLY.out], fun j hj => HALL.out j (by rw [← HLX.out]; exact hj)⟩)]
  · have e1 : r = false := by
      rw [← Bool.not_eq_true]
      intro hr
      have := HR.out.1 hr
      subst this
      exact H (HLX.out.symm.trans HLY.out)
    subst e1
    have H2 : ¬ (nx : Int) = (ny : Int) := by omega
    go_enter Try.func32, Try.ntmps32
    go_wp2
    go_ret
    exact ⟨rfl, Below.refl _ _⟩

set_option maxRecDepth 10000 in
set_option maxHeartbeats 1000000 in
theorem same_any (g1 b1 g2 b2 : Int) (l m : List InstT) (ax ay : Option Addr) (nx ny cx cy : Nat) (w : World) (hx : InstsV w ax l) (hy : InstsV w ay m) (hlx : l.length = nx) (hly : m.length = ny) (hokx : InstsOk l) (hoky : InstsOk m) (hnx : nx ≤ 140737488351232) (hny : ny ≤ 140737488351232) (r : Bool) (hr : r = true ↔ (g1 = g2 ∧ b1 = b2 ∧ l = m)) :
    Calls Try.prog 17 #[modV g1 b1 ax nx cx, modV g2 b2 ay ny cy] w fun e w' => e = .returned (.bool r) ∧ Below w.heap.size w w' := by
  have hF := fun g b a n c w => headOf_any g b a n c w
  unfold modV at hF ⊢
  by_cases H : g1 = g2 ∧ b1 = b2
  · obtain ⟨rfl, rfl⟩ := H
    have hr' : r = true ↔ l = m := by simpa using hr
    go_enter Try.func17, Try.ntmps17
    go_wp2_with fail
    have hB := two_boxes w (.cells #[.int .u32 g1, .int .u32 b1, .slice ax nx cx] 44) (.cells #[.int .u32 g1, .int .u32 b1, .slice ay ny cy] 44)
    have hs : w.heap.size + 2 = ((w.alloc (.cells #[.int .u32 g1, .int .u32 b1, .slice ax nx cx] 44)).alloc (.cells #[.int .u32 g1, .int .u32 b1, .slice ay ny cy] 44)).heap.size := by simp
    have hA := block_two w #[.int .u32 g1, .int .u32 b1, .slice ax nx cx] #[.int .u32 g1, .int .u32 b1, .slice ay ny cy] 44 44
    generalize ((w.alloc (.cells #[.int .u32 g1, .int .u32 b1, .slice ax nx cx] 44)).alloc (.cells #[.int .u32 g1, .int .u32 b1, .slice ay ny cy] 44)) = W at *
    have hx1 := hx.below hB
    have hy1 := hy.below hB
    have a0 := fun s : InC (Below W.heap.size W) => s.cell (p := ⟨w.heap.size, 0, none⟩) (by show w.heap.size < _; omega) (hA.1 0)
    have a1 := fun s : InC (Below W.heap.size W) => s.cell (p := ⟨w.heap.size, 1, none⟩) (by show w.heap.size < _; omega) (hA.1 1)
    have a2 := fun s : InC (Below W.heap.size W) => s.cell (p := ⟨w.heap.size, 2, none⟩) (by show w.heap.size < _; omega) (hA.1 2)
    have e0 := fun s : InC (Below W.heap.size W) => s.cell (p := ⟨w.heap.size + 1, 0, none⟩) (by show w.heap.size + 1 < _; omega) (hA.2 0)
    have e1 := fun s : InC (Below W.heap.size W) => s.cell (p := ⟨w.heap.size + 1, 1, none⟩) (by show w.heap.size + 1 < _; omega) (hA.2 1)
    have e2 := fun s : InC (Below W.heap.size W) => s.cell (p := ⟨w.heap.size + 1, 2, none⟩) (by show w.heap.size + 1 < _; omega) (hA.2 2)
    have hG := fun (g b : Int) (a : Option Addr) (n c : Nat) (s : InC (Below W.heap.size W)) => Calls.inC s (hF g b a n c s.w)
    have hE := fun s : InC (Below W.heap.size W) => Calls.inC s (instsEqual_any l m ax ay nx ny cx cy s.w (hx1.below s.ok) (hy1.below s.ok) hlx hly hokx hoky hnx hny r hr')
    clear hF hA hx hy hx1 hy1
    refine wp_region_class (C := Below W.heap.size W) (by kernel_rfl) (by kernel_rfl) (below_drew W) ?_
    have hne : Nonempty (InC (Below W.heap.size W)) := ⟨⟨W, Below.refl _ _⟩⟩
    repeat (go_big_quiet_step ((first | (go_at_call 31; exact hG _ _ _ _ _ _) | (go_at_call 32; exact hE _))))
    refine wpQuiet_nil ?_
    rintro _ ⟨s, rfl⟩
    have hfin := hB.trans (s.ok.mono (by omega))
    clear hne hG hE a0 a1 a2 e0 e1 e2
    go_wp2
    go_ret
    exact ⟨rfl, hfin⟩
  · have e1 : r = false := by
      rw [← Bool.not_eq_true]
      intro h
      obtain ⟨h1, h2, _⟩ := hr.1 h
      exact H ⟨h1, h2⟩
    subst e1
    have H2 : (¬ g1 = g2) ∨ (g1 = g2 ∧ ¬ b1 = b2) := by
      by_cases h1 : g1 = g2
      · exact .inr ⟨h1, fun h2 => H ⟨h1, h2⟩⟩
      · exact .inl h1
    clear H hr
    rcases H2 with h1 | ⟨rfl, h1⟩
    · go_enter Try.func17, Try.ntmps17
      go_wp2_with fail
      have hB := two_boxes w (.cells #[.int .u32 g1, .int .u32 b1, .slice ax nx cx] 44) (.cells #[.int .u32 g2, .int .u32 b2, .slice ay ny cy] 44)
      have hs : w.heap.size + 2 = ((w.alloc (.cells #[.int .u32 g1, .int .u32 b1, .slice ax nx cx] 44)).alloc (.cells #[.int .u32 g2, .int .u32 b2, .slice ay ny cy] 44)).heap.size := by simp
      have hA := block_two w #[.int .u32 g1, .int .u32 b1, .slice ax nx cx] #[.int .u32 g2, .int .u32 b2, .slice ay ny cy] 44 44
      generalize ((w.alloc (.cells #[.int .u32 g1, .int .u32 b1, .slice ax nx cx] 44)).alloc (.cells #[.int .u32 g2, .int .u32 b2, .slice ay ny cy] 44)) = W at *
      have hx1 := hx.below hB
      have hy1 := hy.below hB
      have a0 := fun s : InC (Below W.heap.size W) => s.cell (p := ⟨w.heap.size, 0, none⟩) (by show w.heap.size < _; omega) (hA.1 0)
      have a1 := fun s : InC (Below W.heap.size W) => s.cell (p := ⟨w.heap.size, 1, none⟩) (by show w.heap.size < _; omega) (hA.1 1)
      have a2 := fun s : InC (Below W.heap.size W) => s.cell (p := ⟨w.heap.size, 2, none⟩) (by show w.heap.size < _; omega) (hA.1 2)
      have e0 := fun s : InC (Below W.heap.size W) => s.cell (p := ⟨w.heap.size + 1, 0, none⟩) (by show w.heap.size + 1 < _; omega) (hA.2 0)
      have e1 := fun s : InC (Below W.heap.size W) => s.cell (p := ⟨w.heap.size + 1, 1, none⟩) (by show w.heap.size + 1 < _; omega) (hA.2 1)
      have e2 := fun s : InC (Below W.heap.size W) => s.cell (p := ⟨w.heap.size + 1, 2, none⟩) (by show w.heap.size + 1 < _; omega) (hA.2 2)
      have hG := fun (g b : Int) (a : Option Addr) (n c : Nat) (s : InC (Below W.heap.size W)) => Calls.inC s (hF g b a n c s.w)
      clear hF hA hx hy hx1 hy1
      refine wp_region_class (C := Below W.heap.size W) (by kernel_rfl) (by kernel_rfl) (below_drew W) ?_
      have hne : Nonempty (InC (Below W.heap.size W)) := ⟨⟨W, Below.refl _ _⟩⟩
      repeat (go_big_quiet_step ((first | (go_at_call 31; exact hG _ _ _ _ _ _))))
      refine wpQuiet_nil ?_
      rintro _ ⟨s, rfl⟩
      have hfin := hB.trans (s.ok.mono (by omega))
      clear hne hG a0 a1 a2 e0 e1 e2
      go_wp2
      go_ret
      exact ⟨rfl, hfin⟩
    · go_enter Try.func17, Try.ntmps17
      go_wp2_with fail
      have hB := two_boxes w (.cells #[.int .u32 g1, .int .u32 b1, .slice ax nx cx] 44) (.cells #[.int .u32 g1, .int .u32 b2, .slice ay ny cy] 44)
      have hs : w.heap.size + 2 = ((w.alloc (.cells #[.int .u32 g1, .int .u32 b1, .slice ax nx cx] 44)).alloc (.cells #[.int .u32 g1, .int .u32 b2, .slice ay ny cy] 44)).heap.size := by simp
      have hA := block_two w #[.int .u32 g1, .int .u32 b1, .slice ax nx cx] #[.int .u32 g1, .int .u32 b2, .slice ay ny cy] 44 44
      generalize ((w.alloc (.cells #[.int .u32 g1, .int .u32 b1, .slice ax nx cx] 44)).alloc (.cells #[.int .u32 g1, .int .u32 b2, .slice ay ny cy] 44)) = W at *
      have hx1 := hx.below hB
      have hy1 := hy.below hB
      have a0 := fun s : InC (Below W.heap.size W) => s.cell (p := ⟨w.heap.size, 0, none⟩) (by show w.heap.size < _; omega) (hA.1 0)
      have a1 := fun s : InC (Below W.heap.size W) => s.cell (p := ⟨w.heap.size, 1, none⟩) (by show w.heap.size < _; omega) (hA.1 1)
      have a2 := fun s : InC (Below W.heap.size W) => s.cell (p := ⟨w.heap.size, 2, none⟩) (by show w.heap.size < _; omega) (hA.1 2)
      have e0 := fun s : InC (Below W.heap.size W) => s.cell (p := ⟨w.heap.size + 1, 0, none⟩) (by show w.heap.size + 1 < _; omega) (hA.2 0)
      have e1 := fun s : InC (Below W.heap.size W) => s.cell (p := ⟨w.heap.size + 1, 1, none⟩) (by show w.heap.size + 1 < _; omega) (hA.2 1)
      have e2 := fun s : InC (Below W.heap.size W) => s.cell (p := ⟨w.heap.size + 1, 2, none⟩) (by show w.heap.size + 1 < _; omega) (hA.2 2)
      have hG := fun (g b : Int) (a : Option Addr) (n c : Nat) (s : InC (Below W.heap.size W)) => Calls.inC s (hF g b a n c s.w)
      clear hF hA hx hy hx1 hy1
      refine wp_region_class (C := Below W.heap.size W) (by kernel_rfl) (by kernel_rfl) (below_drew W) ?_
      have hne : Nonempty (InC (Below W.heap.size W)) := ⟨⟨W, Below.refl _ _⟩⟩
      repeat (go_big_quiet_step ((first | (go_at_call 31; exact hG _ _ _ _ _ _))))
      refine wpQuiet_nil ?_
      rintro _ ⟨s, rfl⟩
      have hfin := hB.trans (s.ok.mono (by omega))
      clear hne hG a0 a1 a2 e0 e1 e2
      go_wp2
      go_ret
      exact ⟨rfl, hfin⟩

end Go.Proofs.Ytjmjopjeggadiaa
