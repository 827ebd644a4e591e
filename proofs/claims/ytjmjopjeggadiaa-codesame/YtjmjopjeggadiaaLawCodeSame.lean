/-
  The law CodeSame answers true, for every two modules.
-/
import Derived.WalkSpells
import Derived.Deep.RegionHeld2
import Derived.Test.YtjmjopjeggadiaaArgInsts
import Derived.Test.YtjmjopjeggadiaaKitCopyModule
import Derived.Test.YtjmjopjeggadiaaCodeSame
namespace Go.Proofs.Ytjmjopjeggadiaa
open Go.RowKit

theorem tellSame : ∃ T : Int → Int → List InstT → Int → Int → List InstT → Bool, ∀ g b l g' b' l', T g b l g' b' l' = true ↔ (g = g' ∧ b = b' ∧ l = l') :=
  ⟨fun g b l g' b' l' => @decide (g = g' ∧ b = b' ∧ l = l') (Classical.propDecidable _), fun g b l g' b' l' => @decide_eq_true_iff (g = g' ∧ b = b' ∧ l = l') (Classical.propDecidable _)⟩

/-- A module's instructions that can be read. -/
def ModV (w : World) (a : Option Addr) (n : Nat) (l : List InstT) : Prop := InstsV w a l ∧ l.length = n ∧ InstsOk l ∧ 40 * n ≤ 140737488351232
theorem ModV.below {w w' : World} {a : Option Addr} {n : Nat} {l : List InstT} (h : ModV w a n l) (hb : Below w.heap.size w w') : ModV w' a n l := ⟨h.1.below hb, h.2⟩

theorem pack3 {w : World} {g T : Nat} {x y z : Value} (h : w.heap[g]? = some (.cells #[x, y, z] T (0, 0))) : w.cell? ⟨g, 0, none⟩ = some x ∧ w.cell? ⟨g, 1, none⟩ = some y ∧ w.cell? ⟨g, 2, none⟩ = some z := by
  obtain ⟨hc, _⟩ := block_cells h
  exact ⟨hc 0, hc 1, hc 2⟩

theorem grow {W w w' : World} (h : Below W.heap.size W w) (hb : Below w.heap.size w w') : Below W.heap.size W w' := h.trans (hb.mono h.size)
theorem alloc_at (w : World) (cs : Array Value) (T : Nat) : (w.alloc (.cells cs T)).heap[w.heap.size]? = some (.cells cs T (0, 0)) := heap_alloc_new w _

set_option maxRecDepth 100000 in
set_option maxHeartbeats 2000000 in
theorem codeSame_true (w : World) (ga ba : Int) (aa : Option Addr) (na ca : Nat) (la : List InstT) (hla : la.length = na) (hva : InstsV w aa la) (hoka : InstsOk la) (hna : 40 * na ≤ 140737488351232) (_ : na ≤ ca) (_ : 0 ≤ ga ∧ ga < 4294967296 ∧ 0 ≤ ba ∧ ba < 4294967296)
    (gb bb : Int) (ab : Option Addr) (nb cb : Nat) (lb : List InstT) (hlb : lb.length = nb) (hvb : InstsV w ab lb) (hokb : InstsOk lb) (hnb : 40 * nb ≤ 140737488351232) (_ : nb ≤ cb) (_ : 0 ≤ gb ∧ gb < 4294967296 ∧ 0 ≤ bb ∧ bb < 4294967296) :
    Calls Try.prog 5 #[modV ga ba aa na ca, modV gb bb ab nb cb] w fun e w' => e = .returned (.bool true) ∧ Below w.heap.size w w' := by
  obtain ⟨T, hT⟩ := tellSame
  have hself : ∀ g b l, T g b l g b l = true := fun g b l => (hT _ _ _ _ _ _).2 ⟨rfl, rfl, rfl⟩
  have hcomm : T gb bb lb ga ba la = T ga ba la gb bb lb := by
    rw [Bool.eq_iff_iff, hT, hT]; constructor <;> (rintro ⟨h1, h2, h3⟩; exact ⟨h1.symm, h2.symm, h3.symm⟩)
  have hC1 := fun (g b : Int) (a : Option Addr) (n c : Nat) (l : List InstT) wx (h : ModV wx a n l) => copyModule_any g b a n c l wx h.1 h.2.2.1 h.2.1 h.2.2.2
  have hM := fun (g b g' b' : Int) (a a' : Option Addr) (n n' c c' : Nat) (l l' : List InstT) wx (h : ModV wx a n l) (h' : ModV wx a' n' l') => kitModule_any g b g' b' l l' a a' n n' c c' wx h.1 h'.1 h.2.1 h'.2.1 h.2.2.1 h'.2.2.1 (by have := h.2.2.2; omega) (by have := h'.2.2.2; omega) (T g b l g' b' l') (hT _ _ _ _ _ _)
  have hS := fun (g b g' b' : Int) (a a' : Option Addr) (n n' c c' : Nat) (l l' : List InstT) wx (h : ModV wx a n l) (h' : ModV wx a' n' l') => same_any g b g' b' l l' a a' n n' c c' wx h.1 h'.1 h.2.1 h'.2.1 h.2.2.1 h'.2.2.1 (by have := h.2.2.2; omega) (by have := h'.2.2.2; omega) (T g b l g' b' l') (hT _ _ _ _ _ _)
  have ma : ModV w aa na la := ⟨hva, hla, hoka, hna⟩
  have mb : ModV w ab nb lb := ⟨hvb, hlb, hokb, hnb⟩
  have hca : ∀ wx g, InstsV wx (some ⟨g, 0, none⟩) la → ModV wx (some ⟨g, 0, none⟩) na la := fun wx g h => ⟨h, hla, hoka, hna⟩
  have hcb : ∀ wx g, InstsV wx (some ⟨g, 0, none⟩) lb → ModV wx (some ⟨g, 0, none⟩) nb lb := fun wx g h => ⟨h, hlb, hokb, hnb⟩
  clear hoka hokb hla hlb hva hvb hT
  unfold modV at *
  go_enter Try.func5, Try.ntmps5
  go_wp2_with fail
  have hB := two_boxes w (.cells #[.int .u32 ga, .int .u32 ba, .slice aa na ca] 44) (.cells #[.int .u32 gb, .int .u32 bb, .slice ab nb cb] 44)
  have k0 : ((w.alloc (.cells #[.int .u32 ga, .int .u32 ba, .slice aa na ca] 44)).alloc (.cells #[.int .u32 gb, .int .u32 bb, .slice ab nb cb] 44)).heap[w.heap.size]? = some (.cells #[.int .u32 ga, .int .u32 ba, .slice aa na ca] 44 (0, 0)) := (Below.heap_alloc _ _ _ (by simp)).trans (heap_alloc_new w _)
  have k1 : ((w.alloc (.cells #[.int .u32 ga, .int .u32 ba, .slice aa na ca] 44)).alloc (.cells #[.int .u32 gb, .int .u32 bb, .slice ab nb cb] 44)).heap[w.heap.size + 1]? = some (.cells #[.int .u32 gb, .int .u32 bb, .slice ab nb cb] 44 (0, 0)) := by simpa using heap_alloc_new (w.alloc (.cells #[.int .u32 ga, .int .u32 ba, .slice aa na ca] 44)) (.cells #[.int .u32 gb, .int .u32 bb, .slice ab nb cb] 44)
  generalize (w.alloc (.cells #[.int .u32 ga, .int .u32 ba, .slice aa na ca] 44)).alloc (.cells #[.int .u32 gb, .int .u32 bb, .slice ab nb cb] 44) = W at *
  have l0 := (Array.getElem?_eq_some_iff.1 k1).1
  have va := ma.below hB
  have vb := mb.below hB
  refine (hC1 _ _ _ _ _ _ W va).mono ?_
  rintro e w1 ⟨g1, rfl, hg1, v1, hb1⟩
  have s1 := hb1.size
  have hW2 : Below w1.heap.size w1 (w1.alloc (.cells #[.int .u32 ga, .int .u32 ba, .slice (some ⟨g1, 0, none⟩) na na] 44)) := (Below.refl _ _).alloc (Nat.le_refl _) _
  obtain ⟨c0, c1, c2⟩ := pack3 ((hW2.block _ (by omega)).trans ((hb1.block _ l0).trans k1))
  go_wp2_with fail
  have k2 := alloc_at w1 #[.int .u32 ga, .int .u32 ba, .slice (some ⟨g1, 0, none⟩) na na] 44
  have hbW := hb1.trans (hW2.mono s1)
  have z2 : w1.heap.size < (w1.alloc (.cells #[.int .u32 ga, .int .u32 ba, .slice (some ⟨g1, 0, none⟩) na na] 44)).heap.size := by simp
  have v1' := v1.below hW2
  clear c0 c1 c2 v1 hb1 hW2
  generalize w1.alloc (.cells #[.int .u32 ga, .int .u32 ba, .slice (some ⟨g1, 0, none⟩) na na] 44) = W2 at *
  have s2 := hbW.size
  refine (hC1 _ _ _ _ _ _ W2 (vb.below hbW)).mono ?_
  rintro e w3 ⟨g2, rfl, hg2, v2, hb3⟩
  have s3 := hb3.size
  have hW4 : Below w3.heap.size w3 (w3.alloc (.cells #[.int .u32 gb, .int .u32 bb, .slice (some ⟨g2, 0, none⟩) nb nb] 44)) := (Below.refl _ _).alloc (Nat.le_refl _) _
  have k4 := alloc_at w3 #[.int .u32 gb, .int .u32 bb, .slice (some ⟨g2, 0, none⟩) nb nb] 44
  go_wp2_with fail
  have hbW4 := hb3.trans (hW4.mono s3)
  have z4 : w3.heap.size < (w3.alloc (.cells #[.int .u32 gb, .int .u32 bb, .slice (some ⟨g2, 0, none⟩) nb nb] 44)).heap.size := by simp
  have m1 := hca _ _ (v1'.below hbW4)
  have m2 := hcb _ _ (v2.below hW4)
  have k0' := (hbW4.block _ (by omega)).trans ((hbW.block _ (by omega)).trans k0)
  have k1' := (hbW4.block _ (by omega)).trans ((hbW.block _ l0).trans k1)
  have k2' := (hbW4.block _ z2).trans k2
  have hb4 := hB.trans ((hbW.trans (hbW4.mono s2)).mono (by omega))
  clear k0 k1 k2 hb3 hW4 v2 v1' hbW hB
  generalize w3.alloc (.cells #[.int .u32 gb, .int .u32 bb, .slice (some ⟨g2, 0, none⟩) nb nb] 44) = W4 at *
  have s4 := hbW4.size
  have vA := ma.below hb4
  have vB := mb.below hb4
  have L0 : w.heap.size < W4.heap.size := by omega
  have L1 : w.heap.size + 1 < W4.heap.size := by omega
  have L2 : w1.heap.size < W4.heap.size := by omega
  have mA := fun wx (h : Below W4.heap.size W4 wx) => vA.below h
  have mB := fun wx (h : Below W4.heap.size W4 wx) => vB.below h
  have mC := fun wx (h : Below W4.heap.size W4 wx) => m1.below h
  have mD := fun wx (h : Below W4.heap.size W4 wx) => m2.below h
  have hK : ∀ wx, Below W4.heap.size W4 wx → (wx.cell? ⟨w.heap.size, 0, none⟩ = some (.int .u32 ga) ∧ wx.cell? ⟨w.heap.size, 1, none⟩ = some (.int .u32 ba) ∧ wx.cell? ⟨w.heap.size, 2, none⟩ = some (.slice aa na ca)) ∧ (wx.cell? ⟨w.heap.size + 1, 0, none⟩ = some (.int .u32 gb) ∧ wx.cell? ⟨w.heap.size + 1, 1, none⟩ = some (.int .u32 bb) ∧ wx.cell? ⟨w.heap.size + 1, 2, none⟩ = some (.slice ab nb cb)) ∧ (wx.cell? ⟨w1.heap.size, 0, none⟩ = some (.int .u32 ga) ∧ wx.cell? ⟨w1.heap.size, 1, none⟩ = some (.int .u32 ba) ∧ wx.cell? ⟨w1.heap.size, 2, none⟩ = some (.slice (some ⟨g1, 0, none⟩) na na)) ∧ (wx.cell? ⟨w3.heap.size, 0, none⟩ = some (.int .u32 gb) ∧ wx.cell? ⟨w3.heap.size, 1, none⟩ = some (.int .u32 bb) ∧ wx.cell? ⟨w3.heap.size, 2, none⟩ = some (.slice (some ⟨g2, 0, none⟩) nb nb)) :=
    fun wx h => ⟨pack3 ((h.block _ L0).trans k0'), pack3 ((h.block _ L1).trans k1'), pack3 ((h.block _ L2).trans k2'), pack3 ((h.block _ z4).trans k4)⟩
  have hfin := fun wx (h : Below W4.heap.size W4 wx) => hb4.trans (h.mono (by omega))
  clear k0' k1' k2' k4 m1 m2 vA vB va vb ma mb hcb hbW4 hb4
  have hd := below_drew W4
  go_region_held2 (fun wx => Below W4.heap.size W4 wx ∧ (wx.cell? ⟨w.heap.size, 0, none⟩ = some (.int .u32 ga) ∧ wx.cell? ⟨w.heap.size, 1, none⟩ = some (.int .u32 ba) ∧ wx.cell? ⟨w.heap.size, 2, none⟩ = some (.slice aa na ca)) ∧ (wx.cell? ⟨w.heap.size + 1, 0, none⟩ = some (.int .u32 gb) ∧ wx.cell? ⟨w.heap.size + 1, 1, none⟩ = some (.int .u32 bb) ∧ wx.cell? ⟨w.heap.size + 1, 2, none⟩ = some (.slice ab nb cb)) ∧ (wx.cell? ⟨w1.heap.size, 0, none⟩ = some (.int .u32 ga) ∧ wx.cell? ⟨w1.heap.size, 1, none⟩ = some (.int .u32 ba) ∧ wx.cell? ⟨w1.heap.size, 2, none⟩ = some (.slice (some ⟨g1, 0, none⟩) na na)) ∧ (wx.cell? ⟨w3.heap.size, 0, none⟩ = some (.int .u32 gb) ∧ wx.cell? ⟨w3.heap.size, 1, none⟩ = some (.int .u32 bb) ∧ wx.cell? ⟨w3.heap.size, 2, none⟩ = some (.slice (some ⟨g2, 0, none⟩) nb nb)))
    (exact ⟨by assumption, hK _ (by assumption)⟩)
    (first
      | (go_at_call 17; refine (hS _ _ _ _ _ _ _ _ _ _ _ _ _ (by first | exact mC _ (by assumption) | exact mD _ (by assumption)) (by first | assumption | exact mD _ (by assumption) | exact mC _ (by assumption))).mono ?_; rintro e w' ⟨rfl, hbx⟩; have hby := grow (by assumption) hbx; clear hbx)
      | (go_at_call 18; refine (hM _ _ _ _ _ _ _ _ _ _ _ _ _ (by first | exact mA _ (by assumption) | exact mC _ (by assumption) | exact mD _ (by assumption)) (by first | exact mA _ (by assumption) | exact mB _ (by assumption))).mono ?_; rintro e w' ⟨rfl, hbx⟩; have hby := grow (by assumption) hbx; clear hbx)
      | (go_at_call 16; refine (hC1 _ _ _ _ _ _ _ (by first | exact mA _ (by assumption))).mono ?_; rintro e w' ⟨g', rfl, _, hv', hbx⟩; have hby := grow (by assumption) hbx; have mE := hca _ _ hv'; clear hbx hv'))
  go_wp2
  go_ret
  exact ⟨rfl, hfin _ (by assumption)⟩

end Go.Proofs.Ytjmjopjeggadiaa
