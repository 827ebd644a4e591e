/-
  What At of the document's answer returns: the instruction at a place, up to another one, its words in new memory.
-/
import Derived.WalkSpells
import Derived.BigRegion
import Derived.Deep.RegionLaw
import Derived.Deep.AppendLies
import Derived.Deep.DrawnRows
import Derived.Test.YtckpijgnkkjfkaaProg
import Derived.Test.YtckpijgnkkjfkaaMathF
import Derived.Test.YtckpijgnkkjfkaaRdr
namespace Go.Proofs.Ytckpijgnkkjfkaa
open Go.RowKit

theorem RefAt.info : (Try.prog.info? 23).map (fun i => (i.zero, i.size, i.bytes)) = some (some (.int .u32 0), 1, 4) := by kernel_rfl

theorem own_base {w : World} {B B' e size n : Nat} {v : Value} {xs : List Value} (h : w.ownsRow B e size v n xs) (hb : B' ≤ B) : w.ownsRow B' e size v n xs := by
  refine ⟨h.1, ?_⟩
  rcases h.2 with hn | ⟨g, cap, cur, rfl, hg, rest⟩
  · exact .inl hn
  · exact .inr ⟨g, cap, cur, rfl, Nat.le_trans hb hg, rest⟩

/-- The words from a place up to another one. -/
def midL (zs : List Int) (p k : Nat) : List Int := (zs.drop p).take k
theorem midL_snoc (zs : List Int) (p k : Nat) (h : p + k < zs.length) : midL zs p (k + 1) = midL zs p k ++ [nth zs (p + k)] := by
  unfold midL
  rw [take_snoc _ _ (by rw [List.length_drop]; omega), nth_drop]
theorem midL_len (zs : List Int) (p k : Nat) (h : p + k ≤ zs.length) : (midL zs p k).length = k := by
  unfold midL; rw [List.length_take, List.length_drop]; omega

set_option maxRecDepth 100000 in
set_option maxHeartbeats 2000000 in
theorem refAt_any (a : Option Addr) (n cap : Nat) (zs : List Int) (w : World) (p q : Nat) (ha : View .u32 w a zs) (hl : zs.length = n) (hw : Within 4294967296 zs) (hn : 4 * n ≤ 140737488351232) (hp : p < q) (hq : q ≤ n) :
    Calls Try.prog 24 #[.slice a n cap, .int .i64 p, .int .i64 q] w fun e w' => ∃ ax cx, e = .returned (.agg #[.int .u16 (opI zs p), .slice ax (q - p - 1) cx]) ∧
      w'.ownsRow w.heap.size 23 1 (.slice ax (q - p - 1) cx) (q - p - 1) ((midL zs (p + 1) (q - p - 1)).map (Value.int .u32)) ∧ Below w.heap.size w w' := by
  obtain ⟨i0, hi, hz0, hz1, hz2⟩ := info_parts RefAt.info
  have HL : Hid (zs.length = n) := hl
  obtain ⟨b, off, rfl, hbs, hc⟩ := ha p (by omega)
  have hx := hw.at (k := p) (by omega)
  have HO : Hid (opI zs p = nth zs p % 65536) := rfl
  generalize nth zs p = x at hc hx HO
  have hx0 := hx.1
  have hx1 := hx.2
  have hpi : (p : Int) < (n : Int) := by omega
  clear hl hw hx
  go_enter Try.func24, Try.ntmps24
  go_wp2
  go_loopw [8] (fun i wr => ∃ (k : Nat) (v : Value), p + 1 + k ≤ q ∧ i = .int .i64 ((p + 1 + k : Nat) : Int) ∧ wr.heap[w.heap.size + 1]? = some (.cells #[.int .u16 (x % 65536), v] 51 (0, 0)) ∧ wr.heap[w.heap.size]? = some (.cells #[.int .u16 0, .slice none 0 0] 51 (0, 0)) ∧
      wr.ownsRow (w.heap.size + 2) 23 1 v k ((midL zs (p + 1) k).map (Value.int .u32)) ∧ Below w.heap.size w wr)
    (fun i _ => q - (intOf i).toNat)
  case atStart =>
    refine ⟨0, .slice none 0 0, by omega, by go_num, ?_, ?_, World.ownsRow_nil _ _ _ _, ((Below.refl _ _).alloc (Nat.le_refl _) _).alloc (by simp) _⟩
    · have := heap_alloc_new (w.alloc (.cells #[.int .u16 0, .slice none 0 0] 51)) (.cells #[.int .u16 (x % 65536), .slice none 0 0] 51)
      simpa using this
    · rw [Below.heap_alloc _ _ _ (by simp)]
      exact heap_alloc_new w _
  case round =>
    obtain ⟨k, v, hkq, rfl, hbox, hres, hown, hnx⟩ := hrel
    have hsz := hnx.size
    have hlt1 : w.heap.size + 1 < wr.heap.size := (Array.getElem?_eq_some_iff.1 hbox).1
    by_cases hlt : p + 1 + k < q
    · obtain ⟨b2, off2, e2, hbs2, hc2⟩ := ha (p + 1 + k) (by rw [HL.out]; omega)
      simp at e2
      obtain ⟨rfl, rfl⟩ := e2
      have HM : Hid (midL zs (p + 1) (k + 1) = midL zs (p + 1) k ++ [nth zs (p + 1 + k)]) := midL_snoc zs (p + 1) k (by rw [HL.out]; omega)
      have hcr : wr.cell? ⟨b, off + (p + 1 + k), none⟩ = some (.int .u32 (nth zs (p + 1 + k))) := (hnx.cell (p := ⟨b, off + (p + 1 + k), none⟩) hbs).trans hc2
      generalize nth zs (p + 1 + k) = y at hcr HM hc2
      obtain ⟨c0, c1, f1⟩ := cell_of_two hbox
      obtain ⟨ax, cx, hv⟩ : ∃ a c, v = .slice a k c := by
        rcases hown.2 with ⟨rfl, rfl⟩ | ⟨g, c, cur, rfl, _⟩
        · exact ⟨none, 0, rfl⟩
        · exact ⟨_, c, rfl⟩
      subst hv
      have hpk : ((p + 1 + k : Nat) : Int) < (q : Int) := by omega
      have hpn : ((p + 1 + k : Nat) : Int) < (n : Int) := by omega
      have hp0 : (0 : Int) ≤ ((p + 1 + k : Nat) : Int) := by omega
      have hob : ∀ j, Value.ownBlock (.slice ax k cx) = some j → w.heap.size + 2 ≤ j := fun j hj => by
        rcases hown.2 with ⟨h1, _⟩ | ⟨g, c, cur, h1, h2, _⟩
        · rw [h1] at hj; simp [Value.ownBlock] at hj
        · rw [h1] at hj; simp [Value.ownBlock] at hj; omega
      clear hc hc2 ha
      have hkn : k < n := by omega
      generalize hj : p + 1 + k = j at hcr hpk hpn hp0 hlt hkq ⊢
      have HJ : Hid (p + 1 + k = j) := hj
      clear hj
      go_wp2
      go_region_law ((refine step_append_lies _ (by rfl) _ _ _ (by rfl) (w.heap.size + 2) 23 i0 (.int .u32 0) 1 4 Try.underlying22 hi hz0 hz1 hz2 rfl (by omega) (.slice ax k cx) k _ (by rfl) ((hown.alloc _).drew) ⟨wr.heap.size, 0, none⟩ 1 1 [.int .u32 y] (by rfl) (by rfl) (World.news_of_block (cs := #[.int .u32 y]) (t := 23) (fr := (0, 0)) (heap_alloc_new wr _)) (by simp [Value.oneCell']) (by omega) (by unfold maxLen; omega) (by omega) (by simp; omega) (wr.heap.size + 1) (by simp) ?_; intro g2 cap2 w1 hown1 hgrow1 hat1 hlt1'; have hbox1 := (hgrow1.block (w.heap.size + 1) (by simp; omega) (fun e => by have := hob _ e.symm; omega)).trans ((Below.heap_alloc wr _ _ hlt1).trans hbox); have hres1 := (hgrow1.block w.heap.size (by simp; omega) (fun e => by have := hob _ e.symm; omega)).trans ((Below.heap_alloc wr _ _ (by omega)).trans hres); obtain ⟨d0, d1, e1⟩ := cell_of_two hbox1))
      all_goals
        go_wp2
        go_roundw
        case rel =>
          refine ⟨k + 1, .slice (some ⟨g2, 0, none⟩) (k + 1) cap2, by have := HJ.out; omega, by have := HJ.out; go_num, two_setCell hbox1 _, ?_, ?_, ?_⟩
          · rw [Below.heap_setCell _ _ _ _ (by simp)]; exact hres1
          · rw [HM.out, List.map_append]
            exact ownsRow_setCell_below hown1 (by simp) _
          · exact (((hnx.alloc hsz _).drew).grown hgrow1 (by simp; omega) (fun k hk => by have := hob k hk; omega)).setCell (by simp) _
        case measure => simp [intOf]; omega
    · have ek : k = q - p - 1 := by omega
      subst ek
      obtain ⟨c0, c1, f1⟩ := cell_of_two hbox
      obtain ⟨r0, r1, fr1⟩ := cell_of_two hres
      have fr0 : wr.frozen? ⟨w.heap.size, 0, none⟩ = false := by simp [World.frozen?, hres]
      obtain ⟨ax, cx, hv⟩ : ∃ a c, v = .slice a (q - p - 1) c := by
        rcases hown.2 with ⟨rfl, h0⟩ | ⟨g, c, cur, rfl, _⟩
        · exact ⟨none, 0, by rw [h0]⟩
        · exact ⟨_, c, rfl⟩
      subst hv
      have hfin : ((wr.setCell ⟨w.heap.size, 0, none⟩ (.int .u16 (x % 65536))).setCell ⟨w.heap.size, 1, none⟩ (.slice ax (q - p - 1) cx)).heap[w.heap.size]? = some (.cells #[.int .u16 (x % 65536), .slice ax (q - p - 1) cx] 51 (0, 0)) := by
        simp [World.setCell, Array.getElem?_modify, hres]
      obtain ⟨z0, z1, _⟩ := cell_of_two hfin
      have HZ0 : Hid (_ = _) := z0
      have HZ1 : Hid (_ = _) := z1
      clear z0 z1 hfin
      go_wp2
      refine bodyPost_ret (v := .agg #[.int .u16 (x % 65536), .slice ax (q - p - 1) cx]) (by simp [results, Try.results24, go_sem, HZ0.out, HZ1.out]) rfl ⟨ax, cx, by rw [HO.out], ?_, ?_⟩
      · exact own_base (ownsRow_setCell_below (ownsRow_setCell_below hown (by simp) _) (by simp) _) (by omega)
      · exact (hnx.setCell (by simp) _).setCell (by simp) _

end Go.Proofs.Ytckpijgnkkjfkaa
