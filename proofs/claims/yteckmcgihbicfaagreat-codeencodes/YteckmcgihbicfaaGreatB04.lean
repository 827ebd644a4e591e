/-
  Texts laid together in one: Ref02Write, Ref02Find, KitWords, Law02Raws, KitSpoilWords, Law02Apart, Frame, Iter.
-/
import Derived.WalkSpells
import Derived.BigRegion
import Derived.Deep.RegionLaw
import Derived.Deep.AppendLies
import Derived.Deep.DrawnRows
import Derived.Test.YteckmcgihbicfaaGreatB02
import Derived.Test.YteckmcgihbicfaaGreatB03
import Derived.Deep.QuietTactic
import Derived.BigQuiet
import Derived.Test.YteckmcgihbicfaaGreatProg
import Derived.Test.YteckmcgihbicfaaGreatB01
import Derived.RangeFuncNested
import Derived.RangeFuncLeaves
import Derived.RangeFuncBound
/-
  What Write of the document's answer returns, for every head and every list of instructions: its error and its place, or the words, in new memory.
-/
namespace Go.Proofs.YteckmcgihbicfaaGreat
open Go.RowKit

theorem RefWrite.info : (Tryz.prog.info? 23).map (fun i => (i.zero, i.size, i.bytes)) = some (some (.int .u32 0), 1, 4) := by kernel_rfl

/-- An instruction's words. -/
def rawW (r : Int × List Int) : List Int := (((r.2.length : Int) + 1) * 65536 + r.1) :: r.2
/-- The words of the head and of the first k instructions. -/
def writeTo (gen bound : Int) (rs : List (Int × List Int)) (k : Nat) : List Int := [119734787, 65536, gen, bound, 0] ++ (rs.take k).flatMap rawW

theorem writeTo_succ (gen bound : Int) (rs : List (Int × List Int)) (k : Nat) (h : k < rs.length) : writeTo gen bound rs (k + 1) = writeTo gen bound rs k ++ rawW (nthR rs k) := by
  have e : rs.take (k + 1) = rs.take k ++ [nthR rs k] := by
    rw [List.take_succ_eq_append_getElem h]; simp [nthR, List.getD, h]
  rw [writeTo, e, List.flatMap_append, ← List.append_assoc]; simp [writeTo]
theorem writeTo_len (gen bound : Int) (rs : List (Int × List Int)) : ∀ k, k ≤ rs.length → (writeTo gen bound rs k).length = sizeTo rs k
  | 0, _ => rfl
  | k + 1, h => by
    rw [writeTo_succ gen bound rs k (by omega), List.length_append, writeTo_len gen bound rs k (by omega), sizeTo_succ rs k (by omega)]
    simp [rawW]; omega

theorem refWrite_bound (gen bound : Int) (a : Option Addr) (n cap : Nat) (w : World) (hb0 : 0 ≤ bound) (hb : bound = 0 ∨ 65536 < bound) :
    Calls Tryz.prog 62 #[.agg #[.int .u32 gen, .int .u32 bound], .slice a n cap] w fun e w' => e = .returned (.tuple #[.slice none 0 0, .agg #[.int .i64 24, .int .i64 0]]) ∧ Below w.heap.size w w' := by
  by_cases h0 : bound = 0
  · subst h0
    go_enter Tryz.func62, Tryz.ntmps62
    go_wp2
    exact bodyPost_ret (v := .tuple #[.slice none 0 0, .agg #[.int .i64 24, .int .i64 0]]) (by simp [results, Tryz.results62, go_sem]) rfl ⟨rfl, ((Below.refl _ _).alloc (Nat.le_refl _) _).alloc (by simp) _⟩
  · have b0 : (bound == 0) = false := by simpa using h0
    have b1 : decide (65536 < bound) = true := decide_eq_true (by omega)
    clear h0 hb
    go_enter Tryz.func62, Tryz.ntmps62
    go_wp2
    exact bodyPost_ret (v := .tuple #[.slice none 0 0, .agg #[.int .i64 24, .int .i64 0]]) (by simp [results, Tryz.results62, go_sem]) rfl ⟨rfl, ((Below.refl _ _).alloc (Nat.le_refl _) _).alloc (by simp) _⟩

set_option maxRecDepth 100000 in
set_option maxHeartbeats 4000000 in
theorem refWrite_ok (gen bound : Int) (a : Option Addr) (n cap : Nat) (rs : List (Int × List Int)) (w : World) (hb1 : ¬ bound = 0) (hb2 : ¬ 65536 < bound) (ha : RawsV w a rs) (hok : RawsOk rs) (hl : rs.length = n) (hn : 32 * n ≤ 140737488351232) (hz : (fault rs 0).1 = 0) :
    Calls Tryz.prog 62 #[.agg #[.int .u32 gen, .int .u32 bound], .slice a n cap] w fun e w' => ∃ ax cx m, e = .returned (.tuple #[.slice ax m cx, .agg #[.int .i64 0, .int .i64 0]]) ∧ (writeTo gen bound rs n).length = m ∧
      w'.ownsRow w.heap.size 23 1 (.slice ax m cx) m ((writeTo gen bound rs n).map (Value.int .u32)) ∧ Below w.heap.size w w' := by
  obtain ⟨i0, hi, hz0, hz1, hz2⟩ := info_parts RefWrite.info
  have HL : Hid (rs.length = n) := hl
  have HN : Hid (∀ k, k ≤ n → sizeTo rs k ≤ 1048576 ∧ ∀ j, j < k → (nthR rs j).2.length < 65535) := by
    have := fault_none rs hz
    rw [hl] at this
    exact this
  have HWL : Hid (∀ k, k ≤ n → (writeTo gen bound rs k).length = sizeTo rs k) := fun k hk => writeTo_len gen bound rs k (by omega)
  have HWS : Hid (∀ k, k < n → writeTo gen bound rs (k + 1) = writeTo gen bound rs k ++ rawW (nthR rs k)) := fun k hk => writeTo_succ gen bound rs k (by omega)
  have hF := fun wx (hb : Below w.heap.size w wx) => refFault_any a n cap rs wx (ha.below hb) hl hn
  rw [hz] at hF
  generalize (fault rs 0).2 = at_ at hF
  have b0 : (bound == 0) = false := by simpa using hb1
  have b1 : decide (65536 < bound) = false := decide_eq_false hb2
  clear hl hz hb1 hb2
  go_enter Tryz.func62, Tryz.ntmps62
  go_wp2_with fail
  refine (hF _ (((Below.refl _ w).alloc (Nat.le_refl _) (.cells #[.int .u32 gen, .int .u32 bound] 59)).alloc (by simp) (.cells #[.int .i64 0, .int .i64 0] 29))).mono ?_
  rintro e w1 ⟨rfl, hbF⟩
  have hres1 : w1.heap[w.heap.size + 1]? = some (.cells #[.int .i64 0, .int .i64 0] 29 (0, 0)) := by
    rw [hbF.block _ (by simp)]
    have := heap_alloc_new (w.alloc (.cells #[.int .u32 gen, .int .u32 bound] 59)) (.cells #[.int .i64 0, .int .i64 0] 29)
    simpa using this
  have hbox1 : w1.heap[w.heap.size]? = some (.cells #[.int .u32 gen, .int .u32 bound] 59 (0, 0)) := by
    rw [hbF.block _ (by simp; omega), Below.heap_alloc _ _ _ (by simp)]
    exact heap_alloc_new w _
  have s1 : w.heap.size + 2 ≤ w1.heap.size := by have := hbF.size; simp at this; omega
  have hbw1 : Below w.heap.size w w1 := (((Below.refl _ w).alloc (Nat.le_refl _) _).alloc (by simp) _).trans (hbF.mono (by simp; omega))
  obtain ⟨c0, c1, _⟩ := cell_of_two ((Below.heap_alloc w1 (.cells #[.int .i64 0, .int .i64 at_] 29) _ (by omega)).trans hbox1)
  clear hF hbF hbox1
  go_wp2_with (at_builtin; refine wpList_append_lies _ rfl (.tmp 25) (.tmp 30) 46 rfl (w.heap.size + 2) 23 i0 (.int .u32 0) 1 4 Tryz.underlying46 hi hz0 hz1 hz2 rfl (by omega) (.slice none 0 0) 0 [] rfl (World.ownsRow_nil _ _ _ _) ⟨w1.heap.size + 1, 0, none⟩ 5 5 [.int .u32 119734787, .int .u32 65536, .int .u32 gen, .int .u32 bound, .int .u32 0] rfl rfl (World.news_of_block (cs := #[.int .u32 119734787, .int .u32 65536, .int .u32 gen, .int .u32 bound, .int .u32 0]) (t := 23) (fr := (0, 0)) (by simpa using heap_alloc_new (w1.alloc (.cells #[.int .i64 0, .int .i64 at_] 29)) (.cells #[.int .u32 119734787, .int .u32 65536, .int .u32 gen, .int .u32 bound, .int .u32 0] 23))) (by simp [Value.oneCell']) (by omega) (by unfold maxLen; omega) (by omega) (by simp; omega) (w1.heap.size + 2) (by simp) ?_)
  intro g2 cap2 w2 hown2 hgrow2 hat2 hlt2
  have hres2 : w2.heap[w.heap.size + 1]? = some (.cells #[.int .i64 0, .int .i64 0] 29 (0, 0)) := (hgrow2.block (w.heap.size + 1) (by simp; omega) (by simp [Value.ownBlock])).trans (((Below.heap_alloc _ _ _ (by simp; omega)).trans (Below.heap_alloc w1 _ _ (by omega))).trans hres1)
  have hbw2 : Below w.heap.size w w2 := ((hbw1.alloc (by omega) _).alloc (by simp; omega) _).grown hgrow2 (by simp; omega) (by simp [Value.ownBlock])
  clear hgrow2 hat2 hbw1 hres1 c0 c1
  have HN5 : Hid (5 = (writeTo gen bound rs 0).length) := rfl
  go_wp2
  go_loopw [7, 8] (fun v i wr => ∃ (k : Nat), k ≤ n ∧ i = .int .i64 k ∧ wr.ownsRow (w.heap.size + 2) 23 1 v (sizeTo rs k) ((writeTo gen bound rs k).map (Value.int .u32)) ∧
      wr.heap[w.heap.size + 1]? = some (.cells #[.int .i64 0, .int .i64 0] 29 (0, 0)) ∧ Below w.heap.size w wr)
    (fun _ i _ => n - (intOf i).toNat)
  case atStart => exact ⟨0, Nat.zero_le _, rfl, by simpa [writeTo, sizeTo] using hown2, hres2, hbw2⟩
  case round =>
    obtain ⟨k, hk, rfl, hown, hres, hnx⟩ := hrel
    obtain ⟨ax, cx, rfl⟩ := own_shape hown
    clear hown2 hres2 hbw2
    have hsz := hnx.size
    have hlt1 : w.heap.size + 1 < wr.heap.size := (Array.getElem?_eq_some_iff.1 hres).1
    have hob : ∀ j, Value.ownBlock (.slice ax (sizeTo rs k) cx) = some j → w.heap.size + 2 ≤ j := fun j hj => by
      rcases hown.2 with ⟨h1, _⟩ | ⟨g, c, cur, h1, h2, _⟩
      · rw [h1] at hj; simp [Value.ownBlock] at hj
      · rw [h1] at hj; simp [Value.ownBlock] at hj; omega
    by_cases hlt : k < n
    · obtain ⟨b, off, aj, cj, nj, rfl, hbs, p1, p2, p3, p4, _⟩ := ha k (by rw [HL.out]; exact hlt)
      obtain ⟨o1, o2, _, _⟩ := hok k (by rw [HL.out]; exact hlt)
      have HS : Hid (sizeTo rs (k + 1) = sizeTo rs k + 1 + nj) := by show _ = _; rw [sizeTo_succ rs k (by rw [HL.out]; exact hlt), p3]
      have h1 := (HN.out k hk).1
      have h2 := (HN.out (k + 1) hlt).1
      have h3 := (HN.out (k + 1) hlt).2 k (by omega)
      rw [HS.out] at h2
      rw [p3] at h3
      have HWK : Hid (writeTo gen bound rs (k + 1) = writeTo gen bound rs k ++ ((((nj : Int) + 1) * 65536 + (nthR rs k).1) :: (nthR rs k).2)) := by
        show _ = _; rw [HWS.out k hlt, rawW, p3]
      have HP3 : Hid ((nthR rs k).2.length = nj) := p3
      have q1 := (hnx.cell (p := ⟨b, off + k * 2, none⟩) hbs).trans p1
      have q2 := (hnx.cell (p := ⟨b, off + k * 2 + 1, none⟩) hbs).trans p2
      have hki : (k : Int) < (n : Int) := by omega
      have hk0 : (0 : Int) ≤ (k : Int) := by omega
      have HP2 : Hid (w.cell? ⟨b, off + k * 2 + 1, none⟩ = some (.slice aj nj cj)) := p2
      clear p1 p2 p3
      generalize hs : sizeTo rs k = s at *
      generalize writeTo gen bound rs k = ws at *
      generalize (nthR rs k).1 = op at *
      generalize (nthR rs k).2 = ms at *
      clear hs
      have hy : (IntKind.u32.wrap (IntKind.u32.wrap (IntKind.u32.wrap (IntKind.i64.wrap ((nj : Int) + 1)) * 65536) + IntKind.u32.wrap op)) = ((nj : Int) + 1) * 65536 + op := by
        have a1 : IntKind.i64.wrap ((nj : Int) + 1) = (nj : Int) + 1 := by rw [IntKind.wrap_i64]; omega
        have a2 : IntKind.u32.wrap ((nj : Int) + 1) = (nj : Int) + 1 := by rw [IntKind.wrap_u32']; omega
        have a3 : IntKind.u32.wrap (((nj : Int) + 1) * 65536) = ((nj : Int) + 1) * 65536 := by rw [IntKind.wrap_u32']; omega
        have a4 : IntKind.u32.wrap op = op := by rw [IntKind.wrap_u32']; omega
        rw [a1, a2, a3, a4, IntKind.wrap_u32']; omega
      have HY : Hid _ := hy
      clear hy
      go_wp2
      go_region_law ((refine step_append_lies _ (by rfl) _ _ _ (by rfl) (w.heap.size + 2) 23 i0 (.int .u32 0) 1 4 Tryz.underlying46 hi hz0 hz1 hz2 rfl (by omega) (.slice ax s cx) s _ (by rfl) ((hown.alloc _).drew) ⟨wr.heap.size, 0, none⟩ 1 1 [.int .u32 (IntKind.u32.wrap (IntKind.u32.wrap (IntKind.u32.wrap (IntKind.i64.wrap ((nj : Int) + 1)) * 65536) + IntKind.u32.wrap op))] (by rfl) (by rfl) (World.news_of_block (cs := #[.int .u32 (IntKind.u32.wrap (IntKind.u32.wrap (IntKind.u32.wrap (IntKind.i64.wrap ((nj : Int) + 1)) * 65536) + IntKind.u32.wrap op))]) (t := 23) (fr := (0, 0)) (heap_alloc_new wr _)) (by simp [Value.oneCell']) (by omega) (by unfold maxLen; omega) (by omega) (by simp; omega) (wr.heap.size + 1) (by simp) ?_; intro g3 cap3 w3 hown3 hgrow3 hat3 hlt3))
      all_goals
        rw [HY.out] at hown3
        have hres3 := (hgrow3.block (w.heap.size + 1) (by simp; omega) (fun e => by have := hob _ e.symm; omega)).trans ((Below.heap_alloc wr _ _ hlt1).trans hres)
        have hbw3 : Below w.heap.size w w3 := ((hnx.alloc hsz _).drew).grown hgrow3 (by simp; omega) (fun k hk => by have := hob k hk; omega)
        clear hgrow3 hat3
        go_wp2
        go_loopw [7, 9] (fun v i wx => ∃ (t : Nat), t ≤ nj ∧ i = .int .i64 t ∧ wx.ownsRow (w.heap.size + 2) 23 1 v (s + 1 + t) ((ws ++ (((nj : Int) + 1) * 65536 + op) :: ms.take t).map (Value.int .u32)) ∧
            wx.heap[w.heap.size + 1]? = some (.cells #[.int .i64 0, .int .i64 0] 29 (0, 0)) ∧ Below w.heap.size w wx)
          (fun _ i _ => nj - (intOf i).toNat)
        case atStart => exact ⟨0, Nat.zero_le _, rfl, by simpa using hown3, hres3, hbw3⟩
        case round =>
          obtain ⟨t, ht, rfl, hownx, hresx, hnxx⟩ := hrel
          obtain ⟨ay, cy, rfl⟩ := own_shape hownx
          have hszx := hnxx.size
          have r2 := (hnxx.cell (p := ⟨b, off + k * 2 + 1, none⟩) hbs).trans HP2.out
          have hobx : ∀ j, Value.ownBlock (.slice ay (s + 1 + t) cy) = some j → w.heap.size + 2 ≤ j := fun j hj => by
            rcases hownx.2 with ⟨h1, _⟩ | ⟨g, c, cur, h1, h2, _⟩
            · rw [h1] at hj; simp [Value.ownBlock] at hj
            · rw [h1] at hj; simp [Value.ownBlock] at hj; omega
          have hltx : w.heap.size + 1 < wr.heap.size := (Array.getElem?_eq_some_iff.1 hresx).1
          clear hown3 hres3 hbw3 hown hres hnx q1 q2 hob
          by_cases htl : t < nj
          · obtain ⟨b5, off5, rfl, hbs5, c5⟩ := p4 t (by rw [HP3.out]; exact htl)
            have r5 := (hnxx.cell (p := ⟨b5, off5 + t, none⟩) hbs5).trans c5
            have hti : (t : Int) < (nj : Int) := by omega
            have ht0 : (0 : Int) ≤ (t : Int) := by omega
            have HM : Hid (ms.take (t + 1) = ms.take t ++ [nth ms t]) := by
              show _ = _
              rw [List.take_succ_eq_append_getElem (by rw [HP3.out]; exact htl)]
              have : t < ms.length := by rw [HP3.out]; exact htl
              simp [nth, List.getD, this]
            generalize nth ms t = y at r5 c5 HM
            clear c5
            go_wp2_with (at_builtin; refine wpList_append_lies _ rfl (.tmp 67) (.tmp 76) 46 rfl (w.heap.size + 2) 23 i0 (.int .u32 0) 1 4 Tryz.underlying46 hi hz0 hz1 hz2 rfl (by omega) (.slice ay (s + 1 + t) cy) (s + 1 + t) _ rfl (hownx.alloc _) ⟨wr.heap.size, 0, none⟩ 1 1 [.int .u32 y] rfl rfl (World.news_of_block (cs := #[.int .u32 y]) (t := 23) (fr := (0, 0)) (heap_alloc_new wr _)) (by simp [Value.oneCell']) (by omega) (by unfold maxLen; omega) (by omega) (by simp; omega) (wr.heap.size + 1) (by simp) ?_)
            intro g4 cap4 w4 hown4 hgrow4 hat4 hlt4
            have hres4 := (hgrow4.block (w.heap.size + 1) (by simp; omega) (fun e => by have := hobx _ e.symm; omega)).trans ((Below.heap_alloc wr _ _ hltx).trans hresx)
            have hbw4 : Below w.heap.size w w4 := (hnxx.alloc hszx _).grown hgrow4 (by simp; omega) (fun k hk => by have := hobx k hk; omega)
            clear hgrow4 hat4 hownx
            go_wp2
            go_roundw
            case rel => exact ⟨t + 1, by omega, by go_num, by rw [HM.out, show s + 1 + (t + 1) = s + 1 + t + 1 by omega]; simpa using hown4, hres4, hbw4⟩
            case measure => simp [intOf]; omega
          · obtain rfl : t = nj := by omega
            have HT : Hid (ms.take t = ms) := List.take_of_length_le (by rw [HP3.out]; exact Nat.le_refl _)
            go_wp2
            go_roundw
            case rel => exact ⟨k + 1, by omega, by go_num, by rw [HWK.out, HS.out]; rw [HT.out] at hownx; exact hownx, hresx, hnxx⟩
            case measure => simp [intOf]; omega
    · obtain rfl : k = n := by omega
      obtain ⟨c0, c1, f1⟩ := cell_of_two hres
      have f0 : wr.frozen? ⟨w.heap.size + 1, 0, none⟩ = false := by simp [World.frozen?, hres]
      have hfin : ((wr.setCell ⟨w.heap.size + 1, 0, none⟩ (.int .i64 0)).setCell ⟨w.heap.size + 1, 1, none⟩ (.int .i64 0)).heap[w.heap.size + 1]? = some (.cells #[.int .i64 0, .int .i64 0] 29 (0, 0)) := by
        simp [World.setCell, Array.getElem?_modify, hres]
      obtain ⟨z0, z1, _⟩ := cell_of_two hfin
      have HZ0 : Hid (_ = _) := z0
      have HZ1 : Hid (_ = _) := z1
      clear z0 z1 hfin
      go_wp2
      refine bodyPost_ret (v := .tuple #[.slice ax (sizeTo rs k) cx, .agg #[.int .i64 0, .int .i64 0]]) (by simp [results, Tryz.results62, go_sem, HZ0.out, HZ1.out]) rfl ⟨ax, cx, _, rfl, HWL.out k hk, ?_, ?_⟩
      · exact own_base (ownsRow_setCell_below (ownsRow_setCell_below hown (by simp) _) (by simp) _) (by omega)
      · exact (hnx.setCell (by simp) _).setCell (by simp) _

set_option maxRecDepth 100000 in
set_option maxHeartbeats 4000000 in
theorem refWrite_fault (gen bound : Int) (a : Option Addr) (n cap : Nat) (rs : List (Int × List Int)) (w : World) (hb1 : ¬ bound = 0) (hb2 : ¬ 65536 < bound) (ha : RawsV w a rs) (hl : rs.length = n) (hn : 32 * n ≤ 140737488351232) (hz : ¬ (fault rs 0).1 = 0) :
    Calls Tryz.prog 62 #[.agg #[.int .u32 gen, .int .u32 bound], .slice a n cap] w fun e w' => e = .returned (.tuple #[.slice none 0 0, .agg #[.int .i64 (fault rs 0).1, .int .i64 (fault rs 0).2]]) ∧ Below w.heap.size w w' := by
  have hF := fun wx (hb : Below w.heap.size w wx) => refFault_any a n cap rs wx (ha.below hb) hl hn
  have hzb : ((fault rs 0).1 == 0) = false := by simpa using hz
  clear hz
  generalize (fault rs 0).1 = er at hF hzb ⊢
  generalize (fault rs 0).2 = at_ at hF ⊢
  have b0 : (bound == 0) = false := by simpa using hb1
  have b1 : decide (65536 < bound) = false := decide_eq_false hb2
  clear hl hb1 hb2
  go_enter Tryz.func62, Tryz.ntmps62
  go_wp2_with fail
  refine (hF _ (((Below.refl _ w).alloc (Nat.le_refl _) (.cells #[.int .u32 gen, .int .u32 bound] 59)).alloc (by simp) (.cells #[.int .i64 0, .int .i64 0] 29))).mono ?_
  rintro e w1 ⟨rfl, hbF⟩
  have hres1 : w1.heap[w.heap.size + 1]? = some (.cells #[.int .i64 0, .int .i64 0] 29 (0, 0)) := by
    rw [hbF.block _ (by simp)]
    have := heap_alloc_new (w.alloc (.cells #[.int .u32 gen, .int .u32 bound] 59)) (.cells #[.int .i64 0, .int .i64 0] 29)
    simpa using this
  have s1 : w.heap.size + 2 ≤ w1.heap.size := by have := hbF.size; simp at this; omega
  have hbw1 : Below w.heap.size w w1 := (((Below.refl _ w).alloc (Nat.le_refl _) _).alloc (by simp) _).trans (hbF.mono (by simp; omega))
  have hres2 := (Below.heap_alloc w1 (.cells #[.int .i64 er, .int .i64 at_] 29) _ (by omega)).trans hres1
  have hbw2 := hbw1.alloc (by omega) (.cells #[.int .i64 er, .int .i64 at_] 29)
  obtain ⟨c0, c1, f1⟩ := cell_of_two hres2
  have f0 : (w1.alloc (.cells #[.int .i64 er, .int .i64 at_] 29)).frozen? ⟨w.heap.size + 1, 0, none⟩ = false := by simp [World.frozen?, hres2]
  have hfin : (((w1.alloc (.cells #[.int .i64 er, .int .i64 at_] 29)).setCell ⟨w.heap.size + 1, 0, none⟩ (.int .i64 er)).setCell ⟨w.heap.size + 1, 1, none⟩ (.int .i64 at_)).heap[w.heap.size + 1]? = some (.cells #[.int .i64 er, .int .i64 at_] 29 (0, 0)) := by
    simp only [World.setCell, Array.getElem?_modify, hres2]; simp
  obtain ⟨z0, z1, _⟩ := cell_of_two hfin
  have HZ0 : Hid (_ = _) := z0
  have HZ1 : Hid (_ = _) := z1
  have HB : Hid _ := hbw2
  clear z0 z1 hfin hres1 hres2 hbw1 hbF hF hbw2
  go_wp2
  go_region
  all_goals
    go_wp2
    exact bodyPost_ret (v := .tuple #[.slice none 0 0, .agg #[.int .i64 er, .int .i64 at_]]) (by simp [results, Tryz.results62, go_sem, HZ0.out, HZ1.out]) rfl ⟨rfl, by first | exact ((HB.out.setCell (by simp) _).setCell (by simp) _).drew | exact ((HB.out.drew.setCell (by simp) _).setCell (by simp) _) | exact ((HB.out.setCell (by simp) _).setCell (by simp) _)⟩

end Go.Proofs.YteckmcgihbicfaaGreat

/-
  What Find of the document's answer returns, of at most 1048576 words.
-/
namespace Go.Proofs.YteckmcgihbicfaaGreat
open Go.RowKit
set_option maxRecDepth 10000

theorem find_at (P : Nat → Bool) : ∀ (l : List Nat) (k : Nat), k < l.length → (∀ j, j < k → P (l.getD j 0) = false) → P (l.getD k 0) = true → l.find? P = some (l.getD k 0)
  | [], k, h, _, _ => by simp at h
  | x :: l, 0, _, _, h => by
    have h' : P x = true := h
    simp [h']
  | x :: l, k + 1, h, hb, hk => by
    have h0 : P x = false := hb 0 (by omega)
    have ih := find_at P l k (by simpa using h) (fun j hj => hb (j + 1) (by omega)) hk
    rw [List.find?_cons, h0]
    exact ih
theorem find_none (P : Nat → Bool) (l : List Nat) (h : ∀ j, j < l.length → P (l.getD j 0) = false) : l.find? P = none := by
  rw [List.find?_eq_none]
  intro x hx
  obtain ⟨j, hj, rfl⟩ := List.getElem_of_mem hx
  have := h j hj
  simp [List.getD, hj] at this
  simp [this]

/-- Is it an instruction of this operation, not ahead of that place? -/
def isAt (zs : List Int) (op from_ : Int) (q : Nat) : Bool := decide (from_ ≤ (q : Int)) && (opI zs q == op)
/-- The first one. -/
def findP (zs : List Int) (op from_ : Int) : Option Nat := (rest zs 5).find? (isAt zs op from_)
def findAt (zs : List Int) (op from_ : Int) : Int := match findP zs op from_ with | some q => (q : Int) | none => 0
def findIs (zs : List Int) (op from_ : Int) : Bool := (findP zs op from_).isSome

theorem findAt_some {zs : List Int} {op f : Int} {q : Nat} (h : findP zs op f = some q) : findAt zs op f = q := by unfold findAt; rw [h]
theorem findAt_none {zs : List Int} {op f : Int} (h : findP zs op f = none) : findAt zs op f = 0 := by unfold findAt; rw [h]
theorem findIs_some {zs : List Int} {op f : Int} {q : Nat} (h : findP zs op f = some q) : findIs zs op f = true := by unfold findIs; rw [h]; rfl
theorem findIs_none {zs : List Int} {op f : Int} (h : findP zs op f = none) : findIs zs op f = false := by unfold findIs; rw [h]; rfl

theorem ret_pair {k : IntKind} {a b : Int} {x y : Bool} (h : a = b) (h2 : x = y) : Ending.returned (.tuple #[.int k a, .bool x]) = .returned (.tuple #[.int k b, .bool y]) := by rw [h, h2]

end Go.Proofs.YteckmcgihbicfaaGreat

/-
  Words of the kit answers true of two lists that are the same.
-/
namespace Go.Proofs.YteckmcgihbicfaaGreat
open Go.RowKit
set_option maxRecDepth 10000

set_option maxHeartbeats 400000 in
theorem words_true (a b : Option Addr) (n ca cb : Nat) (zs : List Int) (w : World) (ha : View .u32 w a zs) (hb : View .u32 w b zs) (hl : zs.length = n) (hn : n ≤ 140737488351232) :
    Calls Tryz.prog 20 #[.slice a n ca, .slice b n cb] w fun e w' => e = .returned (.bool true) ∧ ∃ q, w' = w.drewN q := by
  have HL : Hid (zs.length = n) := hl
  clear hl
  go_enter Tryz.func20, Tryz.ntmps20
  go_wp2
  go_loopw [5] (fun i wr => ∃ k q : Nat, k ≤ n ∧ i = .int .i64 k ∧ wr = w.drewN q) (fun i _ => n - (intOf i).toNat)
  case atStart => exact ⟨0, 0, Nat.zero_le _, rfl, rfl⟩
  case round =>
    obtain ⟨k, q, hk, rfl, rfl⟩ := hrel
    by_cases hlt : k < n
    · obtain ⟨b1, o1, rfl, _, c1⟩ := ha k (by rw [HL.out]; exact hlt)
      obtain ⟨b2, o2, rfl, _, c2⟩ := hb k (by rw [HL.out]; exact hlt)
      have hk0 : (0 : Int) ≤ (k : Int) := by omega
      have hki : (k : Int) < (n : Int) := by omega
      clear ha hb
      go_wp2
      go_quiet (fail)
      go_wp2
      go_roundw
      case rel => exact ⟨k + 1, _, by omega, by go_num, rfl⟩
      case measure => simp [intOf]; omega
    · go_wp2
      go_ret
      exact ⟨rfl, q, rfl⟩

end Go.Proofs.YteckmcgihbicfaaGreat

/-
  raws of the laws of layer 2 answers true of two lists of instructions that are the same; head answers the words of a head.
-/
namespace Go.Proofs.YteckmcgihbicfaaGreat
open Go.RowKit
set_option maxRecDepth 10000

theorem quiet_words {a b : Option Addr} {n ca cb : Nat} {zs : List Int} {w : World} (ha : View .u32 w a zs) (hb : View .u32 w b zs) (hl : zs.length = n) (hn : n ≤ 140737488351232) (q : Nat) :
    Calls Tryz.prog 20 #[.slice a n ca, .slice b n cb] (w.drewN q) fun e w' => e = .returned (.bool true) ∧ ∃ m, w' = w.drewN m := by
  refine (words_true a b n ca cb zs (w.drewN q) (ha.drew q) (hb.drew q) hl hn).mono ?_
  rintro e w' ⟨he, m, hm⟩
  exact ⟨he, q + m, by rw [hm, World.drewN_drewN]⟩

end Go.Proofs.YteckmcgihbicfaaGreat

/-
  SpoilWords of the kit writes over the words of a row of the call's own, and nothing else.
-/
namespace Go.Proofs.YteckmcgihbicfaaGreat
open Go.RowKit
set_option maxRecDepth 10000

theorem spoil_nil (a : Option Addr) (cap : Nat) (w : World) :
    Calls Tryz.prog 21 #[.slice a 0 cap] w fun e w' => e = .returned (.tuple #[]) ∧ w = w' := by
  go_enter Tryz.func21, Tryz.ntmps21
  go_wp2
  refine wp_loop_rounds 1 ?_
  rw [rounds_succ]
  go_wp2
  go_end0
  exact ⟨rfl, rfl⟩

set_option maxHeartbeats 400000 in
theorem spoil_keep (g n cap B : Nat) (zs : List Int) (w : World) (hown : w.ownsRow B 23 1 (.slice (some ⟨g, 0, none⟩) n cap) n (zs.map (Value.int .u32))) (hl : zs.length = n) (hn : 4 * n ≤ 140737488351232) :
    Calls Tryz.prog 21 #[.slice (some ⟨g, 0, none⟩) n cap] w fun e w' => e = .returned (.tuple #[]) ∧ w.grownBy w' (some g) ∧ ∃ cs : List Int, cs.length = n ∧ w'.ownsRow B 23 1 (.slice (some ⟨g, 0, none⟩) n cap) n (cs.map (Value.int .u32)) := by
  go_enter Tryz.func21, Tryz.ntmps21
  go_wp2
  go_loopw [2] (fun i wr => ∃ (k : Nat) (cs : List Int), k ≤ n ∧ i = .int .i64 k ∧ cs.length = n ∧ wr.ownsRow B 23 1 (.slice (some ⟨g, 0, none⟩) n cap) n (cs.map (Value.int .u32)) ∧ w.grownBy wr (some g))
    (fun i _ => n - (intOf i).toNat)
  case atStart => exact ⟨0, zs, Nat.zero_le _, rfl, hl, hown, World.grownBy.refl _ _⟩
  case round =>
    obtain ⟨k, cs, hk, rfl, hcl, hownr, hgr⟩ := hrel
    have HCL : Hid (cs.length = n) := hcl
    clear hcl hown hl
    by_cases hlt : k < n
    · have hd : wr.cell? ⟨g, k, none⟩ = some (.int .u32 (nth cs k)) := by
        obtain ⟨b, off, e1, _, hc⟩ := View.ofRow hownr HCL.out k (by rw [HCL.out]; exact hlt)
        simp at e1
        obtain ⟨rfl, rfl⟩ := e1
        rw [Nat.zero_add] at hc
        exact hc
      have hf : wr.frozen? ⟨g, k, none⟩ = false := hownr.frozenAt _
      have hs := hownr.stored k (.int .u32 1515870810)
      rw [← List.map_set] at hs
      obtain ⟨hs1, hs2⟩ := hs
      generalize nth cs k = x at hd
      clear hownr
      go_wp2
      go_roundw
      case rel => exact ⟨k + 1, cs.set k 1515870810, by omega, by go_num, by rw [List.length_set]; exact HCL.out, hs1, hgr.trans hs2⟩
      case measure => simp [intOf]; omega
    · go_wp2
      go_end0
      exact ⟨rfl, hgr, cs, HCL.out, hownr⟩

theorem spoil_some (g n cap B : Nat) (zs : List Int) (w : World) (hown : w.ownsRow B 23 1 (.slice (some ⟨g, 0, none⟩) n cap) n (zs.map (Value.int .u32))) (hl : zs.length = n) (hn : 4 * n ≤ 140737488351232) :
    Calls Tryz.prog 21 #[.slice (some ⟨g, 0, none⟩) n cap] w fun e w' => e = .returned (.tuple #[]) ∧ w.grownBy w' (some g) :=
  (spoil_keep g n cap B zs w hown hl hn).mono fun _ _ h => ⟨h.1, h.2.1⟩

/-- Of any row of the call's own. -/
theorem spoil_own (v : Value) (n B : Nat) (zs : List Int) (w : World) (hown : w.ownsRow B 23 1 v n (zs.map (Value.int .u32))) (hl : zs.length = n) (hn : 4 * n ≤ 140737488351232) :
    Calls Tryz.prog 21 #[v] w fun e w' => e = .returned (.tuple #[]) ∧ w.grownBy w' v.ownBlock ∧ ∃ cs : List Int, cs.length = n ∧ w'.ownsRow B 23 1 v n (cs.map (Value.int .u32)) := by
  have hown0 := hown
  rcases hown0.2 with ⟨rfl, rfl⟩ | ⟨g, c, cur, rfl, _⟩
  · refine (spoil_nil none 0 w).mono ?_
    rintro e w' ⟨he, rfl⟩
    exact ⟨he, World.grownBy.refl _ _, zs, hl, hown⟩
  · exact (spoil_keep g n c B zs w hown hl hn).mono fun _ _ h => h

end Go.Proofs.YteckmcgihbicfaaGreat

/-
  apart of the laws of layer 2 answers true of instructions each of which lies in memory of its own, and are the wanted ones; what was there ahead of them stays.
-/
namespace Go.Proofs.YteckmcgihbicfaaGreat
open Go.RowKit

theorem Apart.info : (Tryz.prog.info? 23).map (fun i => (i.zero, i.size, i.bytes)) = some (some (.int .u32 0), 1, 4) := by kernel_rfl

/-- The instructions from the k-th on lie each in memory of its own, from block lo on; the row lies elsewhere. -/
def OwnR (w : World) (lo : Nat) (a : Option Addr) (k : Nat) (rs : List (Int × List Int)) : Prop :=
  ∀ j, k ≤ j → j < rs.length → ∃ b off aj cj nj, a = some ⟨b, off, none⟩ ∧ lo ≤ b ∧ b < w.heap.size ∧ w.cell? ⟨b, off + j * 2, none⟩ = some (.int .u16 (nthR rs j).1) ∧ w.cell? ⟨b, off + j * 2 + 1, none⟩ = some (.slice aj nj cj) ∧ (nthR rs j).2.length = nj ∧
    w.ownsRow lo 23 1 (.slice aj nj cj) nj ((nthR rs j).2.map (Value.int .u32)) ∧ Value.ownBlock (.slice aj nj cj) ≠ some b ∧
    ∀ i, k ≤ i → i < rs.length → i ≠ j → ∀ ai ci ni g, w.cell? ⟨b, off + i * 2 + 1, none⟩ = some (.slice ai ni ci) → Value.ownBlock (.slice ai ni ci) = some g → Value.ownBlock (.slice aj nj cj) ≠ some g

theorem own_grown {w w' : World} {B e size n : Nat} {v : Value} {xs : List Value} {ob : Option Nat} (h : w.ownsRow B e size v n xs) (hg : w.grownBy w' ob) (hne : ∀ g, ob = some g → v.ownBlock ≠ some g) : w'.ownsRow B e size v n xs := by
  refine ⟨h.1, ?_⟩
  rcases h.2 with hn | ⟨g, cap, cur, rfl, hb, hgg, rest⟩
  · exact .inl hn
  · exact .inr ⟨g, cap, cur, rfl, hb, by rw [hg.block g (Array.getElem?_eq_some_iff.1 hgg).1 (fun e => hne g e.symm rfl)]; exact hgg, rest⟩

/-- What is written in one instruction's words leaves the later ones. -/
theorem OwnR.next {w w' : World} {lo k b off : Nat} {a : Option Addr} {rs : List (Int × List Int)} {ak : Option Addr} {nk ck : Nat} (h : OwnR w lo a k rs) (ha : a = some ⟨b, off, none⟩) (hk : k < rs.length) (hc : w.cell? ⟨b, off + k * 2 + 1, none⟩ = some (.slice ak nk ck)) (hg : w.grownBy w' (Value.ownBlock (.slice ak nk ck))) : OwnR w' lo a (k + 1) rs := by
  obtain ⟨b0, off0, ak0, ck0, nk0, e0, _, _, _, hc0, _, _, hnb, _⟩ := h k (Nat.le_refl _) hk
  rw [ha] at e0
  simp at e0
  obtain ⟨rfl, rfl⟩ := e0
  rw [hc] at hc0
  simp at hc0
  obtain ⟨rfl, rfl, rfl⟩ := hc0
  have cell : ∀ o, w'.cell? ⟨b, o, none⟩ = w.cell? ⟨b, o, none⟩ := fun o => World.cell?_of_block (hg.block b (World.block_lt_of_cell? _ _ hc) (fun e => hnb e.symm))
  intro j hj hjl
  obtain ⟨b1, off1, aj, cj, nj, e1, hlo1, hb1, c1, c2, c3, c4, c5, c6⟩ := h j (by omega) hjl
  rw [ha] at e1
  simp at e1
  obtain ⟨rfl, rfl⟩ := e1
  refine ⟨b, off, aj, cj, nj, ha, hlo1, Nat.lt_of_lt_of_le hb1 hg.size, (cell _).trans c1, (cell _).trans c2, c3, own_grown c4 hg (fun g e => c6 k (Nat.le_refl _) hk (by omega) ak ck nk g hc e), c5, ?_⟩
  intro i hi hil hij ai ci ni g hci
  rw [cell] at hci
  exact c6 i (by omega) hil hij ai ci ni g hci

theorem grown_drew (w : World) (q : Nat) (ob : Option Nat) : w.grownBy (w.drewN q) ob := by
  have h := bel_drewN (Below.refl w.heap.size w) q
  exact ⟨h.os, h.tape, h.output, h.size, fun k hk _ => h.block k hk⟩

/-- An append and what is written in its row: nothing but the old row and new blocks. -/
theorem grown_new {w w1 w2 : World} {ob : Option Nat} {g H : Nat} (h1 : w.grownBy w1 ob) (hat : ob = some g ∨ g = H) (hH : w.heap.size = H) (h2 : w1.grownBy w2 (some g)) : w.grownBy w2 ob :=
  ⟨h2.os.trans h1.os, h2.tape.trans h1.tape, h2.output.trans h1.output, Nat.le_trans h1.size h2.size, fun k hk hne =>
    (h2.block k (Nat.lt_of_lt_of_le hk h1.size) (fun e => by
      cases e
      rcases hat with h | h
      · exact hne h.symm
      · omega)).trans (h1.block k hk hne)⟩

/-- What is written elsewhere leaves them all. -/
theorem OwnR.kept {w w' : World} {lo lo' k : Nat} {a : Option Addr} {rs : List (Int × List Int)} {ob : Option Nat} (h : OwnR w lo a k rs) (hg : w.grownBy w' ob) (hob : ∀ g, ob = some g → g < lo) (hlo : lo' ≤ lo) : OwnR w' lo' a k rs := by
  intro j hj hjl
  obtain ⟨b, off, aj, cj, nj, e1, hlo1, hb1, c1, c2, c3, c4, c5, c6⟩ := h j hj hjl
  have hne : some b ≠ ob := fun e => by have := hob b e.symm; omega
  have cell : ∀ o, w'.cell? ⟨b, o, none⟩ = w.cell? ⟨b, o, none⟩ := fun o => World.cell?_of_block (hg.block b hb1 hne)
  have c4' := own_grown c4 hg (fun g e e2 => by have := (c4.lt g e2).1; have := hob g e; omega)
  refine ⟨b, off, aj, cj, nj, e1, Nat.le_trans hlo hlo1, Nat.lt_of_lt_of_le hb1 hg.size, (cell _).trans c1, (cell _).trans c2, c3, ⟨c4'.1, ?_⟩, c5, fun i hi hil hij ai ci ni g hci => by rw [cell] at hci; exact c6 i hi hil hij ai ci ni g hci⟩
  rcases c4'.2 with h0 | ⟨g, cap, cur, e, hb, rest⟩
  · exact .inl h0
  · exact .inr ⟨g, cap, cur, e, Nat.le_trans hlo hb, rest⟩
theorem OwnR.below {w w' : World} {lo k : Nat} {a : Option Addr} {rs : List (Int × List Int)} (h : OwnR w lo a k rs) (hb : Below w.heap.size w w') : OwnR w' lo a k rs :=
  h.kept (ob := none) ⟨hb.os, hb.tape, hb.output, hb.size, fun k hk _ => hb.block k hk⟩ (fun g e => by cases e) (Nat.le_refl _)

theorem OwnR.view {w : World} {lo : Nat} {a : Option Addr} {rs : List (Int × List Int)} (h : OwnR w lo a 0 rs) : RawsV w a rs := by
  intro j hj
  obtain ⟨b, off, aj, cj, nj, e, _, hb, c1, c2, c3, c4, _⟩ := h j (Nat.zero_le _) hj
  refine ⟨b, off, aj, cj, nj, e, hb, c1, c2, c3, View.ofOwn c4 c3, ?_⟩
  rcases c4.2 with ⟨e1, e2⟩ | ⟨g, c', cur, e1, _, _, e4, _⟩
  · omega
  · cases e1; exact e4

end Go.Proofs.YteckmcgihbicfaaGreat

/-
  What the calls of layer 2 answer, as functions on lists; what the document's answer returns; and what is asked of the program's calls (as conditions, each proved where the program's text is walked).
-/
namespace Go.Proofs.YteckmcgihbicfaaGreat
open Go.RowKit

def readL (zs : List Int) : List (Int × List Int) := if (readE zs).1 = 0 then readR zs else []
def readAt (zs : List Int) (i : Nat) : Int := if (readE zs).1 = 0 then nth zs i else 0
def writeE (bound : Int) (rs : List (Int × List Int)) : Int × Nat := if bound = 0 ∨ 65536 < bound then (24, 0) else fault rs 0
def writeL (gen bound : Int) (rs : List (Int × List Int)) : List Int := if (writeE bound rs).1 = 0 then writeTo gen bound rs rs.length else []

theorem refRead_any (a : Option Addr) (n cap : Nat) (zs : List Int) (w : World) (ha : View .u32 w a zs) (hl : zs.length = n) (hw : Within 4294967296 zs) :
    Calls Tryz.prog 24 #[.slice a n cap] w fun e w' => Below w.heap.size w w' ∧ ∃ ax cx m, e = .returned (.tuple #[.agg #[.int .u32 (readAt zs 2), .int .u32 (readAt zs 3)], .slice ax m cx, .agg #[.int .i64 (readE zs).1, .int .i64 (readE zs).2]]) ∧ (readL zs).length = m ∧ RawsV w' ax (readL zs) := by
  by_cases h1 : 1048576 < n
  · have e1 : readE zs = (4, 1048576) := by unfold readE; rw [if_pos (by omega)]
    refine (refRead_large a n cap w h1).mono ?_
    rintro e w' ⟨rfl, hb⟩
    refine ⟨hb, none, 0, 0, ?_, ?_, ?_⟩
    · simp [readAt, e1]
    · simp [readL, e1]
    · simp only [readL, e1]; exact rawsV_nil
  · by_cases h2 : (headE zs 0).1 = 0
    · refine (refRead_body a n cap zs w ha hl hw (by omega) h2).mono ?_
      rintro e w' ⟨hb, ⟨h3, rfl⟩ | ⟨h3, ax, cx, m, rfl, h4, h5⟩⟩
      · have e1 : readE zs = (25, stop zs 5) := by unfold readE; rw [if_neg (by omega), if_neg (by simp [h2]), if_pos (by omega)]
        refine ⟨hb, none, 0, 0, ?_, ?_, ?_⟩
        · simp [readAt, e1]
        · simp [readL, e1]
        · simp only [readL, e1]; exact rawsV_nil
      · have e1 : readE zs = (0, 0) := by unfold readE; rw [if_neg (by omega), if_neg (by simp [h2]), if_neg (by omega)]
        refine ⟨hb, ax, cx, m, ?_, ?_, ?_⟩
        · simp [readAt, e1]
        · simp [readL, e1, h4]
        · simp only [readL, e1]; exact h5
    · have e1 : readE zs = headE zs 0 := by unfold readE; rw [if_neg (by omega), if_pos h2]
      refine (refRead_head a n cap zs w ha hl (by omega) h2).mono ?_
      rintro e w' ⟨rfl, hb⟩
      refine ⟨hb, none, 0, 0, ?_, ?_, ?_⟩
      · simp [readAt, e1, h2]
      · simp [readL, e1, h2]
      · simp only [readL, e1, h2, if_false]; exact rawsV_nil

theorem refWrite_any (gen bound : Int) (a : Option Addr) (n cap : Nat) (rs : List (Int × List Int)) (w : World) (hb0 : 0 ≤ bound) (ha : RawsV w a rs) (hok : RawsOk rs) (hl : rs.length = n) (hn : 32 * n ≤ 140737488351232) :
    Calls Tryz.prog 62 #[.agg #[.int .u32 gen, .int .u32 bound], .slice a n cap] w fun e w' => Below w.heap.size w w' ∧ ∃ ax cx m, e = .returned (.tuple #[.slice ax m cx, .agg #[.int .i64 (writeE bound rs).1, .int .i64 (writeE bound rs).2]]) ∧ (writeL gen bound rs).length = m ∧
      w'.ownsRow w.heap.size 23 1 (.slice ax m cx) m ((writeL gen bound rs).map (Value.int .u32)) := by
  by_cases h1 : bound = 0 ∨ 65536 < bound
  · have e1 : writeE bound rs = (24, 0) := by unfold writeE; rw [if_pos h1]
    refine (refWrite_bound gen bound a n cap w hb0 h1).mono ?_
    rintro e w' ⟨rfl, hb⟩
    refine ⟨hb, none, 0, 0, ?_, ?_, ?_⟩
    · simp [e1]
    · simp [writeL, e1]
    · simp only [writeL, e1]; exact World.ownsRow_nil _ _ _ _
  · have e1 : writeE bound rs = fault rs 0 := by unfold writeE; rw [if_neg h1]
    by_cases h2 : (fault rs 0).1 = 0
    · refine (refWrite_ok gen bound a n cap rs w (by omega) (by omega) ha hok hl hn h2).mono ?_
      rintro e w' ⟨ax, cx, m, rfl, h3, h4, hb⟩
      have e2 : writeL gen bound rs = writeTo gen bound rs n := by unfold writeL; rw [e1, if_pos h2, hl]
      have e3 : fault rs 0 = (0, 0) := by
        have key : ∀ f k, faultF rs f k = (0, 0) ∨ (faultF rs f k).1 ≠ 0 := by
          intro f
          induction f with
          | zero => intro k; exact .inl rfl
          | succ f ih =>
            intro k
            rw [faultF]
            split
            · split
              · exact .inr (by simp)
              · split
                · exact .inr (by simp)
                · exact ih (k + 1)
            · exact .inl rfl
        rcases key (rs.length - 0) 0 with h | h
        · exact h
        · exact absurd h2 h
      refine ⟨hb, ax, cx, m, ?_, ?_, ?_⟩
      · rw [e1, e3]; rfl
      · rw [e2]; exact h3
      · rw [e2]; exact h4
    · refine (refWrite_fault gen bound a n cap rs w (by omega) (by omega) ha hl hn h2).mono ?_
      rintro e w' ⟨rfl, hb⟩
      have e2 : writeL gen bound rs = [] := by unfold writeL; rw [e1, if_neg h2]
      refine ⟨hb, none, 0, 0, ?_, ?_, ?_⟩
      · rw [e1]
      · rw [e2]; rfl
      · rw [e2]; exact World.ownsRow_nil _ _ _ _

/-- What is asked of Read. -/
def ReadC (f : Nat) : Prop := ∀ (a : Option Addr) (n cap : Nat) (zs : List Int) (w : World), View .u32 w a zs → zs.length = n → Within 4294967296 zs → 4 * n ≤ 140737488351232 → n ≤ cap →
  Calls Tryz.prog f #[.slice a n cap] w fun e w' => Below w.heap.size w w' ∧ ∃ ax cx m, e = .returned (.tuple #[.agg #[.int .u32 (readAt zs 2), .int .u32 (readAt zs 3)], .slice ax m cx, .agg #[.int .i64 (readE zs).1, .int .i64 (readE zs).2]]) ∧ (readL zs).length = m ∧ OwnR w' w.heap.size ax 0 (readL zs)
/-- What is asked of Write. -/
def WriteC (f : Nat) : Prop := ∀ (gen bound : Int) (a : Option Addr) (n cap : Nat) (rs : List (Int × List Int)) (w : World), 0 ≤ gen → gen < 4294967296 → 0 ≤ bound → bound < 4294967296 → RawsV w a rs → RawsOk rs → rs.length = n → 32 * n ≤ 140737488351232 → n ≤ cap →
  Calls Tryz.prog f #[.agg #[.int .u32 gen, .int .u32 bound], .slice a n cap] w fun e w' => Below w.heap.size w w' ∧ ∃ ax cx m, e = .returned (.tuple #[.slice ax m cx, .agg #[.int .i64 (writeE bound rs).1, .int .i64 (writeE bound rs).2]]) ∧ (writeL gen bound rs).length = m ∧
    w'.ownsRow w.heap.size 23 1 (.slice ax m cx) m ((writeL gen bound rs).map (Value.int .u32))
/-- What is asked of Size. -/
def SizeC (f : Nat) : Prop := ∀ (a : Option Addr) (n cap : Nat) (rs : List (Int × List Int)) (w : World), RawsV w a rs → RawsOk rs → rs.length = n → 32 * n ≤ 140737488351232 → n ≤ cap →
  Calls Tryz.prog f #[.slice a n cap] w fun e w' => e = .returned (.tuple #[.int .i64 (sizeOut rs), .int .i64 (fault rs 0).1]) ∧ Below w.heap.size w w'
/-- What is asked of Find. -/
def FindC (f : Nat) : Prop := ∀ (a : Option Addr) (n cap : Nat) (zs : List Int) (op from_ : Int) (w : World), View .u32 w a zs → zs.length = n → Within 4294967296 zs → 4 * n ≤ 140737488351232 → n ≤ cap → 0 ≤ op → op < 65536 → -9223372036854775808 ≤ from_ → from_ ≤ 9223372036854775807 →
  Calls Tryz.prog f #[.slice a n cap, .int .u16 op, .int .i64 from_] w fun e w' => e = .returned (.tuple #[.int .i64 (findAt zs op from_), .bool (findIs zs op from_)]) ∧ Below w.heap.size w w'

end Go.Proofs.YteckmcgihbicfaaGreat

/-
  A range over a function whose iterator hands out what it has just made: what is asked of such an iterator ('Tells'), and what a loop over it comes to ('wp_tells'). V: what holds of a thing that is told, in the world in which it is told; what a round keeps is said by Kept: what lay below n₀, and every box of a type of τ. The calls' fence is the wide one.
-/
namespace Go.Proofs.YteckmcgihbicfaaGreat
open Go.RowKit
set_option linter.unusedVariables false

/-- Every block of cells of a type of τ lies as it lay. -/
def KeptT (τ : TypeId → Prop) (A B : World) : Prop := ∀ (k : Nat) (cs : Array Value) (t : TypeId) (fr : Nat × Nat), τ t → A.heap[k]? = some (.cells cs t fr) → B.heap[k]? = some (.cells cs t fr)

theorem KeptT.refl (τ : TypeId → Prop) (A : World) : KeptT τ A A := fun _ _ _ _ _ h => h
theorem KeptT.trans {τ : TypeId → Prop} {A B C : World} (h : KeptT τ A B) (k : KeptT τ B C) : KeptT τ A C := fun i cs t fr ht hi => k i cs t fr ht (h i cs t fr ht hi)
theorem KeptT.none {A B : World} : KeptT (fun _ => False) A B := fun _ _ _ _ h _ => h.elim
theorem KeptT.of_grownBy {τ : TypeId → Prop} {A B : World} {row : Option Nat} (hg : A.grownBy B row) (hr : ∀ (j : Nat) (cs : Array Value) (t : TypeId) (fr : Nat × Nat), row = some j → A.heap[j]? = some (.cells cs t fr) → ¬ τ t) : KeptT τ A B := fun k cs t fr ht hk => by
  refine (hg.block k (Array.getElem?_eq_some_iff.1 hk).1 (fun e => ?_)).trans hk
  exact hr k cs t fr e.symm hk ht
theorem KeptT.of_below {τ : TypeId → Prop} {A B : World} (h : Below A.heap.size A B) : KeptT τ A B := fun k cs t fr _ hk => (h.block k (Array.getElem?_eq_some_iff.1 hk).1).trans hk

theorem KeptT.row {τ : TypeId → Prop} {A B : World} {b e size n : Nat} {v : Value} {xs : List Value} (h : A.ownsRow b e size v n xs) (hg : A.grownBy B v.ownBlock) (hne : ¬ τ e) : KeptT τ A B := KeptT.of_grownBy hg fun j cs t fr ej hj => by
  rcases h.2 with ⟨h1, _⟩ | ⟨g, c, cur, h1, _, h3, _⟩
  · rw [h1] at ej; simp [Value.ownBlock] at ej
  · rw [h1] at ej; simp [Value.ownBlock] at ej; subst ej
    rw [h3] at hj; cases hj; exact hne
theorem KeptT.setCell {τ : TypeId → Prop} {A : World} {b : Nat} {cs : Array Value} {t : TypeId} {fr : Nat × Nat} (h : A.heap[b]? = some (.cells cs t fr)) (hne : ¬ τ t) (j : Nat) (v : Value) : KeptT τ A (A.setCell ⟨b, j, Option.none⟩ v) := fun k cs' t' fr' ht hk => by
  refine (Below.heap_setCell A ⟨b, j, Option.none⟩ v k (fun e => ?_)).trans hk
  simp only at e
  subst e
  rw [h] at hk; cases hk; exact hne ht
theorem others_row {A B : World} {b e size n : Nat} {v : Value} {xs : List Value} (h : A.ownsRow b e size v n xs) (hg : A.grownBy B v.ownBlock) : KeepsOthers A B := KeepsOthers.of_grownBy hg fun j o ej hj => by
  rcases h.2 with ⟨h1, _⟩ | ⟨g, c, cur, h1, _, h3, _⟩
  · rw [h1] at ej; simp [Value.ownBlock] at ej
  · rw [h1] at ej; simp [Value.ownBlock] at ej; subst ej
    rw [h3] at hj; cases hj; rfl

/-- What a round keeps that goes on. -/
def Kept (n₀ : Nat) (τ : TypeId → Prop) (A B : World) : Prop := Below n₀ A B ∧ KeptT τ A B
theorem Kept.refl (n₀ : Nat) (τ : TypeId → Prop) (A : World) : Kept n₀ τ A A := ⟨Below.refl _ _, KeptT.refl _ _⟩
theorem Kept.trans {n₀ : Nat} {τ : TypeId → Prop} {A B C : World} (h : Kept n₀ τ A B) (k : Kept n₀ τ B C) : Kept n₀ τ A C := ⟨h.1.trans k.1, h.2.trans k.2⟩
/-- The turn of a record. -/
theorem Kept.putObj {n₀ : Nat} {τ : TypeId → Prop} (A : World) {l : Nat} {o : Obj} (o' : Obj) (hl : A.heap[l]? = some o) (ho : o.isCells = false) (hn : n₀ ≤ l) : Kept n₀ τ A (A.putObj l o') := by
  have hlt := (Array.getElem?_eq_some_iff.1 hl).1
  refine ⟨(Below.refl n₀ A).grown (grownBy_putObj' A l o') (by omega) (fun k e => by cases e; exact hn), KeptT.of_grownBy (grownBy_putObj' A l o') fun j cs t fr e hj => ?_⟩
  cases e
  rw [hl] at hj
  cases hj
  cases ho
theorem Kept.of_below {n₀ : Nat} {τ : TypeId → Prop} {A B : World} (h : Below A.heap.size A B) (hn : n₀ ≤ A.heap.size) : Kept n₀ τ A B := ⟨h.mono hn, KeptT.of_below h⟩

theorem grown_of_below {A B : World} (h : Below A.heap.size A B) (row : Option Nat) : A.grownBy B row := ⟨h.os, h.tape, h.output, h.size, fun k hk _ => h.block k hk⟩
theorem KeepsFrom.of_below {m : Nat} {A B : World} (h : Below A.heap.size A B) : KeepsFrom m A B := ⟨h.size, fun k o _ hk _ => (h.block k (Array.getElem?_eq_some_iff.1 hk).1).trans hk⟩
theorem KeepsFrom.mono {m m' : Nat} {A B : World} (h : KeepsFrom m A B) (hm : m ≤ m') : KeepsFrom m' A B := ⟨h.size, fun k o hk h1 h2 => h.same k o (Nat.le_trans hm hk) h1 h2⟩
theorem OwnFrom.below {β : Type} {B : Nat} {I : β → World → Prop} (h : OwnFrom B I) {s : β} {A C : World} (hs : I s A) (hb : Below A.heap.size A C) : I s C :=
  h s A C Option.none hs (grown_of_below hb _) (fun r e => by cases e)
theorem OwnFrom.mono {β : Type} {B B' : Nat} {I : β → World → Prop} (h : OwnFrom B I) (hB : B ≤ B') : OwnFrom B' I := fun s W W' row hs hg hr => h s W W' row hs hg (fun r e => ⟨Nat.le_trans hB (hr r e).1, (hr r e).2⟩)

/-- What is asked of an iterator's function. -/
def Tells {α : Type} (P : Program) (g : Nat) (lb : Array Value) (encs : α → Array Value) (V : List α → α → World → Prop) (n₀ : Nat) (τ : TypeId → Prop) (S Sp : List α → Prop) (w : World) : Prop :=
  ∀ (l : Nat) (J Jx : List α → World → Prop) (W : World), Below w.heap.size w W → OwnFrom W.heap.size J → OwnFrom W.heap.size Jx →
    (∀ pre x W1, J pre W1 → V pre x W1 → YieldAt Fence.wide 0 P l (encs x) W1 fun e W' =>
      KeepsFrom W.heap.size W1 W' ∧ ((e = .returned (.bool true) ∧ J (pre ++ [x]) W' ∧ Kept n₀ τ W1 W') ∨ (e = .returned (.bool false) ∧ Jx (pre ++ [x]) W'))) →
    J [] W →
    CallsIn Fence.wide 0 P g (#[.func (.yield l) #[] #[]] ++ lb) W fun e W' => (∃ v, e = .returned v) ∧ ((∃ xs, S xs ∧ J xs W') ∨ (∃ pre, Sp pre ∧ Jx pre W'))

/-- A loop over such an iterator. -/
theorem wp_tells {α : Type} {P : Program} {g : Operand} {ps : Array Tmp} {assign body : Code} {Q : Exit → Act → World → Prop} {a : Act} {w : World} {gf : Nat} {lb : Array Value}
    (hg : a.eval g = .func (.func gf) #[] lb) (eg : ∀ args w, (callFunc gf args).run P w = .ok (.enter gf args) w)
    {encs : α → Array Value} {V : List α → α → World → Prop} {n₀ : Nat} {τ : TypeId → Prop} {S Sp : List α → Prop} (hseq : Tells P gf lb encs V n₀ τ S Sp w) (hn : n₀ ≤ w.heap.size) (hps : ∀ x, (encs x).size = ps.size)
    (I : List α → World → Prop) (Ix : Code → List α → World → Prop) (hI : OwnFrom w.heap.size I) (hIx : ∀ c, OwnFrom w.heap.size (Ix c)) (h0 : I [] w)
    (Ax : List α → α → Act → World → Prop) (hAx : ∀ pre x a', OwnFrom w.heap.size (fun (_ : Unit) W => Ax pre x a' W))
    (hassign : ∀ (l : Nat) (pre : List α) (x : α) (W : World) (K : Act → World → Prop), I pre W → V pre x W → (∀ a' W', KeepsFrom w.heap.size W W' → Kept n₀ τ W W' → I pre W' → Ax pre x a' W' → K a' W') →
      assign.wpIn (Fence.wide.inRound l) 0 P (Exit.then K (fun _ _ _ => False)) { tmps := (ps.zip (encs x)).foldl (fun t (p, v) => t.setIfInBounds p v) a.tmps, defers := [] } W)
    (hbody : ∀ (l : Nat) (pre : List α) (x : α) (a' : Act) (W : World), w.heap.size ≤ l → (∃ r, W.heap[l]? = some (.loop r)) → I pre W → Ax pre x a' W → body.wpIn (Fence.wide.inRound l) 0 P (ownPostG w.heap.size (Kept n₀ τ) I Ix (pre ++ [x]) W) a' W)
    (hdone : ∀ (D : Nat) (xs : List α) (W : World), w.heap.size ≤ D → S xs → I xs W → W.heap[D]? = some (.deferred (some [])) → Q .normal { a with defers := { target := .collected D, args := #[] } :: a.defers } W)
    (hstop : ∀ (D : Nat) (c : Code) (pre : List α) (W : World), w.heap.size ≤ D → Sp pre → Ix c pre W → W.heap[D]? = some (.deferred (some [])) → c.wpIn Fence.wide 0 P Q { a with defers := { target := .collected D, args := #[] } :: a.defers } W) :
    (Code.rangeFunc g ps assign body).wpIn Fence.wide 0 P Q a w := by
  refine wpIn_rangeFunc fun fn hfn => ?_
  -- the block for deferred calls lies at D, the loop's record at D + 1
  generalize hD : w.heap.size = D at *
  let rec_ : LoopState → Option Code → Obj := fun st pe => .loop { state := st, pending := pe, fn, tmps := a.tmps, params := ps, assign, body, defers := D }
  have hrecC : ∀ st pe, (rec_ st pe).isCells = false := fun _ _ => rfl
  let W0 : World := (w.alloc (.deferred (some []))).alloc (rec_ .ready none)
  have hsz0 : W0.heap.size = D + 2 := by show ((w.alloc _).alloc _).heap.size = _; simp [hD]
  have hrun : (Instr.enterLoop fn a.tmps ps assign body Fence.wide.round).run P w = .ok (D + 1, [{ target := .collected D, args := #[] }]) W0 := by
    have := run_enterLoop_outer (P := P) (w := w) fn a.tmps ps assign body
    rw [hD] at this
    exact this
  have hrec0 : W0.heap[D + 1]? = some (rec_ .ready none) := by
    have := World.alloc_heap_new (w.alloc (.deferred (some []))) (rec_ .ready none)
    rw [World.size_alloc, hD] at this
    exact this
  have hdef0 : W0.heap[D]? = some (.deferred (some [])) := by
    have := World.alloc_heap_new w (.deferred (some []))
    rw [hD] at this
    exact (Below.heap_alloc _ _ _ (by simp [hD])).trans this
  have hbel0 : Below w.heap.size w W0 := ((Below.refl _ w).alloc (Nat.le_refl _) _).alloc (by simp) _
  refine ⟨D + 1, [{ target := .collected D, args := #[] }], W0, { target := .fn (.func gf) lb, args := #[.func (.yield (D + 1)) #[] #[]] }, W0, gf, #[.func (.yield (D + 1)) #[] #[]] ++ lb, W0, hrun, ?_, fun _ _ => trivial, ?_, (fun h => by cases h), ?_⟩
  · simp only [resolve, hg]; simp [go_sem]
  · simp [invoke, go_sem, eg]
  -- what holds between two rounds: the caller's word, and the two blocks of the loop
  have hnew : ∀ {k : Nat}, W0.heap.size ≤ k → D ≤ k ∧ k ≠ D + 1 ∧ k ≠ D := fun h => by rw [hsz0] at h; exact ⟨by omega, by omega, by omega⟩
  have stays : ∀ {A B : World} {row : Option Nat} {k : Nat} {o : Obj}, A.grownBy B row → (∀ r, row = some r → W0.heap.size ≤ r ∧ ∃ o : Obj, A.heap[r]? = some o ∧ o.isCells = false) → k < D + 2 → A.heap[k]? = some o → B.heap[k]? = some o := fun hgr hr hk h =>
    (hgr.block _ (Array.getElem?_eq_some_iff.1 h).1 (fun e => by have := (hr _ e.symm).1; rw [hsz0] at this; omega)).trans h
  refine (hseq (D + 1) (fun pre W => I pre W ∧ W.heap[D + 1]? = some (rec_ .ready none) ∧ W.heap[D]? = some (.deferred (some [])))
    (fun pre W => ∃ c, Ix c pre W ∧ W.heap[D + 1]? = some (rec_ .done (some c)) ∧ W.heap[D]? = some (.deferred (some []))) W0 hbel0 ?_ ?_ ?_ ⟨OwnFrom.below hI h0 hbel0, hrec0, hdef0⟩).mono ?_
  · intro s A B row hs hgr hr
    exact ⟨hI s A B row hs.1 hgr (fun r e => ⟨(hnew (hr r e).1).1, (hr r e).2⟩), stays hgr hr (by omega) hs.2.1, stays hgr hr (by omega) hs.2.2⟩
  · rintro s A B row ⟨c, hc, h1, h2⟩ hgr hr
    exact ⟨c, hIx c s A B row hc hgr (fun r e => ⟨(hnew (hr r e).1).1, (hr r e).2⟩), stays hgr hr (by omega) h1, stays hgr hr (by omega) h2⟩
  · -- a round
    rintro pre x W ⟨hi, hl, hk⟩ hV
    have hy := run_yield (P := P) (args := encs x) hl (hps x)
    refine ⟨fn, _, assign, body, hy, roundIn_of_wpIn hfn (hassign _ pre x W _ hi hV ?_)⟩
    intro a' Wa hkf hkp hia hax
    have hla := hkf.same _ _ (by omega) hl rfl
    have hka := hkf.same _ _ (Nat.le_refl _) hk rfl
    have hlt : D + 1 < Wa.heap.size := (Array.getElem?_eq_some_iff.1 hla).1
    refine ⟨_, run_beginRound hla rfl, ?_⟩
    have hlb : (Wa.putObj (D + 1) (rec_ .busy none)).heap[D + 1]? = some (rec_ .busy none) := World.putObj_heap_same hlt
    have hkb : (Wa.putObj (D + 1) (rec_ .busy none)).heap[D]? = some (.deferred (some [])) := (World.putObj_heap_other (by omega)).trans hka
    have kpb : Kept n₀ τ W (Wa.putObj (D + 1) (rec_ .busy none)) := hkp.trans (Kept.putObj Wa _ hla rfl (by omega))
    have put_from : ∀ (A : World) (o : Obj), KeepsFrom W0.heap.size A (A.putObj (D + 1) o) := fun A o => KeepsFrom.of_grownBy (grownBy_putObj' A (D + 1) o) (fun j e => by cases e; rw [hsz0]; omega)
    have kfb : KeepsFrom W0.heap.size W (Wa.putObj (D + 1) (rec_ .busy none)) := (KeepsFrom.mono hkf (by rw [hsz0]; omega)).trans (put_from Wa _)
    refine wpIn_mono (hbody _ pre x a' _ (by omega) ⟨_, hlb⟩ (hI.putObj _ hia (by omega) hla rfl) ((hAx pre x a').putObj (s := ()) _ hax (by omega) hla rfl)) ?_
    have leave : ∀ (j : Option Code) (W3 : World), KeepsFrom D (Wa.putObj (D + 1) (rec_ .busy none)) W3 →
        (Instr.endRound (D + 1) j).run P W3 = .ok (.bool j.isNone) (W3.putObj (D + 1) (rec_ (if j.isNone then .ready else .done) j)) ∧ W3.heap[D + 1]? = some (rec_ .busy none) ∧
        (W3.putObj (D + 1) (rec_ (if j.isNone then .ready else .done) j)).heap[D + 1]? = some (rec_ (if j.isNone then .ready else .done) j) ∧ (W3.putObj (D + 1) (rec_ (if j.isNone then .ready else .done) j)).heap[D]? = some (.deferred (some [])) ∧
        KeepsFrom W0.heap.size W (W3.putObj (D + 1) (rec_ (if j.isNone then .ready else .done) j)) := fun j W3 h3 => by
      have hl3 := h3.same _ _ (by omega) hlb rfl
      exact ⟨run_endRound (P := P) j hl3, hl3, World.putObj_heap_same (Array.getElem?_eq_some_iff.1 hl3).1, (World.putObj_heap_other (by omega)).trans (h3.same _ _ (Nat.le_refl _) hkb rfl),
        (kfb.trans (KeepsFrom.mono h3 (by rw [hsz0]; omega))).trans (put_from W3 _)⟩
    rintro e a3 W3 hp
    cases e with
    | normal =>
      obtain ⟨h3, kp3, hi3⟩ := hp
      obtain ⟨hr, hl3, hl4, hk4, kf4⟩ := leave none W3 h3
      exact ⟨_, _, hr, kf4, .inl ⟨rfl, ⟨hI.putObj _ hi3 (by omega) hl3 rfl, hl4, hk4⟩, (kpb.trans kp3).trans (Kept.putObj W3 _ hl3 rfl (by omega))⟩⟩
    | ret =>
      obtain ⟨h3, hi3⟩ := hp
      obtain ⟨hr, hl3, hl4, hk4, kf4⟩ := leave (some .ret) W3 h3
      exact ⟨_, _, hr, kf4, .inr ⟨rfl, .ret, (hIx _).putObj _ hi3 (by omega) hl3 rfl, hl4, hk4⟩⟩
    | exit id =>
      obtain ⟨h3, hi3⟩ := hp
      obtain ⟨hr, hl3, hl4, hk4, kf4⟩ := leave (some (.exit id)) W3 h3
      exact ⟨_, _, hr, kf4, .inr ⟨rfl, .exit id, (hIx _).putObj _ hi3 (by omega) hl3 rfl, hl4, hk4⟩⟩
    | goto t =>
      obtain ⟨h3, hi3⟩ := hp
      obtain ⟨hr, hl3, hl4, hk4, kf4⟩ := leave (some (.goto t)) W3 h3
      exact ⟨_, _, hr, kf4, .inr ⟨rfl, .goto t, (hIx _).putObj _ hi3 (by omega) hl3 rfl, hl4, hk4⟩⟩
    | panic ch => exact hp.elim
    | outgrown => exact hp.elim
  · -- behind the iterator's call
    rintro e W2 ⟨⟨v, rfl⟩, ⟨xs, hS, hi, hl, hk⟩ | ⟨pre, hSp, c, hi, hl, hk⟩⟩
    · exact ⟨none, _, run_endLoop (P := P) hl (by simp), hdone _ xs _ (Nat.le_refl _) hS (hI.putObj _ hi (by omega) hl rfl) ((World.putObj_heap_other (by omega)).trans hk)⟩
    · exact ⟨some c, _, run_endLoop (P := P) hl (by simp), hstop _ c pre _ (Nat.le_refl _) hSp ((hIx c).putObj _ hi (by omega) hl rfl) ((World.putObj_heap_other (by omega)).trans hk)⟩

end Go.Proofs.YteckmcgihbicfaaGreat
