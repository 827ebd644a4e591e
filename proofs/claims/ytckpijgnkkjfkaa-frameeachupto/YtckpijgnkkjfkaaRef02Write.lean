/-
  What Write of the document's answer returns, for every head and every list of instructions: its error and its place, or the words, in new memory.
-/
import Derived.WalkSpells
import Derived.BigRegion
import Derived.Deep.RegionLaw
import Derived.Deep.AppendLies
import Derived.Deep.DrawnRows
import Derived.Test.YtckpijgnkkjfkaaRdr
import Derived.Test.YtckpijgnkkjfkaaRaws
import Derived.Test.YtckpijgnkkjfkaaRef02Size
import Derived.Test.YtckpijgnkkjfkaaRef02Places
import Derived.Test.YtckpijgnkkjfkaaRef02At
namespace Go.Proofs.Ytckpijgnkkjfkaa
open Go.RowKit

theorem RefWrite.info : (Try.prog.info? 23).map (fun i => (i.zero, i.size, i.bytes)) = some (some (.int .u32 0), 1, 4) := by kernel_rfl

/-- An instruction's words. -/
def rawW (r : Int × List Int) : List Int := (((r.2.length : Int) + 1) * 65536 + r.1) :: r.2
/-- The words of the head and of the first k instructions. -/
def writeTo (gen bound : Int) (rs : List (Int × List Int)) (k : Nat) : List Int := [119734787, 65536, gen, bound, 0] ++ (rs.take k).flatMap rawW

theorem writeTo_succ (gen bound : Int) (rs : List (Int × List Int)) (k : Nat) (h : k < rs.length) : writeTo gen bound rs (k + 1) = writeTo gen bound rs k ++ rawW (nthR rs k) := by
  have e : rs.take (k + 1) = rs.take k ++ [nthR rs k] := by
    rw [List.take_succ_eq_append_getElem h]; simp [nthR, List.getD, h]
  rw [writeTo, e, List.flatMap_append, ← List.append_assoc]; simp [writeTo]
theorem writeTo_len (gen bound : Int) (rs : List (Int × List Int)) : ∀ k, k ≤ rs.length → (writeTo gen bound rs k).length = sizeTo rs k
  | 0, _ => rfl
  | k + 1, h => by
    rw [writeTo_succ gen bound rs k (by omega), List.length_append, writeTo_len gen bound rs k (by omega), sizeTo_succ rs k (by omega)]
    simp [rawW]; omega

theorem refWrite_bound (gen bound : Int) (a : Option Addr) (n cap : Nat) (w : World) (hb0 : 0 ≤ bound) (hb : bound = 0 ∨ 65536 < bound) :
    Calls Try.prog 17 #[.agg #[.int .u32 gen, .int .u32 bound], .slice a n cap] w fun e w' => e = .returned (.tuple #[.slice none 0 0, .agg #[.int .i64 24, .int .i64 0]]) ∧ Below w.heap.size w w' := by
  by_cases h0 : bound = 0
  · subst h0
    go_enter Try.func17, Try.ntmps17
    go_wp2
    exact bodyPost_ret (v := .tuple #[.slice none 0 0, .agg #[.int .i64 24, .int .i64 0]]) (by simp [results, Try.results17, go_sem]) rfl ⟨rfl, ((Below.refl _ _).alloc (Nat.le_refl _) _).alloc (by simp) _⟩
  · have b0 : (bound == 0) = false := by simpa using h0
    have b1 : decide (65536 < bound) = true := decide_eq_true (by omega)
    clear h0 hb
    go_enter Try.func17, Try.ntmps17
    go_wp2
    exact bodyPost_ret (v := .tuple #[.slice none 0 0, .agg #[.int .i64 24, .int .i64 0]]) (by simp [results, Try.results17, go_sem]) rfl ⟨rfl, ((Below.refl _ _).alloc (Nat.le_refl _) _).alloc (by simp) _⟩

set_option maxRecDepth 100000 in
set_option maxHeartbeats 4000000 in
theorem refWrite_ok (gen bound : Int) (a : Option Addr) (n cap : Nat) (rs : List (Int × List Int)) (w : World) (hb1 : ¬ bound = 0) (hb2 : ¬ 65536 < bound) (ha : RawsV w a rs) (hok : RawsOk rs) (hl : rs.length = n) (hn : 32 * n ≤ 140737488351232) (hz : (fault rs 0).1 = 0) :
    Calls Try.prog 17 #[.agg #[.int .u32 gen, .int .u32 bound], .slice a n cap] w fun e w' => ∃ ax cx m, e = .returned (.tuple #[.slice ax m cx, .agg #[.int .i64 0, .int .i64 0]]) ∧ (writeTo gen bound rs n).length = m ∧
      w'.ownsRow w.heap.size 23 1 (.slice ax m cx) m ((writeTo gen bound rs n).map (Value.int .u32)) ∧ Below w.heap.size w w' := by
  obtain ⟨i0, hi, hz0, hz1, hz2⟩ := info_parts RefWrite.info
  have HL : Hid (rs.length = n) := hl
  have HN : Hid (∀ k, k ≤ n → sizeTo rs k ≤ 1048576 ∧ ∀ j, j < k → (nthR rs j).2.length < 65535) := by
    have := fault_none rs hz
    rw [hl] at this
    exact this
  have HWL : Hid (∀ k, k ≤ n → (writeTo gen bound rs k).length = sizeTo rs k) := fun k hk => writeTo_len gen bound rs k (by omega)
  have HWS : Hid (∀ k, k < n → writeTo gen bound rs (k + 1) = writeTo gen bound rs k ++ rawW (nthR rs k)) := fun k hk => writeTo_succ gen bound rs k (by omega)
  have hF := fun wx (hb : Below w.heap.size w wx) => refFault_any a n cap rs wx (ha.below hb) hl hn
  rw [hz] at hF
  generalize (fault rs 0).2 = at_ at hF
  have b0 : (bound == 0) = false := by simpa using hb1
  have b1 : decide (65536 < bound) = false := decide_eq_false hb2
  clear hl hz hb1 hb2
  go_enter Try.func17, Try.ntmps17
  go_wp2_with fail
  refine (hF _ (((Below.refl _ w).alloc (Nat.le_refl _) (.cells #[.int .u32 gen, .int .u32 bound] 25)).alloc (by simp) (.cells #[.int .i64 0, .int .i64 0] 29))).mono ?_
  rintro e w1 ⟨rfl, hbF⟩
  have hres1 : w1.heap[w.heap.size + 1]? = some (.cells #[.int .i64 0, .int .i64 0] 29 (0, 0)) := by
    rw [hbF.block _ (by simp)]
    have := heap_alloc_new (w.alloc (.cells #[.int .u32 gen, .int .u32 bound] 25)) (.cells #[.int .i64 0, .int .i64 0] 29)
    simpa using this
  have hbox1 : w1.heap[w.heap.size]? = some (.cells #[.int .u32 gen, .int .u32 bound] 25 (0, 0)) := by
    rw [hbF.block _ (by simp; omega), Below.heap_alloc _ _ _ (by simp)]
    exact heap_alloc_new w _
  have s1 : w.heap.size + 2 ≤ w1.heap.size := by have := hbF.size; simp at this; omega
  have hbw1 : Below w.heap.size w w1 := (((Below.refl _ w).alloc (Nat.le_refl _) _).alloc (by simp) _).trans (hbF.mono (by simp; omega))
  obtain ⟨c0, c1, _⟩ := cell_of_two ((Below.heap_alloc w1 (.cells #[.int .i64 0, .int .i64 at_] 29) _ (by omega)).trans hbox1)
  clear hF hbF hbox1
  go_wp2_with (at_builtin; refine wpList_append_lies _ rfl (.tmp 25) (.tmp 30) 22 rfl (w.heap.size + 2) 23 i0 (.int .u32 0) 1 4 Try.underlying22 hi hz0 hz1 hz2 rfl (by omega) (.slice none 0 0) 0 [] rfl (World.ownsRow_nil _ _ _ _) ⟨w1.heap.size + 1, 0, none⟩ 5 5 [.int .u32 119734787, .int .u32 65536, .int .u32 gen, .int .u32 bound, .int .u32 0] rfl rfl (World.news_of_block (cs := #[.int .u32 119734787, .int .u32 65536, .int .u32 gen, .int .u32 bound, .int .u32 0]) (t := 23) (fr := (0, 0)) (by simpa using heap_alloc_new (w1.alloc (.cells #[.int .i64 0, .int .i64 at_] 29)) (.cells #[.int .u32 119734787, .int .u32 65536, .int .u32 gen, .int .u32 bound, .int .u32 0] 23))) (by simp [Value.oneCell']) (by omega) (by unfold maxLen; omega) (by omega) (by simp; omega) (w1.heap.size + 2) (by simp) ?_)
  intro g2 cap2 w2 hown2 hgrow2 hat2 hlt2
  have hres2 : w2.heap[w.heap.size + 1]? = some (.cells #[.int .i64 0, .int .i64 0] 29 (0, 0)) := (hgrow2.block (w.heap.size + 1) (by simp; omega) (by simp [Value.ownBlock])).trans (((Below.heap_alloc _ _ _ (by simp; omega)).trans (Below.heap_alloc w1 _ _ (by omega))).trans hres1)
  have hbw2 : Below w.heap.size w w2 := ((hbw1.alloc (by omega) _).alloc (by simp; omega) _).grown hgrow2 (by simp; omega) (by simp [Value.ownBlock])
  clear hgrow2 hat2 hbw1 hres1 c0 c1
  have HN5 : Hid (5 = (writeTo gen bound rs 0).length) := rfl
  go_wp2
  go_loopw [7, 8] (fun v i wr => ∃ (k : Nat), k ≤ n ∧ i = .int .i64 k ∧ wr.ownsRow (w.heap.size + 2) 23 1 v (sizeTo rs k) ((writeTo gen bound rs k).map (Value.int .u32)) ∧
      wr.heap[w.heap.size + 1]? = some (.cells #[.int .i64 0, .int .i64 0] 29 (0, 0)) ∧ Below w.heap.size w wr)
    (fun _ i _ => n - (intOf i).toNat)
  case atStart => exact ⟨0, Nat.zero_le _, rfl, by simpa [writeTo, sizeTo] using hown2, hres2, hbw2⟩
  case round =>
    obtain ⟨k, hk, rfl, hown, hres, hnx⟩ := hrel
    obtain ⟨ax, cx, rfl⟩ := own_shape hown
    clear hown2 hres2 hbw2
    have hsz := hnx.size
    have hlt1 : w.heap.size + 1 < wr.heap.size := (Array.getElem?_eq_some_iff.1 hres).1
    have hob : ∀ j, Value.ownBlock (.slice ax (sizeTo rs k) cx) = some j → w.heap.size + 2 ≤ j := fun j hj => by
      rcases hown.2 with ⟨h1, _⟩ | ⟨g, c, cur, h1, h2, _⟩
      · rw [h1] at hj; simp [Value.ownBlock] at hj
      · rw [h1] at hj; simp [Value.ownBlock] at hj; omega
    by_cases hlt : k < n
    · obtain ⟨b, off, aj, cj, nj, rfl, hbs, p1, p2, p3, p4, _⟩ := ha k (by rw [HL.out]; exact hlt)
      obtain ⟨o1, o2, _, _⟩ := hok k (by rw [HL.out]; exact hlt)
      have HS : Hid (sizeTo rs (k + 1) = sizeTo rs k + 1 + nj) := by show _ = _; rw [sizeTo_succ rs k (by rw [HL.out]; exact hlt), p3]
      have h1 := (HN.out k hk).1
      have h2 := (HN.out (k + 1) hlt).1
      have h3 := (HN.out (k + 1) hlt).2 k (by omega)
      rw [HS.out] at h2
      rw [p3] at h3
      have HWK : Hid (writeTo gen bound rs (k + 1) = writeTo gen bound rs k ++ ((((nj : Int) + 1) * 65536 + (nthR rs k).1) :: (nthR rs k).2)) := by
        show _ = _; rw [HWS.out k hlt, rawW, p3]
      have HP3 : Hid ((nthR rs k).2.length = nj) := p3
      have q1 := (hnx.cell (p := ⟨b, off + k * 2, none⟩) hbs).trans p1
      have q2 := (hnx.cell (p := ⟨b, off + k * 2 + 1, none⟩) hbs).trans p2
      have hki : (k : Int) < (n : Int) := by omega
      have hk0 : (0 : Int) ≤ (k : Int) := by omega
      have HP2 : Hid (w.cell? ⟨b, off + k * 2 + 1, none⟩ = some (.slice aj nj cj)) := p2
      clear p1 p2 p3
      generalize hs : sizeTo rs k = s at *
      generalize writeTo gen bound rs k = ws at *
      generalize (nthR rs k).1 = op at *
      generalize (nthR rs k).2 = ms at *
      clear hs
      have hy : (IntKind.u32.wrap (IntKind.u32.wrap (IntKind.u32.wrap (IntKind.i64.wrap ((nj : Int) + 1)) * 65536) + IntKind.u32.wrap op)) = ((nj : Int) + 1) * 65536 + op := by
        have a1 : IntKind.i64.wrap ((nj : Int) + 1) = (nj : Int) + 1 := by rw [IntKind.wrap_i64]; omega
        have a2 : IntKind.u32.wrap ((nj : Int) + 1) = (nj : Int) + 1 := by rw [IntKind.wrap_u32']; omega
        have a3 : IntKind.u32.wrap (((nj : Int) + 1) * 65536) = ((nj : Int) + 1) * 65536 := by rw [IntKind.wrap_u32']; omega
        have a4 : IntKind.u32.wrap op = op := by rw [IntKind.wrap_u32']; omega
        rw [a1, a2, a3, a4, IntKind.wrap_u32']; omega
      have HY : Hid _ := hy
      clear hy
      go_wp2
      go_region_law ((refine step_append_lies _ (by rfl) _ _ _ (by rfl) (w.heap.size + 2) 23 i0 (.int .u32 0) 1 4 Try.underlying22 hi hz0 hz1 hz2 rfl (by omega) (.slice ax s cx) s _ (by rfl) ((hown.alloc _).drew) ⟨wr.heap.size, 0, none⟩ 1 1 [.int .u32 (IntKind.u32.wrap (IntKind.u32.wrap (IntKind.u32.wrap (IntKind.i64.wrap ((nj : Int) + 1)) * 65536) + IntKind.u32.wrap op))] (by rfl) (by rfl) (World.news_of_block (cs := #[.int .u32 (IntKind.u32.wrap (IntKind.u32.wrap (IntKind.u32.wrap (IntKind.i64.wrap ((nj : Int) + 1)) * 65536) + IntKind.u32.wrap op))]) (t := 23) (fr := (0, 0)) (heap_alloc_new wr _)) (by simp [Value.oneCell']) (by omega) (by unfold maxLen; omega) (by omega) (by simp; omega) (wr.heap.size + 1) (by simp) ?_; intro g3 cap3 w3 hown3 hgrow3 hat3 hlt3))
      all_goals
        rw [HY.out] at hown3
        have hres3 := (hgrow3.block (w.heap.size + 1) (by simp; omega) (fun e => by have := hob _ e.symm; omega)).trans ((Below.heap_alloc wr _ _ hlt1).trans hres)
        have hbw3 : Below w.heap.size w w3 := ((hnx.alloc hsz _).drew).grown hgrow3 (by simp; omega) (fun k hk => by have := hob k hk; omega)
        clear hgrow3 hat3
        go_wp2
        go_loopw [7, 9] (fun v i wx => ∃ (t : Nat), t ≤ nj ∧ i = .int .i64 t ∧ wx.ownsRow (w.heap.size + 2) 23 1 v (s + 1 + t) ((ws ++ (((nj : Int) + 1) * 65536 + op) :: ms.take t).map (Value.int .u32)) ∧
            wx.heap[w.heap.size + 1]? = some (.cells #[.int .i64 0, .int .i64 0] 29 (0, 0)) ∧ Below w.heap.size w wx)
          (fun _ i _ => nj - (intOf i).toNat)
        case atStart => exact ⟨0, Nat.zero_le _, rfl, by simpa using hown3, hres3, hbw3⟩
        case round =>
          obtain ⟨t, ht, rfl, hownx, hresx, hnxx⟩ := hrel
          obtain ⟨ay, cy, rfl⟩ := own_shape hownx
          have hszx := hnxx.size
          have r2 := (hnxx.cell (p := ⟨b, off + k * 2 + 1, none⟩) hbs).trans HP2.out
          have hobx : ∀ j, Value.ownBlock (.slice ay (s + 1 + t) cy) = some j → w.heap.size + 2 ≤ j := fun j hj => by
            rcases hownx.2 with ⟨h1, _⟩ | ⟨g, c, cur, h1, h2, _⟩
            · rw [h1] at hj; simp [Value.ownBlock] at hj
            · rw [h1] at hj; simp [Value.ownBlock] at hj; omega
          have hltx : w.heap.size + 1 < wr.heap.size := (Array.getElem?_eq_some_iff.1 hresx).1
          clear hown3 hres3 hbw3 hown hres hnx q1 q2 hob
          by_cases htl : t < nj
          · obtain ⟨b5, off5, rfl, hbs5, c5⟩ := p4 t (by rw [HP3.out]; exact htl)
            have r5 := (hnxx.cell (p := ⟨b5, off5 + t, none⟩) hbs5).trans c5
            have hti : (t : Int) < (nj : Int) := by omega
            have ht0 : (0 : Int) ≤ (t : Int) := by omega
            have HM : Hid (ms.take (t + 1) = ms.take t ++ [nth ms t]) := by
              show _ = _
              rw [List.take_succ_eq_append_getElem (by rw [HP3.out]; exact htl)]
              have : t < ms.length := by rw [HP3.out]; exact htl
              simp [nth, List.getD, this]
            generalize nth ms t = y at r5 c5 HM
            clear c5
            go_wp2_with (at_builtin; refine wpList_append_lies _ rfl (.tmp 67) (.tmp 76) 22 rfl (w.heap.size + 2) 23 i0 (.int .u32 0) 1 4 Try.underlying22 hi hz0 hz1 hz2 rfl (by omega) (.slice ay (s + 1 + t) cy) (s + 1 + t) _ rfl (hownx.alloc _) ⟨wr.heap.size, 0, none⟩ 1 1 [.int .u32 y] rfl rfl (World.news_of_block (cs := #[.int .u32 y]) (t := 23) (fr := (0, 0)) (heap_alloc_new wr _)) (by simp [Value.oneCell']) (by omega) (by unfold maxLen; omega) (by omega) (by simp; omega) (wr.heap.size + 1) (by simp) ?_)
            intro g4 cap4 w4 hown4 hgrow4 hat4 hlt4
            have hres4 := (hgrow4.block (w.heap.size + 1) (by simp; omega) (fun e => by have := hobx _ e.symm; omega)).trans ((Below.heap_alloc wr _ _ hltx).trans hresx)
            have hbw4 : Below w.heap.size w w4 := (hnxx.alloc hszx _).grown hgrow4 (by simp; omega) (fun k hk => by have := hobx k hk; omega)
            clear hgrow4 hat4 hownx
            go_wp2
            go_roundw
            case rel => exact ⟨t + 1, by omega, by go_num, by rw [HM.out, show s + 1 + (t + 1) = s + 1 + t + 1 by omega]; simpa using hown4, hres4, hbw4⟩
            case measure => simp [intOf]; omega
          · obtain rfl : t = nj := by omega
            have HT : Hid (ms.take t = ms) := List.take_of_length_le (by rw [HP3.out]; exact Nat.le_refl _)
            go_wp2
            go_roundw
            case rel => exact ⟨k + 1, by omega, by go_num, by rw [HWK.out, HS.out]; rw [HT.out] at hownx; exact hownx, hresx, hnxx⟩
            case measure => simp [intOf]; omega
    · obtain rfl : k = n := by omega
      obtain ⟨c0, c1, f1⟩ := cell_of_two hres
      have f0 : wr.frozen? ⟨w.heap.size + 1, 0, none⟩ = false := by simp [World.frozen?, hres]
      have hfin : ((wr.setCell ⟨w.heap.size + 1, 0, none⟩ (.int .i64 0)).setCell ⟨w.heap.size + 1, 1, none⟩ (.int .i64 0)).heap[w.heap.size + 1]? = some (.cells #[.int .i64 0, .int .i64 0] 29 (0, 0)) := by
        simp [World.setCell, Array.getElem?_modify, hres]
      obtain ⟨z0, z1, _⟩ := cell_of_two hfin
      have HZ0 : Hid (_ = _) := z0
      have HZ1 : Hid (_ = _) := z1
      clear z0 z1 hfin
      go_wp2
      refine bodyPost_ret (v := .tuple #[.slice ax (sizeTo rs k) cx, .agg #[.int .i64 0, .int .i64 0]]) (by simp [results, Try.results17, go_sem, HZ0.out, HZ1.out]) rfl ⟨ax, cx, _, rfl, HWL.out k hk, ?_, ?_⟩
      · exact own_base (ownsRow_setCell_below (ownsRow_setCell_below hown (by simp) _) (by simp) _) (by omega)
      · exact (hnx.setCell (by simp) _).setCell (by simp) _

set_option maxRecDepth 100000 in
set_option maxHeartbeats 4000000 in
theorem refWrite_fault (gen bound : Int) (a : Option Addr) (n cap : Nat) (rs : List (Int × List Int)) (w : World) (hb1 : ¬ bound = 0) (hb2 : ¬ 65536 < bound) (ha : RawsV w a rs) (hl : rs.length = n) (hn : 32 * n ≤ 140737488351232) (hz : ¬ (fault rs 0).1 = 0) :
    Calls Try.prog 17 #[.agg #[.int .u32 gen, .int .u32 bound], .slice a n cap] w fun e w' => e = .returned (.tuple #[.slice none 0 0, .agg #[.int .i64 (fault rs 0).1, .int .i64 (fault rs 0).2]]) ∧ Below w.heap.size w w' := by
  have hF := fun wx (hb : Below w.heap.size w wx) => refFault_any a n cap rs wx (ha.below hb) hl hn
  have hzb : ((fault rs 0).1 == 0) = false := by simpa using hz
  clear hz
  generalize (fault rs 0).1 = er at hF hzb ⊢
  generalize (fault rs 0).2 = at_ at hF ⊢
  have b0 : (bound == 0) = false := by simpa using hb1
  have b1 : decide (65536 < bound) = false := decide_eq_false hb2
  clear hl hb1 hb2
  go_enter Try.func17, Try.ntmps17
  go_wp2_with fail
  refine (hF _ (((Below.refl _ w).alloc (Nat.le_refl _) (.cells #[.int .u32 gen, .int .u32 bound] 25)).alloc (by simp) (.cells #[.int .i64 0, .int .i64 0] 29))).mono ?_
  rintro e w1 ⟨rfl, hbF⟩
  have hres1 : w1.heap[w.heap.size + 1]? = some (.cells #[.int .i64 0, .int .i64 0] 29 (0, 0)) := by
    rw [hbF.block _ (by simp)]
    have := heap_alloc_new (w.alloc (.cells #[.int .u32 gen, .int .u32 bound] 25)) (.cells #[.int .i64 0, .int .i64 0] 29)
    simpa using this
  have s1 : w.heap.size + 2 ≤ w1.heap.size := by have := hbF.size; simp at this; omega
  have hbw1 : Below w.heap.size w w1 := (((Below.refl _ w).alloc (Nat.le_refl _) _).alloc (by simp) _).trans (hbF.mono (by simp; omega))
  have hres2 := (Below.heap_alloc w1 (.cells #[.int .i64 er, .int .i64 at_] 29) _ (by omega)).trans hres1
  have hbw2 := hbw1.alloc (by omega) (.cells #[.int .i64 er, .int .i64 at_] 29)
  obtain ⟨c0, c1, f1⟩ := cell_of_two hres2
  have f0 : (w1.alloc (.cells #[.int .i64 er, .int .i64 at_] 29)).frozen? ⟨w.heap.size + 1, 0, none⟩ = false := by simp [World.frozen?, hres2]
  have hfin : (((w1.alloc (.cells #[.int .i64 er, .int .i64 at_] 29)).setCell ⟨w.heap.size + 1, 0, none⟩ (.int .i64 er)).setCell ⟨w.heap.size + 1, 1, none⟩ (.int .i64 at_)).heap[w.heap.size + 1]? = some (.cells #[.int .i64 er, .int .i64 at_] 29 (0, 0)) := by
    simp only [World.setCell, Array.getElem?_modify, hres2]; simp
  obtain ⟨z0, z1, _⟩ := cell_of_two hfin
  have HZ0 : Hid (_ = _) := z0
  have HZ1 : Hid (_ = _) := z1
  have HB : Hid _ := hbw2
  clear z0 z1 hfin hres1 hres2 hbw1 hbF hF hbw2
  go_wp2
  go_region
  all_goals
    go_wp2
    exact bodyPost_ret (v := .tuple #[.slice none 0 0, .agg #[.int .i64 er, .int .i64 at_]]) (by simp [results, Try.results17, go_sem, HZ0.out, HZ1.out]) rfl ⟨rfl, by first | exact ((HB.out.setCell (by simp) _).setCell (by simp) _).drew | exact ((HB.out.drew.setCell (by simp) _).setCell (by simp) _) | exact ((HB.out.setCell (by simp) _).setCell (by simp) _)⟩

end Go.Proofs.Ytckpijgnkkjfkaa
