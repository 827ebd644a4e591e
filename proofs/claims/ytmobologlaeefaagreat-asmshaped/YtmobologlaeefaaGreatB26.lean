/-
  Texts laid together in one: FrameWrite, CodeFronts, MathRL, MathRW, CodeRaws.
-/
import Derived.WalkSpells
import Derived.BigRegion
import Derived.Deep.RegionLaw
import Derived.Deep.AppendLies
import Derived.Deep.DrawnRows
import Derived.Test.YtmobologlaeefaaGreatB08
import Derived.Test.YtmobologlaeefaaGreatB25
import Derived.Deep.QuietTactic
import Derived.BigQuiet
import Derived.Deep.RegionWith
import Derived.Test.YtmobologlaeefaaGreatProg
import Derived.Test.YtmobologlaeefaaGreatB01
import Derived.WalkMore
import Derived.Laws.AppendOwn
import Derived.Test.YtmobologlaeefaaGreatB19
import Derived.Test.YtmobologlaeefaaGreatB14
import Derived.Test.YtmobologlaeefaaGreatB09
/-
  What Write of frame returns, for every head and every list of instructions: its error and its place, or the words, in new memory.
-/
namespace Go.Proofs.YtmobologlaeefaaGreat
open Go.RowKit

theorem write_bound (gen bound : Int) (a : Option Addr) (n cap : Nat) (w : World) (hb0 : 0 ≤ bound) (hb1 : bound < 4294967296) (hb : bound = 0 ∨ 65536 < bound) :
    Calls Tryz.prog 63 #[.agg #[.int .u32 gen, .int .u32 bound], .slice a n cap] w fun e w' => e = .returned (.tuple #[.slice none 0 0, .agg #[.int .i64 24, .int .i64 0]]) ∧ Below w.heap.size w w' := by
  have hM := fun w => mayBeBound_any bound w hb0 hb1
  have e1 : (!(decide (bound = 0) || decide (65536 < bound))) = false := by rcases hb with h1 | h1 <;> simp [h1]
  rw [e1] at hM
  clear hb e1
  go_enter Tryz.func63, Tryz.ntmps63
  go_wp2_with (go_at_call 101; refine (hM _).mono ?_; rintro e w' ⟨rfl, rfl⟩)
  exact bodyPost_ret (v := .tuple #[.slice none 0 0, .agg #[.int .i64 24, .int .i64 0]]) (by simp [results, Tryz.results63, go_sem]) rfl ⟨rfl, ((Below.refl _ _).alloc (Nat.le_refl _) _).alloc (by simp) _⟩

theorem bound_ok {bound : Int} (hb1 : ¬ bound = 0) (hb2 : ¬ 65536 < bound) : (!(decide (bound = 0) || decide (65536 < bound))) = true := by simp [hb1]; omega

set_option maxRecDepth 100000 in
set_option maxHeartbeats 4000000 in
theorem write_fault (gen bound : Int) (a : Option Addr) (n cap : Nat) (rs : List (Int × List Int)) (w : World) (hb0 : 0 ≤ bound) (hb1 : ¬ bound = 0) (hb2 : ¬ 65536 < bound) (ha : RawsV w a rs) (hok : RawsOk rs) (hl : rs.length = n) (hn : 32 * n ≤ 140737488351232) (hz : ¬ (fault rs 0).1 = 0) :
    Calls Tryz.prog 63 #[.agg #[.int .u32 gen, .int .u32 bound], .slice a n cap] w fun e w' => e = .returned (.tuple #[.slice none 0 0, .agg #[.int .i64 (fault rs 0).1, .int .i64 (fault rs 0).2]]) ∧ Below w.heap.size w w' := by
  have hF := fun wx (hb : Below w.heap.size w wx) => measure_any a n cap rs wx (ha.below hb) hok hl hn
  have hM := fun w => mayBeBound_any bound w hb0 (by omega)
  rw [bound_ok hb1 hb2] at hM
  have hzb : ((fault rs 0).1 == 0) = false := by simpa using hz
  clear hz
  generalize (fault rs 0).1 = er at hF hzb ⊢
  generalize (fault rs 0).2 = at_ at hF ⊢
  generalize sizeOut rs = so at hF
  clear hl hb1 hb2
  go_enter Tryz.func63, Tryz.ntmps63
  go_wp2_with (go_at_call 101; refine (hM _).mono ?_; rintro e w' ⟨rfl, rfl⟩)
  refine (hF _ (((Below.refl _ w).alloc (Nat.le_refl _) (.cells #[.int .u32 gen, .int .u32 bound] 58)).alloc (by simp) (.cells #[.int .i64 0, .int .i64 0] 28))).mono ?_
  rintro e w1 ⟨rfl, hbF⟩
  have hres1 : w1.heap[w.heap.size + 1]? = some (.cells #[.int .i64 0, .int .i64 0] 28 (0, 0)) := by
    rw [hbF.block _ (by simp)]
    have := heap_alloc_new (w.alloc (.cells #[.int .u32 gen, .int .u32 bound] 58)) (.cells #[.int .i64 0, .int .i64 0] 28)
    simpa using this
  have s1 : w.heap.size + 2 ≤ w1.heap.size := by have := hbF.size; simp at this; omega
  have hbw1 : Below w.heap.size w w1 := (((Below.refl _ w).alloc (Nat.le_refl _) _).alloc (by simp) _).trans (hbF.mono (by simp; omega))
  have hres2 := (Below.heap_alloc w1 (.cells #[.int .i64 er, .int .i64 at_] 28) _ (by omega)).trans hres1
  have hbw2 := hbw1.alloc (by omega) (.cells #[.int .i64 er, .int .i64 at_] 28)
  obtain ⟨c0, c1, f1⟩ := cell_of_two hres2
  have f0 : (w1.alloc (.cells #[.int .i64 er, .int .i64 at_] 28)).frozen? ⟨w.heap.size + 1, 0, none⟩ = false := by simp [World.frozen?, hres2]
  have hz := spot_set hres2 (.int .i64 er) (.int .i64 at_)
  have HZ : Hid (_ ∧ _) := hz
  have HB : Hid _ := hbw2
  clear hz hres1 hres2 hbw1 hbF hF hbw2 hM
  go_wp2
  go_region
  all_goals
    go_wp2
    exact bodyPost_ret (v := .tuple #[.slice none 0 0, .agg #[.int .i64 er, .int .i64 at_]]) (by simp [results, Tryz.results63, go_sem, HZ.out.1, HZ.out.2]) rfl ⟨rfl, by first | exact ((HB.out.setCell (by simp) _).setCell (by simp) _).drew | exact ((HB.out.drew.setCell (by simp) _).setCell (by simp) _) | exact ((HB.out.setCell (by simp) _).setCell (by simp) _)⟩

set_option maxRecDepth 100000 in
set_option maxHeartbeats 4000000 in
theorem write_ok (gen bound : Int) (a : Option Addr) (n cap : Nat) (rs : List (Int × List Int)) (w : World) (hb0 : 0 ≤ bound) (hb1 : ¬ bound = 0) (hb2 : ¬ 65536 < bound) (ha : RawsV w a rs) (hok : RawsOk rs) (hl : rs.length = n) (hn : 32 * n ≤ 140737488351232) (hz : fault rs 0 = (0, 0)) :
    Calls Tryz.prog 63 #[.agg #[.int .u32 gen, .int .u32 bound], .slice a n cap] w fun e w' => ∃ ax cx m, e = .returned (.tuple #[.slice ax m cx, .agg #[.int .i64 0, .int .i64 0]]) ∧ (writeTo gen bound rs n).length = m ∧
      w'.ownsRow w.heap.size 22 1 (.slice ax m cx) m ((writeTo gen bound rs n).map (Value.int .u32)) ∧ Below w.heap.size w w' := by
  obtain ⟨i0, hi, hz0, hz1, hz2⟩ := info_parts RefWrite.info
  have HL : Hid (rs.length = n) := hl
  have HN : Hid (∀ k, k ≤ n → sizeTo rs k ≤ 1048576 ∧ ∀ j, j < k → (nthR rs j).2.length < 65535) := by
    have := fault_none rs (by rw [hz])
    rw [hl] at this
    exact this
  have HWL : Hid (∀ k, k ≤ n → (writeTo gen bound rs k).length = sizeTo rs k) := fun k hk => writeTo_len gen bound rs k (by omega)
  have HWS : Hid (∀ k, k < n → writeTo gen bound rs (k + 1) = writeTo gen bound rs k ++ rawW (nthR rs k)) := fun k hk => writeTo_succ gen bound rs k (by omega)
  have hF := fun wx (hb : Below w.heap.size w wx) => measure_any a n cap rs wx (ha.below hb) hok hl hn
  have hM := fun w => mayBeBound_any bound w hb0 (by omega)
  rw [bound_ok hb1 hb2] at hM
  have hso : sizeOut rs = (sizeTo rs n : Int) := by unfold sizeOut; rw [hz, if_pos rfl, hl]
  rw [hz, hso] at hF
  have hsn := (HN.out n (Nat.le_refl _)).1
  generalize hsn' : sizeTo rs n = sn at hsn hF
  clear hl hz hb1 hb2 hso
  go_enter Tryz.func63, Tryz.ntmps63
  go_wp2_with (go_at_call 101; refine (hM _).mono ?_; rintro e w' ⟨rfl, rfl⟩)
  refine (hF _ (((Below.refl _ w).alloc (Nat.le_refl _) (.cells #[.int .u32 gen, .int .u32 bound] 58)).alloc (by simp) (.cells #[.int .i64 0, .int .i64 0] 28))).mono ?_
  rintro e w1 ⟨rfl, hbF⟩
  have hres1 : w1.heap[w.heap.size + 1]? = some (.cells #[.int .i64 0, .int .i64 0] 28 (0, 0)) := by
    rw [hbF.block _ (by simp)]
    have := heap_alloc_new (w.alloc (.cells #[.int .u32 gen, .int .u32 bound] 58)) (.cells #[.int .i64 0, .int .i64 0] 28)
    simpa using this
  have hbox1 : w1.heap[w.heap.size]? = some (.cells #[.int .u32 gen, .int .u32 bound] 58 (0, 0)) := by
    rw [hbF.block _ (by simp; omega), Below.heap_alloc _ _ _ (by simp)]
    exact heap_alloc_new w _
  have s1 : w.heap.size + 2 ≤ w1.heap.size := by have := hbF.size; simp at this; omega
  have hbw1 : Below w.heap.size w w1 := (((Below.refl _ w).alloc (Nat.le_refl _) _).alloc (by simp) _).trans (hbF.mono (by simp; omega))
  clear hF hbF hM
  go_wp2_with (at_make; refine wpList_make_own _ rfl _ _ 85 rfl (w.heap.size + 2) 22 i0 (.int .u32 0) 1 Tryz.underlying85 hi hz0 hz1 _ _ _ sn rfl rfl (by omega) (by rw [hz2]; omega) (by unfold maxLen; omega) (by simp; omega) ?_)
  intro w2 hown2 hgrow2
  have s2 := hgrow2.size
  simp only [World.size_alloc] at hown2 s2
  have hres2 : w2.heap[w.heap.size + 1]? = some (.cells #[.int .i64 0, .int .i64 0] 28 (0, 0)) := (hgrow2.block _ (by simp; omega) (by simp)).trans ((Below.heap_alloc w1 _ _ (by omega)).trans hres1)
  have hbox2 := (hgrow2.block w.heap.size (by simp; omega) (by simp)).trans ((Below.heap_alloc w1 _ _ (by omega)).trans hbox1)
  have hbw2 : Below w.heap.size w w2 := (hbw1.alloc (by omega) _).grown hgrow2 (by simp; omega) (fun k hk => by cases hk)
  obtain ⟨c0, c1, _⟩ := cell_of_two hbox2
  clear hgrow2 hres1 hbox1 hbox2 hbw1
  generalize w1.heap.size = G at *
  go_wp2_with (at_builtin; refine wpList_append_lies _ rfl (.tmp 27) (.tmp 32) 85 rfl (w.heap.size + 2) 22 i0 (.int .u32 0) 1 4 Tryz.underlying85 hi hz0 hz1 hz2 rfl (by omega) (.slice (some ⟨G + 1, 0, none⟩) 0 sn) 0 [] rfl (hown2.alloc _) ⟨w2.heap.size, 0, none⟩ 5 5 [.int .u32 119734787, .int .u32 65536, .int .u32 gen, .int .u32 bound, .int .u32 0] rfl rfl (World.news_of_block (cs := #[.int .u32 119734787, .int .u32 65536, .int .u32 gen, .int .u32 bound, .int .u32 0]) (t := 22) (fr := (0, 0)) (heap_alloc_new w2 _)) (by simp [Value.oneCell']) (by omega) (by unfold maxLen; omega) (by omega) (by simp; omega) (w2.heap.size + 1) (by simp) ?_)
  intro g3 cap3 w3 hown3 hgrow3 hat3 hlt3
  have hres3 := (hgrow3.block (w.heap.size + 1) (by simp; omega) (fun e => by simp [Value.ownBlock] at e; omega)).trans ((Below.heap_alloc w2 _ _ (by omega)).trans hres2)
  have hbw3 : Below w.heap.size w w3 := (hbw2.alloc (by omega) _).grown hgrow3 (by simp; omega) (fun k hk => by simp [Value.ownBlock] at hk; omega)
  clear hgrow3 hat3 hown2 hres2 hbw2 hlt3 c0 c1
  go_wp2
  go_loopw [8, 36] (fun v i wr => ∃ (k : Nat), k ≤ n ∧ i = .int .i64 k ∧ wr.ownsRow (w.heap.size + 2) 22 1 v (sizeTo rs k) ((writeTo gen bound rs k).map (Value.int .u32)) ∧
      wr.heap[w.heap.size + 1]? = some (.cells #[.int .i64 0, .int .i64 0] 28 (0, 0)) ∧ Below w.heap.size w wr)
    (fun _ i _ => n - (intOf i).toNat)
  case atStart => exact ⟨0, Nat.zero_le _, rfl, by simpa [writeTo, sizeTo] using hown3, hres3, hbw3⟩
  case round =>
    obtain ⟨k, hk, rfl, hown, hres, hnx⟩ := hrel
    obtain ⟨ax, cx, rfl⟩ := own_shape hown
    clear hown3 hres3 hbw3
    have hsz := hnx.size
    have hlt1 : w.heap.size + 1 < wr.heap.size := (Array.getElem?_eq_some_iff.1 hres).1
    have hob : ∀ j, Value.ownBlock (.slice ax (sizeTo rs k) cx) = some j → w.heap.size + 2 ≤ j ∧ j < wr.heap.size := fun j hj => by
      rcases hown.2 with ⟨h1, _⟩ | ⟨g, c, cur, h1, h2, h3, _⟩
      · rw [h1] at hj; simp [Value.ownBlock] at hj
      · rw [h1] at hj; simp [Value.ownBlock] at hj; subst hj; exact ⟨h2, (Array.getElem?_eq_some_iff.1 h3).1⟩
    by_cases hlt : k < n
    · obtain ⟨b, off, aj, cj, nj, rfl, hbs, p1, p2, p3, p4, _⟩ := ha k (by rw [HL.out]; exact hlt)
      obtain ⟨o1, o2, _, _⟩ := hok k (by rw [HL.out]; exact hlt)
      have HS : Hid (sizeTo rs (k + 1) = sizeTo rs k + 1 + nj) := by show _ = _; rw [sizeTo_succ rs k (by rw [HL.out]; exact hlt), p3]
      have h1 := (HN.out k hk).1
      have h2 := (HN.out (k + 1) hlt).1
      have h3 := (HN.out (k + 1) hlt).2 k (by omega)
      rw [HS.out] at h2
      rw [p3] at h3
      have HWK : Hid (writeTo gen bound rs (k + 1) = writeTo gen bound rs k ++ ((((nj : Int) + 1) * 65536 + (nthR rs k).1) :: (nthR rs k).2)) := by
        show _ = _; rw [HWS.out k hlt, rawW, p3]
      have HP3 : Hid ((nthR rs k).2.length = nj) := p3
      have q1 := (hnx.cell (p := ⟨b, off + k * 2, none⟩) hbs).trans p1
      have q2 := (hnx.cell (p := ⟨b, off + k * 2 + 1, none⟩) hbs).trans p2
      have hki : (k : Int) < (n : Int) := by omega
      have hk0 : (0 : Int) ≤ (k : Int) := by omega
      have hW := fun wx => firstWord_any (nthR rs k).1 aj nj cj wx h3 o1 o2
      clear p1 p2 p3 hok ha
      generalize hs : sizeTo rs k = s at *
      generalize writeTo gen bound rs k = ws at *
      generalize (nthR rs k).1 = op at *
      generalize (nthR rs k).2 = ms at *
      go_wp2_with fail
      refine (hW _).mono ?_
      rintro e w4 ⟨rfl, hb4⟩
      have s4 := hb4.size
      simp only [World.size_alloc] at s4
      have hown4 := own_below (hown.alloc (.cells #[.int .u16 op, .slice aj nj cj] 93)) hb4
      have hr4 := (hb4.block wr.heap.size (by simp)).trans (heap_alloc_new wr (.cells #[.int .u16 op, .slice aj nj cj] 93))
      have hres4 := (hb4.block (w.heap.size + 1) (by simp; omega)).trans ((Below.heap_alloc wr _ _ hlt1).trans hres)
      have hbw4 : Below w.heap.size w w4 := (hnx.alloc hsz _).trans (hb4.mono (by simp; omega))
      clear hb4 hW q1 q2 hown hres hnx
      go_wp2_with (at_builtin; refine wpList_append_lies _ rfl (.tmp 40) (.tmp 43) 85 rfl (w.heap.size + 2) 22 i0 (.int .u32 0) 1 4 Tryz.underlying85 hi hz0 hz1 hz2 rfl (by omega) (.slice ax s cx) s _ rfl (hown4.alloc _) ⟨w4.heap.size, 0, none⟩ 1 1 [.int .u32 (((nj : Int) + 1) * 65536 + op)] rfl rfl (World.news_of_block (cs := #[.int .u32 (((nj : Int) + 1) * 65536 + op)]) (t := 22) (fr := (0, 0)) (heap_alloc_new w4 _)) (by simp [Value.oneCell']) (by omega) (by unfold maxLen; omega) (by omega) (by simp; omega) (w4.heap.size + 1) (by simp) ?_)
      intro g5 cap5 w5 hown5 hgrow5 hat5 hlt5
      have hr5 := (hgrow5.block wr.heap.size (by simp; omega) (fun e => by have := (hob _ e.symm).2; omega)).trans ((Below.heap_alloc w4 _ _ (by omega)).trans hr4)
      have hres5 := (hgrow5.block (w.heap.size + 1) (by simp; omega) (fun e => by have := (hob _ e.symm).1; omega)).trans ((Below.heap_alloc w4 _ _ (by omega)).trans hres4)
      have hbw5 : Below w.heap.size w w5 := (hbw4.alloc (by omega) _).grown hgrow5 (by simp; omega) (fun k hk => (by have := (hob k hk).1; omega))
      have s5 := hgrow5.size
      simp only [World.size_alloc] at s5
      obtain ⟨d0, d1, _⟩ := cell_of_two hr5
      have hg5 : w.heap.size + 2 ≤ g5 := by
        rcases hat5 with h | h
        · exact (hob _ h).1
        · omega
      clear hgrow5 hat5 hown4 hr4 hres4 hbw4 hob hr5
      have hown6 : w5.ownsRow (w.heap.size + 2) 22 1 (.slice (some ⟨g5, 0, none⟩) (s + 1) cap5) (s + 1) ((ws ++ [((nj : Int) + 1) * 65536 + op]).map (Value.int .u32)) := by simpa using hown5
      clear hown5
      by_cases hnj : nj = 0
      · subst hnj
        have hms : ms = [] := List.eq_nil_of_length_eq_zero HP3.out
        subst hms
        have hcap : s + 1 ≤ cap5 := by
          rcases hown6.2 with ⟨h, _⟩ | ⟨g, c', cur, h, _, _, h4, _⟩
          · simp at h
          · cases h; exact h4
        go_wp2_with (at_builtin; refine append_run _ rfl (.tmp 45) (.tmp 47) 85 rfl (.slice (some ⟨g5, 0, none⟩) (s + 1) cap5) (.slice aj 0 cj) _ _ rfl rfl (fun ty => run_append_nothing _ _ ty 22 i0 Tryz.underlying85 hi (some ⟨g5, 0, none⟩) (s + 1) cap5 hcap aj cj) ?_)
        go_wp2
        go_roundw
        case rel => exact ⟨k + 1, by omega, by go_num, by rw [HWK.out, HS.out]; simpa using hown6, hres5, hbw5⟩
        case measure => simp [intOf]; omega
      · obtain ⟨b6, off6, rfl, _, _⟩ := p4 0 (by rw [HP3.out]; omega)
        have hv5 := p4.below hbw5
        have hnews : ∀ j u, (ms.map (Value.int .u32))[j]? = some u → w5.cell? ((⟨b6, off6, none⟩ : Addr).add j) = some u := by
          intro j u hj
          rw [List.getElem?_map] at hj
          have hjl : j < ms.length := by
            rcases Nat.lt_or_ge j ms.length with h | h
            · exact h
            · rw [List.getElem?_eq_none h] at hj; simp at hj
          obtain ⟨b', off', e', _, hc'⟩ := hv5 j hjl
          simp at e'
          obtain ⟨rfl, rfl⟩ := e'
          rw [Addr.add_lit, hc', ← hj, List.getElem?_eq_getElem hjl]
          simp [nth, List.getD, hjl]
        clear p4 hv5
        go_wp2_with (at_builtin; refine wpList_append_lies _ rfl (.tmp 45) (.tmp 47) 85 rfl (w.heap.size + 2) 22 i0 (.int .u32 0) 1 4 Tryz.underlying85 hi hz0 hz1 hz2 rfl (by omega) (.slice (some ⟨g5, 0, none⟩) (s + 1) cap5) (s + 1) _ rfl hown6 ⟨b6, off6, none⟩ nj cj (ms.map (Value.int .u32)) rfl (by rw [List.length_map, HP3.out]; omega) hnews (ints_oneCell .u32 ms) (by omega) (by unfold maxLen; omega) (by omega) (by omega) w5.heap.size rfl ?_)
        intro g7 cap7 w7 hown7 hgrow7 hat7 hlt7
        have hres7 := (hgrow7.block (w.heap.size + 1) (by omega) (fun e => by simp [Value.ownBlock] at e; omega)).trans hres5
        have hbw7 : Below w.heap.size w w7 := hbw5.grown hgrow7 hbw5.size (fun k hk => by simp [Value.ownBlock] at hk; omega)
        clear hgrow7 hat7 hown6 hres5 hbw5 hnews d0 d1
        go_wp2
        go_roundw
        case rel => exact ⟨k + 1, by omega, by go_num, by rw [HWK.out, HS.out]; simpa using hown7, hres7, hbw7⟩
        case measure => simp [intOf]; omega
    · obtain rfl : k = n := by omega
      obtain ⟨c0, c1, f1⟩ := cell_of_two hres
      have f0 : wr.frozen? ⟨w.heap.size + 1, 0, none⟩ = false := by simp [World.frozen?, hres]
      have hz := spot_set hres (.int .i64 0) (.int .i64 0)
      have HZ : Hid (_ ∧ _) := hz
      clear hz hres ha hok hob
      go_wp2
      refine bodyPost_ret (v := .tuple #[.slice ax (sizeTo rs k) cx, .agg #[.int .i64 0, .int .i64 0]]) (by simp [results, Tryz.results63, go_sem, HZ.out.1, HZ.out.2]) rfl ⟨ax, cx, _, rfl, HWL.out k hk, ?_, ?_⟩
      · exact own_base (ownsRow_setCell_below (ownsRow_setCell_below hown (by simp) _) (by simp) _) (by omega)
      · exact (hnx.setCell (by simp) _).setCell (by simp) _

/-- Write answers as is asked of it. -/
theorem writeC : WriteC 63 := by
  intro gen bound a n cap rs w _ _ hb0 hb3 ha hok hl hn _
  by_cases h1 : bound = 0 ∨ 65536 < bound
  · have e1 : writeE bound rs = (24, 0) := by unfold writeE; rw [if_pos h1]
    refine (write_bound gen bound a n cap w hb0 hb3 h1).mono ?_
    rintro e w' ⟨rfl, hb⟩
    refine ⟨hb, none, 0, 0, ?_, ?_, ?_⟩
    · simp [e1]
    · simp [writeL, e1]
    · simp only [writeL, e1]; exact World.ownsRow_nil _ _ _ _
  · have e1 : writeE bound rs = fault rs 0 := by unfold writeE; rw [if_neg h1]
    have h2 : ¬ bound = 0 := fun h => h1 (.inl h)
    have h3 : ¬ 65536 < bound := fun h => h1 (.inr h)
    rcases fault_any rs with hz | hz
    · refine (write_ok gen bound a n cap rs w hb0 h2 h3 ha hok hl hn hz).mono ?_
      rintro e w' ⟨ax, cx, m, rfl, h4, h5, hb⟩
      have e2 : writeL gen bound rs = writeTo gen bound rs n := by unfold writeL; rw [e1, hz, if_pos rfl, hl]
      refine ⟨hb, ax, cx, m, ?_, ?_, ?_⟩
      · rw [e1, hz]; rfl
      · rw [e2]; exact h4
      · rw [e2]; exact h5
    · refine (write_fault gen bound a n cap rs w hb0 h2 h3 ha hok hl hn hz).mono ?_
      rintro e w' ⟨rfl, hb⟩
      have e2 : writeL gen bound rs = [] := by unfold writeL; rw [e1, if_neg hz]
      refine ⟨hb, none, 0, 0, ?_, ?_, ?_⟩
      · rw [e1]
      · rw [e2]; rfl
      · rw [e2]; exact World.ownsRow_nil _ _ _ _

end Go.Proofs.YtmobologlaeefaaGreat

/-
  headOf and frontOf of the package code: what they answer.
-/
namespace Go.Proofs.YtmobologlaeefaaGreat
open Go.RowKit

theorem headOf_any (g b : Int) (a : Option Addr) (n c : Nat) (w : World) :
    Calls Tryz.prog 64 #[modV g b a n c] w fun e w' => e = .returned (.agg #[.int .u32 g, .int .u32 b]) ∧ Below w.heap.size w w' := by
  unfold modV
  go_enter Tryz.func64, Tryz.ntmps64
  go_wp2
  refine bodyPost_ret (v := .agg #[.int .u32 g, .int .u32 b]) ?_ rfl ⟨rfl, ?_⟩
  · simp [results, Tryz.results64, go_sem]
  · exact two_boxes w _ _

end Go.Proofs.YtmobologlaeefaaGreat

/-
  What Read answers lies within its bounds.
-/
namespace Go.Proofs.YtmobologlaeefaaGreat
open Go.RowKit

theorem nthR_map (l : List Nat) (f : Nat → Int × List Int) (j : Nat) (h : j < l.length) : nthR (l.map f) j = f (l.getD j 0) := by
  simp [nthR, List.getD, h]

theorem readL_small (zs : List Int) (h : readL zs ≠ []) : zs.length ≤ 1048576 := by
  by_cases h1 : 1048576 < zs.length
  · exfalso; apply h; unfold readL readE; rw [if_pos h1]; simp
  · omega

theorem readR_each (zs : List Int) (hw : Within 4294967296 zs) (j : Nat) (hj : j < (readR zs).length) : 0 ≤ (nthR (readR zs) j).1 ∧ (nthR (readR zs) j).1 < 65536 ∧ Within 4294967296 (nthR (readR zs) j).2 ∧ (nthR (readR zs) j).2.length ≤ zs.length := by
  have hj' : j < (rest zs 5).length := by simpa [readR] using hj
  unfold readR
  rw [nthR_map _ _ _ hj']
  obtain ⟨_, h2, h3⟩ := rest_mem zs 5 ((rest zs 5).getD j 0) (by simp [List.getD, hj'])
  refine ⟨opI_lo _ _, opI_hi _ _, fun z hz => hw z ?_, ?_⟩
  · exact List.mem_of_mem_drop (List.mem_of_mem_take hz)
  · show (midL _ _ _).length ≤ _
    unfold midL
    rw [List.length_take, List.length_drop]; omega

theorem readL_each (zs : List Int) (hw : Within 4294967296 zs) (j : Nat) (hj : j < (readL zs).length) : 0 ≤ (nthR (readL zs) j).1 ∧ (nthR (readL zs) j).1 < 65536 ∧ Within 4294967296 (nthR (readL zs) j).2 ∧ (nthR (readL zs) j).2.length ≤ zs.length := by
  unfold readL at hj ⊢
  by_cases h : (readE zs).1 = 0
  · rw [if_pos h] at hj ⊢; exact readR_each zs hw j hj
  · rw [if_neg h] at hj; simp at hj

theorem readL_ok (zs : List Int) (hw : Within 4294967296 zs) (hn : 4 * zs.length ≤ 140737488351232) : RawsOk (readL zs) := fun j hj => by
  obtain ⟨h1, h2, h3, h4⟩ := readL_each zs hw j hj
  exact ⟨h1, h2, h3, by omega⟩
theorem readL_sm (zs : List Int) (hw : Within 4294967296 zs) (j : Nat) (hj : j < (readL zs).length) : (nthR (readL zs) j).2.length ≤ 1048576 := by
  have h := readL_small zs (fun e => by rw [e] at hj; simp at hj)
  have := (readL_each zs hw j hj).2.2.2
  omega
theorem readL_len (zs : List Int) : (readL zs).length ≤ zs.length := by
  unfold readL
  split
  · have := rest_len zs 5; simp [readR]; omega
  · simp

end Go.Proofs.YtmobologlaeefaaGreat

/-
  What is written is read as it was, and what is read is written as it was: on lists.
-/
namespace Go.Proofs.YtmobologlaeefaaGreat
open Go.RowKit

theorem nth_app_lo (xs ys : List Int) (k : Nat) (h : k < xs.length) : nth (xs ++ ys) k = nth xs k := getD_left xs ys k h
theorem nth_app_hi (xs ys : List Int) (k : Nat) : nth (xs ++ ys) (xs.length + k) = nth ys k := by
  rw [getD_right _ _ _ (by omega)]; congr 1; omega

/-- The words from the k-th instruction on. -/
theorem writeTo_split (gen bound : Int) (rs : List (Int × List Int)) (k : Nat) : writeTo gen bound rs rs.length = writeTo gen bound rs k ++ (rs.drop k).flatMap rawW := by
  unfold writeTo
  rw [List.take_length, List.append_assoc, ← List.flatMap_append, List.take_append_drop]

theorem drop_cons (rs : List (Int × List Int)) (k : Nat) (h : k < rs.length) : rs.drop k = nthR rs k :: rs.drop (k + 1) := by
  rw [List.drop_eq_getElem_cons h]; simp [nthR, List.getD, h]

theorem rest_write (gen bound : Int) (rs : List (Int × List Int)) (hok : RawsOk rs) (hsm : ∀ j, j < rs.length → (nthR rs j).2.length < 65535) :
    ∀ d k, rs.length - k = d → k ≤ rs.length → (rest (writeTo gen bound rs rs.length) (sizeTo rs k)).map (rawAt (writeTo gen bound rs rs.length)) = rs.drop k ∧ stop (writeTo gen bound rs rs.length) (sizeTo rs k) = (writeTo gen bound rs rs.length).length := by
  intro d
  induction d with
  | zero =>
    intro k hd hk
    obtain rfl : k = rs.length := by omega
    have hl := writeTo_len gen bound rs rs.length (Nat.le_refl _)
    rw [rest_end _ _ (by omega), stop_end _ _ (by omega), List.drop_length]
    exact ⟨rfl, hl.symm⟩
  | succ d ih =>
    intro k hd hk
    have hkl : k < rs.length := by omega
    obtain ⟨o1, o2, o3, _⟩ := hok k hkl
    have hs := hsm k hkl
    have hlk := writeTo_len gen bound rs k hk
    have hln := writeTo_len gen bound rs rs.length (Nat.le_refl _)
    have hsp := writeTo_split gen bound rs k
    rw [drop_cons rs k hkl, List.flatMap_cons] at hsp
    generalize hw : writeTo gen bound rs rs.length = ws at *
    have hzl : ws.length = sizeTo rs k + (1 + (nthR rs k).2.length + ((rs.drop (k + 1)).flatMap rawW).length) := by
      rw [hsp, List.length_append, List.length_append, hlk]; simp [rawW]; omega
    have hx : nth ws (sizeTo rs k) = ((nthR rs k).2.length + 1 : Int) * 65536 + (nthR rs k).1 := by
      have h0 := nth_app_hi (writeTo gen bound rs k) (rawW (nthR rs k) ++ (rs.drop (k + 1)).flatMap rawW) 0
      rw [← hsp, hlk] at h0
      exact h0
    have hc : cntN ws (sizeTo rs k) = (nthR rs k).2.length + 1 := by unfold cntN; rw [hx]; omega
    have ho : opI ws (sizeTo rs k) = (nthR rs k).1 := by unfold opI; rw [hx]; omega
    have hb : badB ws (sizeTo rs k) = false := badB_false (fun h => by
      unfold badAt at h
      rw [hc] at h
      omega)
    have hm : midL ws (sizeTo rs k + 1) (cntN ws (sizeTo rs k) - 1) = (nthR rs k).2 := by
      rw [hc, hsp, midL, ← hlk]
      have : (writeTo gen bound rs k ++ (rawW (nthR rs k) ++ (rs.drop (k + 1)).flatMap rawW)) = (writeTo gen bound rs k ++ [((nthR rs k).2.length + 1 : Int) * 65536 + (nthR rs k).1]) ++ ((nthR rs k).2 ++ (rs.drop (k + 1)).flatMap rawW) := by simp [rawW]
      rw [this, List.drop_left' (by simp), Nat.add_sub_cancel, List.take_left' rfl]
    have hnx : sizeTo rs k + cntN ws (sizeTo rs k) = sizeTo rs (k + 1) := by rw [hc, sizeTo_succ rs k hkl]; omega
    obtain ⟨i1, i2⟩ := ih (k + 1) (by omega) (by omega)
    rw [rest_go ws _ (by omega) hb, stop_go ws _ (by omega) hb, hnx, List.map_cons, i1, i2, drop_cons rs k hkl]
    refine ⟨?_, rfl⟩
    congr 1
    unfold rawAt
    rw [ho, hm]

theorem headE_write (gen bound : Int) (ys : List Int) (hb1 : ¬ bound = 0) (hb2 : ¬ 65536 < bound) : headE ([119734787, 65536, gen, bound, 0] ++ ys) 0 = (0, 0) := by
  have hl : 5 ≤ ([119734787, 65536, gen, bound, 0] ++ ys).length := by simp
  rw [headE_step _ 0 (by omega), if_neg (by omega), if_neg (by simp [nth, wrongE]), headE_step _ 1 (by omega), if_neg (by omega), if_neg (by simp [nth, wrongE]), headE_step _ 2 (by omega), if_neg (by omega), if_neg (by simp [wrongE]),
    headE_step _ 3 (by omega), if_neg (by omega), if_neg (by simp [nth, wrongE, hb1, hb2]), headE_step _ 4 (by omega), if_neg (by omega), if_neg (by simp [nth, wrongE])]
  exact headE_end _

theorem writeTo_within (gen bound : Int) (hg0 : 0 ≤ gen) (hg1 : gen < 4294967296) (hb0 : 0 ≤ bound) (hb1 : bound < 4294967296) (rs : List (Int × List Int)) (hok : RawsOk rs) (hsm : ∀ j, j < rs.length → (nthR rs j).2.length < 65535) : Within 4294967296 (writeTo gen bound rs rs.length) := by
  intro z hz
  unfold writeTo at hz
  rw [List.take_length, List.mem_append] at hz
  rcases hz with hz | hz
  · simp at hz; omega
  · obtain ⟨r, hr, hz⟩ := List.mem_flatMap.1 hz
    obtain ⟨j, hj, rfl⟩ := List.mem_iff_getElem.1 hr
    have e : nthR rs j = rs[j] := by simp [nthR, List.getD, hj]
    obtain ⟨o1, o2, o3, _⟩ := hok j hj
    have h1 := hsm j hj
    rw [e] at o1 o2 o3 h1
    simp only [rawW, List.mem_cons] at hz
    rcases hz with rfl | hz
    · constructor <;> omega
    · exact o3 z hz

/-- Read of what Write answers. -/
theorem read_write (gen bound : Int) (rs : List (Int × List Int)) (hok : RawsOk rs) (hz : fault rs 0 = (0, 0)) (hb1 : ¬ bound = 0) (hb2 : ¬ 65536 < bound) :
    readE (writeTo gen bound rs rs.length) = (0, 0) ∧ readL (writeTo gen bound rs rs.length) = rs ∧ readAt (writeTo gen bound rs rs.length) 2 = gen ∧ readAt (writeTo gen bound rs rs.length) 3 = bound := by
  have hn := fault_none rs (by rw [hz])
  have hlen := writeTo_len gen bound rs rs.length (Nat.le_refl _)
  obtain ⟨h1, h2⟩ := rest_write gen bound rs hok (fun j hj => (hn rs.length (Nat.le_refl _)).2 j hj) rs.length 0 rfl (by omega)
  rw [sizeTo_zero] at h1 h2
  rw [List.drop_zero] at h1
  have hh : headE (writeTo gen bound rs rs.length) 0 = (0, 0) := headE_write gen bound _ hb1 hb2
  have he : readE (writeTo gen bound rs rs.length) = (0, 0) := by
    unfold readE
    rw [if_neg (by have := (hn rs.length (Nat.le_refl _)).1; omega), hh, if_neg (by simp), if_neg (by omega)]
  refine ⟨he, ?_, ?_, ?_⟩
  · unfold readL; rw [he, if_pos rfl]; exact h1
  · unfold readAt; rw [he, if_pos rfl]; rfl
  · unfold readAt; rw [he, if_pos rfl]; rfl

end Go.Proofs.YtmobologlaeefaaGreat

/-
  What raws of the package code answers: a module's instructions as words, or the first that is wrong.
-/
namespace Go.Proofs.YtmobologlaeefaaGreat
open Go.RowKit
set_option linter.unusedVariables false
set_option linter.unusedSimpArgs false
set_option maxRecDepth 10000

set_option maxHeartbeats 2000000 in
/-- Of a bound that may not be. -/
theorem raws_bad (gen bound : Int) (a : Option Addr) (n cap : Nat) (l : List InstT) (w : World) (hg0 : 0 ≤ gen) (hg1 : gen < 4294967296) (hb0 : 0 ≤ bound) (hb1 : bound < 4294967296) (hv : InstsV w a l) (hok : InstsOk l) (hl : l.length = n) (hn : 40 * n ≤ 140737488351232) (h1 : bound = 0 ∨ 65536 < bound) :
    Calls Tryz.prog 33 #[modV gen bound a n cap] w fun e w' => Below w.heap.size w w' ∧ ∃ ax cx m, e = .returned (.tuple #[.slice ax m cx, .agg #[.int .i64 (shapeE bound l).1, .int .i64 (shapeE bound l).2]]) ∧ (rawsR bound l).length = m ∧ m ≤ cx ∧ RawsV w' ax (rawsR bound l) := by
  have hH := fun w => headOf_any gen bound a n cap w
  have hW := fun w => writeC gen bound none 0 0 [] w hg0 hg1 hb0 hb1 rawsV_nil (fun j hj => by simp at hj) rfl (by omega) (by omega)
  unfold modV at hH ⊢
  have HL : Hid (l.length = n) := hl
  have e1 : writeE bound [] = (24, 0) := by unfold writeE; rw [if_pos h1]
  have e2 : shapeE bound l = (24, 0) := by unfold shapeE; rw [if_pos h1]
  have e3 : rawsR bound l = [] := by unfold rawsR; rw [e2]; rfl
  rw [e1] at hW
  rw [e2, e3]
  clear e1 e2 e3 h1 hv hok hl
  go_enter Tryz.func33, Tryz.ntmps33
  go_wp2_with fail
  have hB0 : Below w.heap.size w ((w.alloc (.cells #[.int .u32 gen, .int .u32 bound, .slice a n cap] 25)).alloc (.cells #[.int .i64 0, .int .i64 0] 28)) := ((Below.refl _ w).alloc (Nat.le_refl _) _).alloc (by simp) _
  have kX : ((w.alloc (.cells #[.int .u32 gen, .int .u32 bound, .slice a n cap] 25)).alloc (.cells #[.int .i64 0, .int .i64 0] 28)).heap[w.heap.size + 1]? = some (.cells #[.int .i64 0, .int .i64 0] 28 (0, 0)) := by simpa using alloc_new (w.alloc (.cells #[.int .u32 gen, .int .u32 bound, .slice a n cap] 25)) #[.int .i64 0, .int .i64 0] 28
  generalize (w.alloc (.cells #[.int .u32 gen, .int .u32 bound, .slice a n cap] 25)).alloc (.cells #[.int .i64 0, .int .i64 0] 28) = W0 at *
  have l0 := (Array.getElem?_eq_some_iff.1 kX).1
  refine (hH _).mono ?_
  rintro e w1 ⟨rfl, hb1'⟩
  have s1 := hb1'.size
  go_wp2_with fail
  refine (hW _).mono ?_
  rintro e w2 ⟨hb2, ax, cx, m, rfl, hm, hown⟩
  have s2 := hb2.size
  have hb3 : Below w2.heap.size w2 (w2.alloc (.cells #[.int .i64 24, .int .i64 0] 28)) := (Below.refl _ _).alloc (Nat.le_refl _) _
  have hbA := hb1'.trans ((hb2.trans (hb3.mono s2)).mono s1)
  have kX3 := (hbA.block _ l0).trans kX
  have kS := alloc_new w2 #[.int .i64 24, .int .i64 0] 28
  have hbW := hB0.trans (hbA.mono hB0.size)
  obtain ⟨c0, c1, _⟩ := cell_of_two kX3
  have f0 := (one_block kX3).2 0
  have f1 := (one_block kX3).2 1
  obtain ⟨d0, d1, _⟩ := cell_of_two kS
  have hne : w2.heap.size ≠ w.heap.size + 1 := by omega
  clear hb1' hb2 hb3 hbA hown hm hH hW
  have hz : ((0 : Nat) : Int) = 0 := rfl
  go_wp2
  go_region
  go_wp2
  have hB := two_put2 kX3 (.int .i64 24) (.int .i64 0)
  have hBel := (hbW.trans ((two_below (w2.alloc (.cells #[.int .i64 24, .int .i64 0] 28)) (w.heap.size + 1) (.int .i64 24) (.int .i64 0)).mono (by omega))).drew
  have hB' : ((((w2.alloc (.cells #[.int .i64 24, .int .i64 0] 28)).setCell ⟨w.heap.size + 1, 0, none⟩ (.int .i64 24)).setCell ⟨w.heap.size + 1, 1, none⟩ (.int .i64 0)).drew).heap[w.heap.size + 1]? = some (.cells #[.int .i64 24, .int .i64 0] 28 (0, 0)) := hB
  clear c0 c1 f0 f1 d0 d1 kX3 kS hB
  generalize (((w2.alloc (.cells #[.int .i64 24, .int .i64 0] 28)).setCell ⟨w.heap.size + 1, 0, none⟩ (.int .i64 24)).setCell ⟨w.heap.size + 1, 1, none⟩ (.int .i64 0)).drew = WF at hB' hBel ⊢
  obtain ⟨g0, g1, _⟩ := cell_of_two hB'
  refine bodyPost_ret (v := .tuple #[.slice none 0 0, .agg #[.int .i64 24, .int .i64 0]]) ?_ rfl ⟨hBel, none, 0, 0, rfl, rfl, Nat.le_refl _, rawsV_nil⟩
  simp [results, Tryz.results33, go_sem, g0, g1]

theorem Raws.info : (Tryz.prog.info? 93).map (fun i => (i.zero, i.size, i.bytes)) = some (some (.agg #[.int .u16 0, .slice none 0 0]), 2, 32) := by kernel_rfl

/-- A module's words while they are gathered. -/
structure RawsS (w wr : World) (gen bound : Int) (a : Option Addr) (n cap : Nat) (v : Value) (rs : List (Int × List Int)) : Prop where
  row : ∃ cs, wr.ownsRow (w.heap.size + 2) 93 2 v rs.length cs ∧ RowO wr (w.heap.size + 2) v.ownBlock rs cs
  mbox : wr.heap[w.heap.size]? = some (.cells #[.int .u32 gen, .int .u32 bound, .slice a n cap] 25 (0, 0))
  sbox : wr.heap[w.heap.size + 1]? = some (.cells #[.int .i64 0, .int .i64 0] 28 (0, 0))
  bel : Below w.heap.size w wr

theorem RawsS.below {w wr wr' : World} {gen bound : Int} {a : Option Addr} {n cap : Nat} {v : Value} {rs : List (Int × List Int)} (h : RawsS w wr gen bound a n cap v rs) (hb : Below wr.heap.size wr wr') : RawsS w wr' gen bound a n cap v rs := by
  obtain ⟨cs, h1, h2⟩ := h.row
  exact ⟨⟨cs, own_below h1 hb, h2.below hb⟩, (hb.block _ (Array.getElem?_eq_some_iff.1 h.mbox).1).trans h.mbox, (hb.block _ (Array.getElem?_eq_some_iff.1 h.sbox).1).trans h.sbox, h.bel.trans (hb.mono h.bel.size)⟩
theorem RawsS.push {w wr W w6 : World} {gen bound : Int} {a : Option Addr} {n cap : Nat} {v v' : Value} {rs : List (Int × List Int)} {cs : List Value} {op : Int} {ms : List Int} {aj : Option Addr} {nj cj g' : Nat} (h : RawsS w wr gen bound a n cap v rs) (h1 : wr.ownsRow (w.heap.size + 2) 93 2 v rs.length cs) (h2 : RowO wr (w.heap.size + 2) v.ownBlock rs cs)
    (hb : Below wr.heap.size wr W) (hs : W.ownsRow wr.heap.size 22 1 (.slice aj nj cj) nj (ms.map (Value.int .u32))) (hl : ms.length = nj) (hg : W.grownBy w6 v.ownBlock) (hat : v.ownBlock = some g' ∨ g' = W.heap.size) (hv' : v'.ownBlock = some g')
    (hown : w6.ownsRow (w.heap.size + 2) 93 2 v' (rs.length + 1) (cs ++ [.int .u16 op, .slice aj nj cj])) : RawsS w w6 gen bound a n cap v' (rs ++ [(op, ms)]) := by
  have hlo : ∀ g, v.ownBlock = some g → w.heap.size + 2 ≤ g ∧ g < wr.heap.size := fun g e => h1.lt g e
  have hl1 := (Array.getElem?_eq_some_iff.1 h.sbox).1
  have hS := h.below hb
  have hl2 := (Array.getElem?_eq_some_iff.1 hS.sbox).1
  refine ⟨⟨_, by rw [List.length_append]; exact hown, by rw [hv']; exact h2.push hb hs hl (fun b e => (hlo b e).2) (by omega) hg hat⟩, ?_, ?_, ?_⟩
  · exact (hg.block _ (by omega) (fun e => by have := (hlo _ e.symm).1; omega)).trans hS.mbox
  · exact (hg.block _ hl2 (fun e => by have := (hlo _ e.symm).1; omega)).trans hS.sbox
  · exact hS.bel.grown hg hS.bel.size (fun k e => by have := (hlo k e).1; omega)

theorem spot_store {w wr : World} {gen bound : Int} {a : Option Addr} {n cap : Nat} {v : Value} {rs : List (Int × List Int)} (h : RawsS w wr gen bound a n cap v rs) : wr.cell? ⟨w.heap.size + 1, 0, none⟩ = some (.int .i64 0) ∧ wr.cell? ⟨w.heap.size + 1, 1, none⟩ = some (.int .i64 0) ∧ wr.frozen? ⟨w.heap.size + 1, 0, none⟩ = false ∧ wr.frozen? ⟨w.heap.size + 1, 1, none⟩ = false := by
  obtain ⟨hc, hf⟩ := one_block h.sbox
  exact ⟨hc 0, hc 1, hf 0, hf 1⟩

set_option maxHeartbeats 4000000 in
/-- Of a bound that may be. -/
theorem raws_ok (gen bound : Int) (a : Option Addr) (n cap : Nat) (l : List InstT) (w : World) (hg0 : 0 ≤ gen) (hg1 : gen < 4294967296) (hb0 : 0 ≤ bound) (hb1 : bound < 4294967296) (hv : InstsV w a l) (hok : InstsOk l) (hl : l.length = n) (hn : 40 * n ≤ 140737488351232) (h1 : ¬ (bound = 0 ∨ 65536 < bound)) :
    Calls Tryz.prog 33 #[modV gen bound a n cap] w fun e w' => Below w.heap.size w w' ∧ ∃ ax cx m, e = .returned (.tuple #[.slice ax m cx, .agg #[.int .i64 (shapeE bound l).1, .int .i64 (shapeE bound l).2]]) ∧ (rawsR bound l).length = m ∧ m ≤ cx ∧ RawsV w' ax (rawsR bound l) := by
  obtain ⟨i0, hi, hz0, hz1, hz2⟩ := info_parts Raws.info
  have HI : Hid (Tryz.prog.info? 93 = some i0 ∧ i0.zero = some (.agg #[.int .u16 0, .slice none 0 0]) ∧ i0.size = 2 ∧ i0.bytes = 32) := ⟨hi, hz0, hz1, hz2⟩
  clear hi hz0 hz1 hz2
  have hH := fun w => headOf_any gen bound a n cap w
  have hW := fun w => writeC gen bound none 0 0 [] w hg0 hg1 hb0 hb1 rawsV_nil (fun j hj => by simp at hj) rfl (by omega) (by omega)
  unfold modV at hH ⊢
  have HL : Hid (l.length = n) := hl
  have e1 : writeE bound [] = (0, 0) := by unfold writeE; rw [if_neg h1]; rfl
  have e2 : writeL gen bound [] = [119734787, 65536, gen, bound, 0] := by unfold writeL; rw [e1]; rfl
  rw [e1, e2] at hW
  have HE : Hid (shapeE bound l = shapeF bound 0 5 l) := by show _ = _; unfold shapeE; rw [if_neg h1]
  have HV : Hid (InstsV w a l) := hv
  have HOK : Hid (InstsOk l) := hok
  clear e1 e2 h1 hv hok hl
  obtain ⟨E, hE⟩ : ∃ E, E = shapeE bound l := ⟨_, rfl⟩
  obtain ⟨RR, hRR⟩ : ∃ RR, RR = rawsR bound l := ⟨_, rfl⟩
  rw [← hE, ← hRR]
  have HEE : Hid (E = shapeE bound l) := hE
  have HRR : Hid (RR = rawsR bound l) := hRR
  clear hE hRR
  go_enter Tryz.func33, Tryz.ntmps33
  go_wp2_with fail
  have hB0 : Below w.heap.size w ((w.alloc (.cells #[.int .u32 gen, .int .u32 bound, .slice a n cap] 25)).alloc (.cells #[.int .i64 0, .int .i64 0] 28)) := ((Below.refl _ w).alloc (Nat.le_refl _) _).alloc (by simp) _
  have hS0 : RawsS w ((w.alloc (.cells #[.int .u32 gen, .int .u32 bound, .slice a n cap] 25)).alloc (.cells #[.int .i64 0, .int .i64 0] 28)) gen bound a n cap (.slice none 0 0) [] :=
    ⟨⟨[], World.ownsRow_nil _ _ _ _, rowO_nil⟩, (Below.heap_alloc _ _ _ (by simp)).trans (alloc_new w _ _), by simpa using alloc_new (w.alloc (.cells #[.int .u32 gen, .int .u32 bound, .slice a n cap] 25)) #[.int .i64 0, .int .i64 0] 28, hB0⟩
  clear hB0
  generalize (w.alloc (.cells #[.int .u32 gen, .int .u32 bound, .slice a n cap] 25)).alloc (.cells #[.int .i64 0, .int .i64 0] 28) = W0 at *
  refine (hH _).mono ?_
  rintro e w1 ⟨rfl, hb1'⟩
  have hS1 := hS0.below hb1'
  clear hS0 hb1' hH
  go_wp2_with fail
  refine (hW _).mono ?_
  rintro e w2 ⟨hb2, ax, cx, m, rfl, hm, hown⟩
  obtain rfl : 5 = m := hm
  have hS2 := hS1.below hb2
  have hS3 := hS2.below ((Below.refl _ w2).alloc (Nat.le_refl _) (.cells #[.int .i64 0, .int .i64 0] 28))
  obtain ⟨d0, d1, _⟩ := cell_of_two (alloc_new w2 #[.int .i64 0, .int .i64 0] 28)
  have m2 := (one_block hS3.mbox).1 2
  have HS3 : Hid _ := hS3
  clear hS1 hb2 hS2 hS3 hown hW
  go_wp2
  go_loopw [6, 7, 27] (fun c v i wr => ∃ k : Nat, k ≤ n ∧ i = .int .i64 k ∧ c = .int .i64 (sizeTo (rawsL bound l) k) ∧ sizeTo (rawsL bound l) k ≤ 1048576 ∧ E = shapeF bound k (sizeTo (rawsL bound l) k) (l.drop k) ∧ RawsS w wr gen bound a n cap v (rawsL bound (l.take k))) (fun _ _ i _ => n - (intOf i).toNat)
  case atStart => exact ⟨0, Nat.zero_le _, rfl, rfl, by rw [sizeTo_zero]; decide, by rw [HEE.out, HE.out, sizeTo_zero]; rfl, HS3.out⟩
  case round =>
    obtain ⟨k, hk, rfl, rfl, hsz, hEk, hS⟩ := hrel
    clear HS3 d0 d1 m2 HE
    have HEK : Hid (E = shapeF bound k (sizeTo (rawsL bound l) k) (l.drop k)) := hEk
    clear hEk
    have hA := HV.out.below hS.bel
    obtain ⟨a', cap', rfl⟩ : ∃ a cap, u7 = .slice a (rawsL bound (l.take k)).length cap := by
      obtain ⟨cs, h1, _⟩ := hS.row
      rcases h1.2 with ⟨rfl, h0⟩ | ⟨g, cap, cur, rfl, _⟩
      · exact ⟨none, 0, by rw [h0]⟩
      · exact ⟨_, _, rfl⟩
    have hlk : (rawsL bound (l.take k)).length = k := by rw [rawsL_len, List.length_take, HL.out]; omega
    rw [hlk] at hS ⊢
    by_cases hlt : k < n
    · have hkl : k < l.length := by rw [HL.out]; exact hlt
      obtain ⟨b1, o1, aj, cj, nj, rfl, hbl, p1, p2, p3, p4, p5, p6, p7⟩ := hA k hkl
      have hEs := shape_step bound l k hkl
      have hss := sizeTo_succ (rawsL bound l) k (by rw [rawsL_len]; exact hkl)
      rw [nthR_raws bound l k hkl] at hss
      have htk := rawsL_take bound l k hkl
      have hRn := HRR.out
      have hox := HOK.out k hkl
      have hRaw := fun wx (hx : Below wr.heap.size wr wx) => raw_any (nthI l k) bound aj nj cj wx (p6.below hx) hox p5
      have hEk := HEK.out
      rw [hEs] at hEk
      have HEK2 : Hid _ := hEk
      have HSS : Hid _ := hss
      have HTK : Hid _ := htk
      have hro : rawE (nthI l k) bound = 0 → rawO (nthI l k) bound = (nthI l k).1 := fun h => by unfold rawO; rw [if_pos h]
      clear hEs hss htk HEK hEk hRn hA p6 hox
      generalize hx : nthI l k = x at *
      have hki : (k : Int) < (n : Int) := by omega
      have hk0 : (0 : Int) ≤ (k : Int) := by omega
      obtain ⟨xo, xt, xr, xl⟩ := x
      unfold instV at hRaw
      simp only at *
      have mb := (one_block (hS.below ((Below.refl _ wr).alloc (Nat.le_refl _) (.cells #[.int .u16 xo, .int .u32 xt, .int .u32 xr, .slice aj nj cj] 41))).mbox).1 1
      have hbA : Below wr.heap.size wr (wr.alloc (.cells #[.int .u16 xo, .int .u32 xt, .int .u32 xr, .slice aj nj cj] 41)) := (Below.refl _ wr).alloc (Nat.le_refl _) _
      have hC := hRaw _ hbA
      go_wp2_with fail
      generalize wr.alloc (.cells #[.int .u16 xo, .int .u32 xt, .int .u32 xr, .slice aj nj cj] 41) = WA at *
      refine hC.mono ?_
      rintro e w5 ⟨hb5, a5, m5, c5, rfl, hm5, hown5⟩
      have hbB : Below wr.heap.size wr w5 := hbA.trans (hb5.mono hbA.size)
      have hS5 := hS.below hbB
      have hown5' := own_lo hown5 hbA.size
      clear hC hRaw hb5 hbA mb p1 p2 p3 p4 hown5
      have HM5 : Hid _ := hm5
      by_cases hr : rawE (xo, xt, xr, xl) bound = 0
      · have hro' := hro hr
        rw [hr, hro']
        have hEk := HEK2.out
        rw [if_neg (by simp [hr])] at hEk
        have HEK3 : Hid _ := hEk
        clear hro hro' hEk HEK2
        have hbC : Below wr.heap.size wr (w5.alloc (.cells #[.int .u16 xo, .slice a5 m5 c5] 93)) := hbB.alloc hbB.size _
        obtain ⟨q0, q1, _⟩ := cell_of_two (alloc_new w5 #[.int .u16 xo, .slice a5 m5 c5] 93)
        have hss : (sizeTo (rawsL bound l) (k + 1) : Nat) = sizeTo (rawsL bound l) k + 1 + m5 := by rw [HSS.out, HM5.out]
        have hm5b : m5 < 65535 := by rw [← HM5.out]; exact rawWs_len _ _
        by_cases hbig : 1048576 < sizeTo (rawsL bound l) (k + 1)
        · have hE4 : E = (4, k) := by rw [HEK3.out, if_pos hbig]
          have hbig' : (1048576 : Int) < (sizeTo (rawsL bound l) k : Int) + (1 + (m5 : Int)) := by omega
          generalize sizeTo (rawsL bound l) k = sz at *
          clear hbC hbig hss HEK3 HSS HTK hr HM5 hm5
          have hR : RR = [] := by rw [HRR.out, rawsR, ← HEE.out, hE4, if_neg (by first | exact hr | simp)]
          subst hR hE4
          have hS6 := hS5.below ((Below.refl _ w5).alloc (Nat.le_refl _) (.cells #[.int .u16 xo, .slice a5 m5 c5] 93))
          obtain ⟨s0, s1, f0, f1⟩ := spot_store hS6
          have hB3 := two_put2 hS6.sbox (.int .i64 4) (.int .i64 (k : Int))
          have hBel := hS6.bel.trans ((two_below (w5.alloc (.cells #[.int .u16 xo, .slice a5 m5 c5] 93)) (w.heap.size + 1) (.int .i64 4) (.int .i64 (k : Int))).mono (by omega))
          have HB3 : Hid _ := hB3
          have HBel : Hid _ := hBel
          clear hS6 hS5 hS hbB hown5' hB3 hBel HRR HEE HV HOK
          go_wp2
          have hB3 := HB3.out
          have hBel := HBel.out
          clear HB3 HBel s0 s1 f0 f1
          generalize ((w5.alloc _).setCell _ _).setCell _ _ = W at hB3 hBel ⊢
          obtain ⟨hd, _⟩ := one_block hB3
          have d0 := hd 0
          have d1 := hd 1
          refine bodyPost_ret (v := .tuple #[.slice none 0 0, .agg #[.int .i64 4, .int .i64 (k : Int)]]) ?_ rfl ⟨hBel, none, 0, 0, rfl, rfl, Nat.le_refl _, rawsV_nil⟩
          simp [results, Tryz.results33, go_sem, d0, d1]
        · have hE5 : E = shapeF bound (k + 1) (sizeTo (rawsL bound l) (k + 1)) (l.drop (k + 1)) := by rw [HEK3.out, if_neg hbig]
          have HE5 : Hid _ := hE5
          have hbig' : ¬ (1048576 : Int) < (sizeTo (rawsL bound l) k : Int) + (1 + (m5 : Int)) := by omega
          have HBG : Hid (sizeTo (rawsL bound l) (k + 1) ≤ 1048576) := by show _ ≤ _; omega
          have HSK : Hid ((sizeTo (rawsL bound l) k : Int) + (1 + (m5 : Int)) = (sizeTo (rawsL bound l) (k + 1) : Nat)) := by show _ = _; omega
          obtain ⟨cs, hc1, hc2⟩ := hS.row
          have N0 : Below wr.heap.size wr ((w5.alloc (.cells #[.int .u16 xo, .slice a5 m5 c5] 93)).alloc (.cells #[.int .u16 xo, .slice a5 m5 c5] 93)) := hbC.alloc hbC.size _
          have N1 : Hid (((w5.alloc (.cells #[.int .u16 xo, .slice a5 m5 c5] 93)).alloc (.cells #[.int .u16 xo, .slice a5 m5 c5] 93)).ownsRow (w.heap.size + 2) 93 2 (.slice a' k cap') k cs) := own_below (by rw [hlk] at hc1; exact hc1) N0
          have N2 : Hid (∀ (j : Nat) (u : Value), [Value.int .u16 xo, .slice a5 m5 c5][j]? = some u → ((w5.alloc (.cells #[.int .u16 xo, .slice a5 m5 c5] 93)).alloc (.cells #[.int .u16 xo, .slice a5 m5 c5] 93)).cell? ((⟨w5.heap.size + 1, 0, none⟩ : Addr).add j) = some u) := World.news_of_block (cs := #[.int .u16 xo, .slice a5 m5 c5]) (t := 93) (fr := (0, 0)) (by first | exact alloc_new _ _ _ | simpa using alloc_new (w5.alloc (.cells #[.int .u16 xo, .slice a5 m5 c5] 93)) #[.int .u16 xo, .slice a5 m5 c5] 93)
          have N3 : Hid (∀ u : Value, u ∈ [Value.int .u16 xo, .slice a5 m5 c5] → u.oneCell' = true) := by intro u hu; simp at hu; rcases hu with rfl | rfl <;> rfl
          have N4 : k + 1 ≤ maxLen := by unfold maxLen; omega
          have N5 : (k + 1) * 32 ≤ 140737488355328 := by omega
          have hl1 := (Array.getElem?_eq_some_iff.1 hS.sbox).1
          have N6 : Hid (w.heap.size + 2 ≤ ((w5.alloc (.cells #[.int .u16 xo, .slice a5 m5 c5] 93)).alloc (.cells #[.int .u16 xo, .slice a5 m5 c5] 93)).heap.size) := by show _ ≤ _; have := N0.size; omega
          have N7 : Hid (((w5.alloc (.cells #[.int .u16 xo, .slice a5 m5 c5] 93)).alloc (.cells #[.int .u16 xo, .slice a5 m5 c5] 93)).ownsRow wr.heap.size 22 1 (.slice a5 m5 c5) m5 ((rawWs (xo, xt, xr, xl) bound).map (Value.int .u32))) := own_below (own_below hown5' ((Below.refl _ w5).alloc (Nat.le_refl _) _)) ((Below.refl _ _).alloc (Nat.le_refl _) _)
          have HN0 : Hid _ := N0
          have HS : Hid _ := hS
          have HC1 : Hid _ := hc1
          have HC2 : Hid _ := hc2
          have HLK : Hid _ := hlk
          clear hS hS5 hbB hbC hown5' N0 hc1 hc2 hss hbig hr HEK3 hE5 hm5 hlk hl1
          generalize sizeTo (rawsL bound l) k = sz at *
          go_wp2_with (at_builtin; refine wpList_append_lies _ rfl (.tmp 54) (.tmp 56) 75 rfl (w.heap.size + 2) 93 i0 (.agg #[.int .u16 0, .slice none 0 0]) 2 32 Tryz.underlying75 HI.out.1 HI.out.2.1 HI.out.2.2.1 HI.out.2.2.2 rfl (by decide) (.slice a' k cap') k cs rfl N1.out ⟨w5.heap.size + 1, 0, none⟩ 1 1 [.int .u16 xo, .slice a5 m5 c5] rfl rfl N2.out N3.out (by decide) N4 N5 N6.out _ rfl ?_)
          intro g6 cap6 w6 hown6 hgr6 hat6 hlt6
          have hS6 := HS.out.push (v' := .slice (some ⟨g6, 0, none⟩) (k + 1) cap6) HC1.out HC2.out HN0.out N7.out HM5.out hgr6 (by simpa using hat6) rfl (by rw [HLK.out]; exact hown6)
          rw [← HTK.out] at hS6
          have HS6 : Hid _ := hS6
          clear hS6 hown6 hgr6 hat6 N1 N2 N3 N6 N7 HN0 HS HC1 HC2 q0 q1
          go_wp2
          go_roundw
          case rel => exact ⟨k + 1, by omega, by go_num, by first | exact congrArg (Value.int .i64) HSK.out | (rw [← HSK.out]), HBG.out, HE5.out, HS6.out⟩
          case measure => simp [intOf]; omega
      · have hE4 : E = (rawE (xo, xt, xr, xl) bound, k) := by rw [HEK2.out, if_pos hr]
        generalize rawE (xo, xt, xr, xl) bound = er at *
        generalize rawO (xo, xt, xr, xl) bound = ro at *
        generalize sizeTo (rawsL bound l) k = sz at *
        clear HEK2 HSS HTK HM5 hm5 hro
        have hR : RR = [] := by rw [HRR.out, rawsR, ← HEE.out, hE4, if_neg (by first | exact hr | simp)]
        subst hR hE4
        have hS6 := hS5.below ((Below.refl _ w5).alloc (Nat.le_refl _) (.cells #[.int .u16 ro, .slice a5 m5 c5] 93))
        obtain ⟨s0, s1, f0, f1⟩ := spot_store hS6
        have hB3 := two_put2 hS6.sbox (.int .i64 er) (.int .i64 (k : Int))
        have hBel := hS6.bel.trans ((two_below (w5.alloc (.cells #[.int .u16 ro, .slice a5 m5 c5] 93)) (w.heap.size + 1) (.int .i64 er) (.int .i64 (k : Int))).mono (by omega))
        have HB3 : Hid _ := hB3
        have HBel : Hid _ := hBel
        clear hS6 hS5 hS hbB hown5' hB3 hBel HRR HEE HV HOK
        go_wp2
        have hB3 := HB3.out
        have hBel := HBel.out
        clear HB3 HBel s0 s1 f0 f1
        generalize ((w5.alloc _).setCell _ _).setCell _ _ = W at hB3 hBel ⊢
        obtain ⟨hd, _⟩ := one_block hB3
        have d0 := hd 0
        have d1 := hd 1
        refine bodyPost_ret (v := .tuple #[.slice none 0 0, .agg #[.int .i64 er, .int .i64 (k : Int)]]) ?_ rfl ⟨hBel, none, 0, 0, rfl, rfl, Nat.le_refl _, rawsV_nil⟩
        simp [results, Tryz.results33, go_sem, d0, d1]
    · obtain rfl : k = n := by omega
      have hR : RR = rawsL bound (l.take k) := by
        rw [HRR.out, rawsR, ← HEE.out, HEK.out, shape_end bound l k _ (by rw [HL.out]; exact Nat.le_refl _), if_pos rfl, List.take_of_length_le (by rw [HL.out]; exact Nat.le_refl _)]
      have hE0 : E = (0, 0) := by rw [HEK.out, shape_end bound l k _ (by rw [HL.out]; exact Nat.le_refl _)]
      subst hR hE0
      obtain ⟨s0, s1, f0, f1⟩ := spot_store hS
      obtain ⟨cs, hown, hrow⟩ := hS.row
      rw [hlk] at hown
      have hcap : k ≤ cap' := by
        rcases hown.2 with ⟨h1, h2⟩ | ⟨g, c', cur, h1, _, _, h4, _⟩
        · omega
        · cases h1; exact h4
      have hB3 := two_put2 hS.sbox (.int .i64 0) (.int .i64 0)
      have hBel := hS.bel.trans ((two_below wr (w.heap.size + 1) (.int .i64 0) (.int .i64 0)).mono (by omega))
      have hV3 : RawsV ((wr.setCell ⟨w.heap.size + 1, 0, none⟩ (.int .i64 0)).setCell ⟨w.heap.size + 1, 1, none⟩ (.int .i64 0)) a' (rawsL bound (l.take k)) := by
        refine ((hrow.grown ((grown_setCell wr (w.heap.size + 1) 0 _).trans (grown_setCell _ (w.heap.size + 1) 1 _)) (fun g e => .inl (by cases e; omega))).own (own_apartly hown ((grown_setCell wr (w.heap.size + 1) 0 _).trans (grown_setCell _ (w.heap.size + 1) 1 _)) (fun g e => .inl (by cases e; omega))) hlk).view
      have HV3 : Hid _ := hV3
      clear hown hrow hV3 HOK HV HRR HEE HEK hA
      go_wp2
      generalize (wr.setCell ⟨w.heap.size + 1, 0, none⟩ (.int .i64 0)).setCell ⟨w.heap.size + 1, 1, none⟩ (.int .i64 0) = W at hB3 hBel HV3 ⊢
      obtain ⟨hd, _⟩ := one_block hB3
      have d0 := hd 0
      have d1 := hd 1
      refine bodyPost_ret (v := .tuple #[.slice a' k cap', .agg #[.int .i64 0, .int .i64 0]]) ?_ rfl ⟨hBel, a', cap', k, rfl, by first | exact hlk | rfl, hcap, HV3.out⟩
      simp [results, Tryz.results33, go_sem, d0, d1]

theorem raws_any (gen bound : Int) (a : Option Addr) (n cap : Nat) (l : List InstT) (w : World) (hg0 : 0 ≤ gen) (hg1 : gen < 4294967296) (hb0 : 0 ≤ bound) (hb1 : bound < 4294967296) (hv : InstsV w a l) (hok : InstsOk l) (hl : l.length = n) (hn : 40 * n ≤ 140737488351232) :
    Calls Tryz.prog 33 #[modV gen bound a n cap] w fun e w' => Below w.heap.size w w' ∧ ∃ ax cx m, e = .returned (.tuple #[.slice ax m cx, .agg #[.int .i64 (shapeE bound l).1, .int .i64 (shapeE bound l).2]]) ∧ (rawsR bound l).length = m ∧ m ≤ cx ∧ RawsV w' ax (rawsR bound l) := by
  by_cases h1 : bound = 0 ∨ 65536 < bound
  · exact raws_bad gen bound a n cap l w hg0 hg1 hb0 hb1 hv hok hl hn h1
  · exact raws_ok gen bound a n cap l w hg0 hg1 hb0 hb1 hv hok hl hn h1

end Go.Proofs.YtmobologlaeefaaGreat
