/-
  What Write of frame returns, for every head and every list of instructions: its error and its place, or the words, in new memory.
-/
import Derived.WalkSpells
import Derived.BigRegion
import Derived.Deep.RegionLaw
import Derived.Deep.AppendLies
import Derived.Deep.DrawnRows
import Derived.Test.YtjpbiakbjpiceabAppend
import Derived.Test.YtjpbiakbjpiceabFrame
import Derived.Test.YtjpbiakbjpiceabFrameSmall
import Derived.Test.YtjpbiakbjpiceabFrameMeasure
namespace Go.Proofs.Ytjpbiakbjpiceab
open Go.RowKit

theorem write_bound (gen bound : Int) (a : Option Addr) (n cap : Nat) (w : World) (hb0 : 0 ≤ bound) (hb1 : bound < 4294967296) (hb : bound = 0 ∨ 65536 < bound) :
    Calls Try.prog 18 #[.agg #[.int .u32 gen, .int .u32 bound], .slice a n cap] w fun e w' => e = .returned (.tuple #[.slice none 0 0, .agg #[.int .i64 24, .int .i64 0]]) ∧ Below w.heap.size w w' := by
  have hM := fun w => mayBeBound_any bound w hb0 hb1
  have e1 : (!(decide (bound = 0) || decide (65536 < bound))) = false := by rcases hb with h1 | h1 <;> simp [h1]
  rw [e1] at hM
  clear hb e1
  go_enter Try.func18, Try.ntmps18
  go_wp2_with (go_at_call 37; refine (hM _).mono ?_; rintro e w' ⟨rfl, rfl⟩)
  exact bodyPost_ret (v := .tuple #[.slice none 0 0, .agg #[.int .i64 24, .int .i64 0]]) (by simp [results, Try.results18, go_sem]) rfl ⟨rfl, ((Below.refl _ _).alloc (Nat.le_refl _) _).alloc (by simp) _⟩

theorem bound_ok {bound : Int} (hb1 : ¬ bound = 0) (hb2 : ¬ 65536 < bound) : (!(decide (bound = 0) || decide (65536 < bound))) = true := by simp [hb1]; omega

set_option maxRecDepth 100000 in
set_option maxHeartbeats 4000000 in
theorem write_fault (gen bound : Int) (a : Option Addr) (n cap : Nat) (rs : List (Int × List Int)) (w : World) (hb0 : 0 ≤ bound) (hb1 : ¬ bound = 0) (hb2 : ¬ 65536 < bound) (ha : RawsV w a rs) (hok : RawsOk rs) (hl : rs.length = n) (hn : 32 * n ≤ 140737488351232) (hz : ¬ (fault rs 0).1 = 0) :
    Calls Try.prog 18 #[.agg #[.int .u32 gen, .int .u32 bound], .slice a n cap] w fun e w' => e = .returned (.tuple #[.slice none 0 0, .agg #[.int .i64 (fault rs 0).1, .int .i64 (fault rs 0).2]]) ∧ Below w.heap.size w w' := by
  have hF := fun wx (hb : Below w.heap.size w wx) => measure_any a n cap rs wx (ha.below hb) hok hl hn
  have hM := fun w => mayBeBound_any bound w hb0 (by omega)
  rw [bound_ok hb1 hb2] at hM
  have hzb : ((fault rs 0).1 == 0) = false := by simpa using hz
  clear hz
  generalize (fault rs 0).1 = er at hF hzb ⊢
  generalize (fault rs 0).2 = at_ at hF ⊢
  generalize sizeOut rs = so at hF
  clear hl hb1 hb2
  go_enter Try.func18, Try.ntmps18
  go_wp2_with (go_at_call 37; refine (hM _).mono ?_; rintro e w' ⟨rfl, rfl⟩)
  refine (hF _ (((Below.refl _ w).alloc (Nat.le_refl _) (.cells #[.int .u32 gen, .int .u32 bound] 49)).alloc (by simp) (.cells #[.int .i64 0, .int .i64 0] 53))).mono ?_
  rintro e w1 ⟨rfl, hbF⟩
  have hres1 : w1.heap[w.heap.size + 1]? = some (.cells #[.int .i64 0, .int .i64 0] 53 (0, 0)) := by
    rw [hbF.block _ (by simp)]
    have := heap_alloc_new (w.alloc (.cells #[.int .u32 gen, .int .u32 bound] 49)) (.cells #[.int .i64 0, .int .i64 0] 53)
    simpa using this
  have s1 : w.heap.size + 2 ≤ w1.heap.size := by have := hbF.size; simp at this; omega
  have hbw1 : Below w.heap.size w w1 := (((Below.refl _ w).alloc (Nat.le_refl _) _).alloc (by simp) _).trans (hbF.mono (by simp; omega))
  have hres2 := (Below.heap_alloc w1 (.cells #[.int .i64 er, .int .i64 at_] 53) _ (by omega)).trans hres1
  have hbw2 := hbw1.alloc (by omega) (.cells #[.int .i64 er, .int .i64 at_] 53)
  obtain ⟨c0, c1, f1⟩ := cell_of_two hres2
  have f0 : (w1.alloc (.cells #[.int .i64 er, .int .i64 at_] 53)).frozen? ⟨w.heap.size + 1, 0, none⟩ = false := by simp [World.frozen?, hres2]
  have hz := spot_set hres2 (.int .i64 er) (.int .i64 at_)
  have HZ : Hid (_ ∧ _) := hz
  have HB : Hid _ := hbw2
  clear hz hres1 hres2 hbw1 hbF hF hbw2 hM
  go_wp2
  go_region
  all_goals
    go_wp2
    exact bodyPost_ret (v := .tuple #[.slice none 0 0, .agg #[.int .i64 er, .int .i64 at_]]) (by simp [results, Try.results18, go_sem, HZ.out.1, HZ.out.2]) rfl ⟨rfl, by first | exact ((HB.out.setCell (by simp) _).setCell (by simp) _).drew | exact ((HB.out.drew.setCell (by simp) _).setCell (by simp) _) | exact ((HB.out.setCell (by simp) _).setCell (by simp) _)⟩

set_option maxRecDepth 100000 in
set_option maxHeartbeats 4000000 in
theorem write_ok (gen bound : Int) (a : Option Addr) (n cap : Nat) (rs : List (Int × List Int)) (w : World) (hb0 : 0 ≤ bound) (hb1 : ¬ bound = 0) (hb2 : ¬ 65536 < bound) (ha : RawsV w a rs) (hok : RawsOk rs) (hl : rs.length = n) (hn : 32 * n ≤ 140737488351232) (hz : fault rs 0 = (0, 0)) :
    Calls Try.prog 18 #[.agg #[.int .u32 gen, .int .u32 bound], .slice a n cap] w fun e w' => ∃ ax cx m, e = .returned (.tuple #[.slice ax m cx, .agg #[.int .i64 0, .int .i64 0]]) ∧ (writeTo gen bound rs n).length = m ∧
      w'.ownsRow w.heap.size 24 1 (.slice ax m cx) m ((writeTo gen bound rs n).map (Value.int .u32)) ∧ Below w.heap.size w w' := by
  obtain ⟨i0, hi, hz0, hz1, hz2⟩ := info_parts RefWrite.info
  have HL : Hid (rs.length = n) := hl
  have HN : Hid (∀ k, k ≤ n → sizeTo rs k ≤ 1048576 ∧ ∀ j, j < k → (nthR rs j).2.length < 65535) := by
    have := fault_none rs (by rw [hz])
    rw [hl] at this
    exact this
  have HWL : Hid (∀ k, k ≤ n → (writeTo gen bound rs k).length = sizeTo rs k) := fun k hk => writeTo_len gen bound rs k (by omega)
  have HWS : Hid (∀ k, k < n → writeTo gen bound rs (k + 1) = writeTo gen bound rs k ++ rawW (nthR rs k)) := fun k hk => writeTo_succ gen bound rs k (by omega)
  have hF := fun wx (hb : Below w.heap.size w wx) => measure_any a n cap rs wx (ha.below hb) hok hl hn
  have hM := fun w => mayBeBound_any bound w hb0 (by omega)
  rw [bound_ok hb1 hb2] at hM
  have hso : sizeOut rs = (sizeTo rs n : Int) := by unfold sizeOut; rw [hz, if_pos rfl, hl]
  rw [hz, hso] at hF
  have hsn := (HN.out n (Nat.le_refl _)).1
  generalize hsn' : sizeTo rs n = sn at hsn hF
  clear hl hz hb1 hb2 hso
  go_enter Try.func18, Try.ntmps18
  go_wp2_with (go_at_call 37; refine (hM _).mono ?_; rintro e w' ⟨rfl, rfl⟩)
  refine (hF _ (((Below.refl _ w).alloc (Nat.le_refl _) (.cells #[.int .u32 gen, .int .u32 bound] 49)).alloc (by simp) (.cells #[.int .i64 0, .int .i64 0] 53))).mono ?_
  rintro e w1 ⟨rfl, hbF⟩
  have hres1 : w1.heap[w.heap.size + 1]? = some (.cells #[.int .i64 0, .int .i64 0] 53 (0, 0)) := by
    rw [hbF.block _ (by simp)]
    have := heap_alloc_new (w.alloc (.cells #[.int .u32 gen, .int .u32 bound] 49)) (.cells #[.int .i64 0, .int .i64 0] 53)
    simpa using this
  have hbox1 : w1.heap[w.heap.size]? = some (.cells #[.int .u32 gen, .int .u32 bound] 49 (0, 0)) := by
    rw [hbF.block _ (by simp; omega), Below.heap_alloc _ _ _ (by simp)]
    exact heap_alloc_new w _
  have s1 : w.heap.size + 2 ≤ w1.heap.size := by have := hbF.size; simp at this; omega
  have hbw1 : Below w.heap.size w w1 := (((Below.refl _ w).alloc (Nat.le_refl _) _).alloc (by simp) _).trans (hbF.mono (by simp; omega))
  clear hF hbF hM
  go_wp2_with (at_make; refine wpList_make_own _ rfl _ _ 47 rfl (w.heap.size + 2) 24 i0 (.int .u32 0) 1 Try.underlying47 hi hz0 hz1 _ _ _ sn rfl rfl (by omega) (by rw [hz2]; omega) (by unfold maxLen; omega) (by simp; omega) ?_)
  intro w2 hown2 hgrow2
  have s2 := hgrow2.size
  simp only [World.size_alloc] at hown2 s2
  have hres2 : w2.heap[w.heap.size + 1]? = some (.cells #[.int .i64 0, .int .i64 0] 53 (0, 0)) := (hgrow2.block _ (by simp; omega) (by simp)).trans ((Below.heap_alloc w1 _ _ (by omega)).trans hres1)
  have hbox2 := (hgrow2.block w.heap.size (by simp; omega) (by simp)).trans ((Below.heap_alloc w1 _ _ (by omega)).trans hbox1)
  have hbw2 : Below w.heap.size w w2 := (hbw1.alloc (by omega) _).grown hgrow2 (by simp; omega) (fun k hk => by cases hk)
  obtain ⟨c0, c1, _⟩ := cell_of_two hbox2
  clear hgrow2 hres1 hbox1 hbox2 hbw1
  generalize w1.heap.size = G at *
  go_wp2_with (at_builtin; refine wpList_append_lies _ rfl (.tmp 27) (.tmp 32) 47 rfl (w.heap.size + 2) 24 i0 (.int .u32 0) 1 4 Try.underlying47 hi hz0 hz1 hz2 rfl (by omega) (.slice (some ⟨G + 1, 0, none⟩) 0 sn) 0 [] rfl (hown2.alloc _) ⟨w2.heap.size, 0, none⟩ 5 5 [.int .u32 119734787, .int .u32 65536, .int .u32 gen, .int .u32 bound, .int .u32 0] rfl rfl (World.news_of_block (cs := #[.int .u32 119734787, .int .u32 65536, .int .u32 gen, .int .u32 bound, .int .u32 0]) (t := 24) (fr := (0, 0)) (heap_alloc_new w2 _)) (by simp [Value.oneCell']) (by omega) (by unfold maxLen; omega) (by omega) (by simp; omega) (w2.heap.size + 1) (by simp) ?_)
  intro g3 cap3 w3 hown3 hgrow3 hat3 hlt3
  have hres3 := (hgrow3.block (w.heap.size + 1) (by simp; omega) (fun e => by simp [Value.ownBlock] at e; omega)).trans ((Below.heap_alloc w2 _ _ (by omega)).trans hres2)
  have hbw3 : Below w.heap.size w w3 := (hbw2.alloc (by omega) _).grown hgrow3 (by simp; omega) (fun k hk => by simp [Value.ownBlock] at hk; omega)
  clear hgrow3 hat3 hown2 hres2 hbw2 hlt3 c0 c1
  go_wp2
  go_loopw [8, 36] (fun v i wr => ∃ (k : Nat), k ≤ n ∧ i = .int .i64 k ∧ wr.ownsRow (w.heap.size + 2) 24 1 v (sizeTo rs k) ((writeTo gen bound rs k).map (Value.int .u32)) ∧
      wr.heap[w.heap.size + 1]? = some (.cells #[.int .i64 0, .int .i64 0] 53 (0, 0)) ∧ Below w.heap.size w wr)
    (fun _ i _ => n - (intOf i).toNat)
  case atStart => exact ⟨0, Nat.zero_le _, rfl, by simpa [writeTo, sizeTo] using hown3, hres3, hbw3⟩
  case round =>
    obtain ⟨k, hk, rfl, hown, hres, hnx⟩ := hrel
    obtain ⟨ax, cx, rfl⟩ := own_shape hown
    clear hown3 hres3 hbw3
    have hsz := hnx.size
    have hlt1 : w.heap.size + 1 < wr.heap.size := (Array.getElem?_eq_some_iff.1 hres).1
    have hob : ∀ j, Value.ownBlock (.slice ax (sizeTo rs k) cx) = some j → w.heap.size + 2 ≤ j ∧ j < wr.heap.size := fun j hj => by
      rcases hown.2 with ⟨h1, _⟩ | ⟨g, c, cur, h1, h2, h3, _⟩
      · rw [h1] at hj; simp [Value.ownBlock] at hj
      · rw [h1] at hj; simp [Value.ownBlock] at hj; subst hj; exact ⟨h2, (Array.getElem?_eq_some_iff.1 h3).1⟩
    by_cases hlt : k < n
    · obtain ⟨b, off, aj, cj, nj, rfl, hbs, p1, p2, p3, p4, _⟩ := ha k (by rw [HL.out]; exact hlt)
      obtain ⟨o1, o2, _, _⟩ := hok k (by rw [HL.out]; exact hlt)
      have HS : Hid (sizeTo rs (k + 1) = sizeTo rs k + 1 + nj) := by show _ = _; rw [sizeTo_succ rs k (by rw [HL.out]; exact hlt), p3]
      have h1 := (HN.out k hk).1
      have h2 := (HN.out (k + 1) hlt).1
      have h3 := (HN.out (k + 1) hlt).2 k (by omega)
      rw [HS.out] at h2
      rw [p3] at h3
      have HWK : Hid (writeTo gen bound rs (k + 1) = writeTo gen bound rs k ++ ((((nj : Int) + 1) * 65536 + (nthR rs k).1) :: (nthR rs k).2)) := by
        show _ = _; rw [HWS.out k hlt, rawW, p3]
      have HP3 : Hid ((nthR rs k).2.length = nj) := p3
      have q1 := (hnx.cell (p := ⟨b, off + k * 2, none⟩) hbs).trans p1
      have q2 := (hnx.cell (p := ⟨b, off + k * 2 + 1, none⟩) hbs).trans p2
      have hki : (k : Int) < (n : Int) := by omega
      have hk0 : (0 : Int) ≤ (k : Int) := by omega
      have hW := fun wx => firstWord_any (nthR rs k).1 aj nj cj wx h3 o1 o2
      clear p1 p2 p3 hok ha
      generalize hs : sizeTo rs k = s at *
      generalize writeTo gen bound rs k = ws at *
      generalize (nthR rs k).1 = op at *
      generalize (nthR rs k).2 = ms at *
      go_wp2_with fail
      refine (hW _).mono ?_
      rintro e w4 ⟨rfl, hb4⟩
      have s4 := hb4.size
      simp only [World.size_alloc] at s4
      have hown4 := own_below (hown.alloc (.cells #[.int .u16 op, .slice aj nj cj] 68)) hb4
      have hr4 := (hb4.block wr.heap.size (by simp)).trans (heap_alloc_new wr (.cells #[.int .u16 op, .slice aj nj cj] 68))
      have hres4 := (hb4.block (w.heap.size + 1) (by simp; omega)).trans ((Below.heap_alloc wr _ _ hlt1).trans hres)
      have hbw4 : Below w.heap.size w w4 := (hnx.alloc hsz _).trans (hb4.mono (by simp; omega))
      clear hb4 hW q1 q2 hown hres hnx
      go_wp2_with (at_builtin; refine wpList_append_lies _ rfl (.tmp 40) (.tmp 43) 47 rfl (w.heap.size + 2) 24 i0 (.int .u32 0) 1 4 Try.underlying47 hi hz0 hz1 hz2 rfl (by omega) (.slice ax s cx) s _ rfl (hown4.alloc _) ⟨w4.heap.size, 0, none⟩ 1 1 [.int .u32 (((nj : Int) + 1) * 65536 + op)] rfl rfl (World.news_of_block (cs := #[.int .u32 (((nj : Int) + 1) * 65536 + op)]) (t := 24) (fr := (0, 0)) (heap_alloc_new w4 _)) (by simp [Value.oneCell']) (by omega) (by unfold maxLen; omega) (by omega) (by simp; omega) (w4.heap.size + 1) (by simp) ?_)
      intro g5 cap5 w5 hown5 hgrow5 hat5 hlt5
      have hr5 := (hgrow5.block wr.heap.size (by simp; omega) (fun e => by have := (hob _ e.symm).2; omega)).trans ((Below.heap_alloc w4 _ _ (by omega)).trans hr4)
      have hres5 := (hgrow5.block (w.heap.size + 1) (by simp; omega) (fun e => by have := (hob _ e.symm).1; omega)).trans ((Below.heap_alloc w4 _ _ (by omega)).trans hres4)
      have hbw5 : Below w.heap.size w w5 := (hbw4.alloc (by omega) _).grown hgrow5 (by simp; omega) (fun k hk => (by have := (hob k hk).1; omega))
      have s5 := hgrow5.size
      simp only [World.size_alloc] at s5
      obtain ⟨d0, d1, _⟩ := cell_of_two hr5
      have hg5 : w.heap.size + 2 ≤ g5 := by
        rcases hat5 with h | h
        · exact (hob _ h).1
        · omega
      clear hgrow5 hat5 hown4 hr4 hres4 hbw4 hob hr5
      have hown6 : w5.ownsRow (w.heap.size + 2) 24 1 (.slice (some ⟨g5, 0, none⟩) (s + 1) cap5) (s + 1) ((ws ++ [((nj : Int) + 1) * 65536 + op]).map (Value.int .u32)) := by simpa using hown5
      clear hown5
      by_cases hnj : nj = 0
      · subst hnj
        have hms : ms = [] := List.eq_nil_of_length_eq_zero HP3.out
        subst hms
        have hcap : s + 1 ≤ cap5 := by
          rcases hown6.2 with ⟨h, _⟩ | ⟨g, c', cur, h, _, _, h4, _⟩
          · simp at h
          · cases h; exact h4
        go_wp2_with (at_builtin; refine append_run _ rfl (.tmp 45) (.tmp 47) 47 rfl (.slice (some ⟨g5, 0, none⟩) (s + 1) cap5) (.slice aj 0 cj) _ _ rfl rfl (fun ty => run_append_nothing _ _ ty 24 i0 Try.underlying47 hi (some ⟨g5, 0, none⟩) (s + 1) cap5 hcap aj cj) ?_)
        go_wp2
        go_roundw
        case rel => exact ⟨k + 1, by omega, by go_num, by rw [HWK.out, HS.out]; simpa using hown6, hres5, hbw5⟩
        case measure => simp [intOf]; omega
      · obtain ⟨b6, off6, rfl, _, _⟩ := p4 0 (by rw [HP3.out]; omega)
        have hv5 := p4.below hbw5
        have hnews : ∀ j u, (ms.map (Value.int .u32))[j]? = some u → w5.cell? ((⟨b6, off6, none⟩ : Addr).add j) = some u := by
          intro j u hj
          rw [List.getElem?_map] at hj
          have hjl : j < ms.length := by
            rcases Nat.lt_or_ge j ms.length with h | h
            · exact h
            · rw [List.getElem?_eq_none h] at hj; simp at hj
          obtain ⟨b', off', e', _, hc'⟩ := hv5 j hjl
          simp at e'
          obtain ⟨rfl, rfl⟩ := e'
          rw [Addr.add_lit, hc', ← hj, List.getElem?_eq_getElem hjl]
          simp [nth, List.getD, hjl]
        clear p4 hv5
        go_wp2_with (at_builtin; refine wpList_append_lies _ rfl (.tmp 45) (.tmp 47) 47 rfl (w.heap.size + 2) 24 i0 (.int .u32 0) 1 4 Try.underlying47 hi hz0 hz1 hz2 rfl (by omega) (.slice (some ⟨g5, 0, none⟩) (s + 1) cap5) (s + 1) _ rfl hown6 ⟨b6, off6, none⟩ nj cj (ms.map (Value.int .u32)) rfl (by rw [List.length_map, HP3.out]; omega) hnews (ints_oneCell .u32 ms) (by omega) (by unfold maxLen; omega) (by omega) (by omega) w5.heap.size rfl ?_)
        intro g7 cap7 w7 hown7 hgrow7 hat7 hlt7
        have hres7 := (hgrow7.block (w.heap.size + 1) (by omega) (fun e => by simp [Value.ownBlock] at e; omega)).trans hres5
        have hbw7 : Below w.heap.size w w7 := hbw5.grown hgrow7 hbw5.size (fun k hk => by simp [Value.ownBlock] at hk; omega)
        clear hgrow7 hat7 hown6 hres5 hbw5 hnews d0 d1
        go_wp2
        go_roundw
        case rel => exact ⟨k + 1, by omega, by go_num, by rw [HWK.out, HS.out]; simpa using hown7, hres7, hbw7⟩
        case measure => simp [intOf]; omega
    · obtain rfl : k = n := by omega
      obtain ⟨c0, c1, f1⟩ := cell_of_two hres
      have f0 : wr.frozen? ⟨w.heap.size + 1, 0, none⟩ = false := by simp [World.frozen?, hres]
      have hz := spot_set hres (.int .i64 0) (.int .i64 0)
      have HZ : Hid (_ ∧ _) := hz
      clear hz hres ha hok hob
      go_wp2
      refine bodyPost_ret (v := .tuple #[.slice ax (sizeTo rs k) cx, .agg #[.int .i64 0, .int .i64 0]]) (by simp [results, Try.results18, go_sem, HZ.out.1, HZ.out.2]) rfl ⟨ax, cx, _, rfl, HWL.out k hk, ?_, ?_⟩
      · exact own_base (ownsRow_setCell_below (ownsRow_setCell_below hown (by simp) _) (by simp) _) (by omega)
      · exact (hnx.setCell (by simp) _).setCell (by simp) _

/-- Write answers as is asked of it. -/
theorem writeC : WriteC 18 := by
  intro gen bound a n cap rs w _ _ hb0 hb3 ha hok hl hn _
  by_cases h1 : bound = 0 ∨ 65536 < bound
  · have e1 : writeE bound rs = (24, 0) := by unfold writeE; rw [if_pos h1]
    refine (write_bound gen bound a n cap w hb0 hb3 h1).mono ?_
    rintro e w' ⟨rfl, hb⟩
    refine ⟨hb, none, 0, 0, ?_, ?_, ?_⟩
    · simp [e1]
    · simp [writeL, e1]
    · simp only [writeL, e1]; exact World.ownsRow_nil _ _ _ _
  · have e1 : writeE bound rs = fault rs 0 := by unfold writeE; rw [if_neg h1]
    have h2 : ¬ bound = 0 := fun h => h1 (.inl h)
    have h3 : ¬ 65536 < bound := fun h => h1 (.inr h)
    rcases fault_any rs with hz | hz
    · refine (write_ok gen bound a n cap rs w hb0 h2 h3 ha hok hl hn hz).mono ?_
      rintro e w' ⟨ax, cx, m, rfl, h4, h5, hb⟩
      have e2 : writeL gen bound rs = writeTo gen bound rs n := by unfold writeL; rw [e1, hz, if_pos rfl, hl]
      refine ⟨hb, ax, cx, m, ?_, ?_, ?_⟩
      · rw [e1, hz]; rfl
      · rw [e2]; exact h4
      · rw [e2]; exact h5
    · refine (write_fault gen bound a n cap rs w hb0 h2 h3 ha hok hl hn hz).mono ?_
      rintro e w' ⟨rfl, hb⟩
      have e2 : writeL gen bound rs = [] := by unfold writeL; rw [e1, if_neg hz]
      refine ⟨hb, none, 0, 0, ?_, ?_, ?_⟩
      · rw [e1]
      · rw [e2]; rfl
      · rw [e2]; exact World.ownsRow_nil _ _ _ _

/-- Size answers as is asked of it. -/
theorem sizeC : SizeC 20 := fun a n cap rs w ha hok hl hn _ => size_any a n cap rs w ha hok hl hn

end Go.Proofs.Ytjpbiakbjpiceab
