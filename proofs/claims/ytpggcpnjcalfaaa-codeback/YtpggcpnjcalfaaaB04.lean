/-
  Texts laid together in one: FrameWrite, Quiet, CodeFronts, MathS, TabG.
-/
import Derived.WalkSpells
import Derived.BigRegion
import Derived.Deep.RegionLaw
import Derived.Deep.AppendLies
import Derived.Deep.DrawnRows
import Derived.Test.YtpggcpnjcalfaaaB03
import Derived.Deep.QuietTactic
import Derived.BigQuiet
import Derived.Test.YtpggcpnjcalfaaaB01
import Derived.Deep.RegionWith
import Derived.Test.YtpggcpnjcalfaaaProg
import Derived.Lib.Bytealg
import Derived.Lib.IndexLaws
import Derived.Laws.BytesArg
/-
  What Write of frame returns, for every head and every list of instructions: its error and its place, or the words, in new memory.
-/
namespace Go.Proofs.Ytpggcpnjcalfaaa
open Go.RowKit

theorem write_bound (gen bound : Int) (a : Option Addr) (n cap : Nat) (w : World) (hb0 : 0 ≤ bound) (hb1 : bound < 4294967296) (hb : bound = 0 ∨ 65536 < bound) :
    Calls Try.prog 37 #[.agg #[.int .u32 gen, .int .u32 bound], .slice a n cap] w fun e w' => e = .returned (.tuple #[.slice none 0 0, .agg #[.int .i64 24, .int .i64 0]]) ∧ Below w.heap.size w w' := by
  have hM := fun w => mayBeBound_any bound w hb0 hb1
  have e1 : (!(decide (bound = 0) || decide (65536 < bound))) = false := by rcases hb with h1 | h1 <;> simp [h1]
  rw [e1] at hM
  clear hb e1
  go_enter Try.func37, Try.ntmps37
  go_wp2_with (go_at_call 58; refine (hM _).mono ?_; rintro e w' ⟨rfl, rfl⟩)
  exact bodyPost_ret (v := .tuple #[.slice none 0 0, .agg #[.int .i64 24, .int .i64 0]]) (by simp [results, Try.results37, go_sem]) rfl ⟨rfl, ((Below.refl _ _).alloc (Nat.le_refl _) _).alloc (by simp) _⟩

theorem bound_ok {bound : Int} (hb1 : ¬ bound = 0) (hb2 : ¬ 65536 < bound) : (!(decide (bound = 0) || decide (65536 < bound))) = true := by simp [hb1]; omega

set_option maxRecDepth 100000 in
set_option maxHeartbeats 4000000 in
theorem write_fault (gen bound : Int) (a : Option Addr) (n cap : Nat) (rs : List (Int × List Int)) (w : World) (hb0 : 0 ≤ bound) (hb1 : ¬ bound = 0) (hb2 : ¬ 65536 < bound) (ha : RawsV w a rs) (hok : RawsOk rs) (hl : rs.length = n) (hn : 32 * n ≤ 140737488351232) (hz : ¬ (fault rs 0).1 = 0) :
    Calls Try.prog 37 #[.agg #[.int .u32 gen, .int .u32 bound], .slice a n cap] w fun e w' => e = .returned (.tuple #[.slice none 0 0, .agg #[.int .i64 (fault rs 0).1, .int .i64 (fault rs 0).2]]) ∧ Below w.heap.size w w' := by
  have hF := fun wx (hb : Below w.heap.size w wx) => measure_any a n cap rs wx (ha.below hb) hok hl hn
  have hM := fun w => mayBeBound_any bound w hb0 (by omega)
  rw [bound_ok hb1 hb2] at hM
  have hzb : ((fault rs 0).1 == 0) = false := by simpa using hz
  clear hz
  generalize (fault rs 0).1 = er at hF hzb ⊢
  generalize (fault rs 0).2 = at_ at hF ⊢
  generalize sizeOut rs = so at hF
  clear hl hb1 hb2
  go_enter Try.func37, Try.ntmps37
  go_wp2_with (go_at_call 58; refine (hM _).mono ?_; rintro e w' ⟨rfl, rfl⟩)
  refine (hF _ (((Below.refl _ w).alloc (Nat.le_refl _) (.cells #[.int .u32 gen, .int .u32 bound] 82)).alloc (by simp) (.cells #[.int .i64 0, .int .i64 0] 47))).mono ?_
  rintro e w1 ⟨rfl, hbF⟩
  have hres1 : w1.heap[w.heap.size + 1]? = some (.cells #[.int .i64 0, .int .i64 0] 47 (0, 0)) := by
    rw [hbF.block _ (by simp)]
    have := heap_alloc_new (w.alloc (.cells #[.int .u32 gen, .int .u32 bound] 82)) (.cells #[.int .i64 0, .int .i64 0] 47)
    simpa using this
  have s1 : w.heap.size + 2 ≤ w1.heap.size := by have := hbF.size; simp at this; omega
  have hbw1 : Below w.heap.size w w1 := (((Below.refl _ w).alloc (Nat.le_refl _) _).alloc (by simp) _).trans (hbF.mono (by simp; omega))
  have hres2 := (Below.heap_alloc w1 (.cells #[.int .i64 er, .int .i64 at_] 47) _ (by omega)).trans hres1
  have hbw2 := hbw1.alloc (by omega) (.cells #[.int .i64 er, .int .i64 at_] 47)
  obtain ⟨c0, c1, f1⟩ := cell_of_two hres2
  have f0 : (w1.alloc (.cells #[.int .i64 er, .int .i64 at_] 47)).frozen? ⟨w.heap.size + 1, 0, none⟩ = false := by simp [World.frozen?, hres2]
  have hz := spot_set hres2 (.int .i64 er) (.int .i64 at_)
  have HZ : Hid (_ ∧ _) := hz
  have HB : Hid _ := hbw2
  clear hz hres1 hres2 hbw1 hbF hF hbw2 hM
  go_wp2
  go_region
  all_goals
    go_wp2
    exact bodyPost_ret (v := .tuple #[.slice none 0 0, .agg #[.int .i64 er, .int .i64 at_]]) (by simp [results, Try.results37, go_sem, HZ.out.1, HZ.out.2]) rfl ⟨rfl, by first | exact ((HB.out.setCell (by simp) _).setCell (by simp) _).drew | exact ((HB.out.drew.setCell (by simp) _).setCell (by simp) _) | exact ((HB.out.setCell (by simp) _).setCell (by simp) _)⟩

set_option maxRecDepth 100000 in
set_option maxHeartbeats 4000000 in
theorem write_ok (gen bound : Int) (a : Option Addr) (n cap : Nat) (rs : List (Int × List Int)) (w : World) (hb0 : 0 ≤ bound) (hb1 : ¬ bound = 0) (hb2 : ¬ 65536 < bound) (ha : RawsV w a rs) (hok : RawsOk rs) (hl : rs.length = n) (hn : 32 * n ≤ 140737488351232) (hz : fault rs 0 = (0, 0)) :
    Calls Try.prog 37 #[.agg #[.int .u32 gen, .int .u32 bound], .slice a n cap] w fun e w' => ∃ ax cx m, e = .returned (.tuple #[.slice ax m cx, .agg #[.int .i64 0, .int .i64 0]]) ∧ (writeTo gen bound rs n).length = m ∧
      w'.ownsRow w.heap.size 26 1 (.slice ax m cx) m ((writeTo gen bound rs n).map (Value.int .u32)) ∧ Below w.heap.size w w' := by
  obtain ⟨i0, hi, hz0, hz1, hz2⟩ := info_parts RefWrite.info
  have HL : Hid (rs.length = n) := hl
  have HN : Hid (∀ k, k ≤ n → sizeTo rs k ≤ 1048576 ∧ ∀ j, j < k → (nthR rs j).2.length < 65535) := by
    have := fault_none rs (by rw [hz])
    rw [hl] at this
    exact this
  have HWL : Hid (∀ k, k ≤ n → (writeTo gen bound rs k).length = sizeTo rs k) := fun k hk => writeTo_len gen bound rs k (by omega)
  have HWS : Hid (∀ k, k < n → writeTo gen bound rs (k + 1) = writeTo gen bound rs k ++ rawW (nthR rs k)) := fun k hk => writeTo_succ gen bound rs k (by omega)
  have hF := fun wx (hb : Below w.heap.size w wx) => measure_any a n cap rs wx (ha.below hb) hok hl hn
  have hM := fun w => mayBeBound_any bound w hb0 (by omega)
  rw [bound_ok hb1 hb2] at hM
  have hso : sizeOut rs = (sizeTo rs n : Int) := by unfold sizeOut; rw [hz, if_pos rfl, hl]
  rw [hz, hso] at hF
  have hsn := (HN.out n (Nat.le_refl _)).1
  generalize hsn' : sizeTo rs n = sn at hsn hF
  clear hl hz hb1 hb2 hso
  go_enter Try.func37, Try.ntmps37
  go_wp2_with (go_at_call 58; refine (hM _).mono ?_; rintro e w' ⟨rfl, rfl⟩)
  refine (hF _ (((Below.refl _ w).alloc (Nat.le_refl _) (.cells #[.int .u32 gen, .int .u32 bound] 82)).alloc (by simp) (.cells #[.int .i64 0, .int .i64 0] 47))).mono ?_
  rintro e w1 ⟨rfl, hbF⟩
  have hres1 : w1.heap[w.heap.size + 1]? = some (.cells #[.int .i64 0, .int .i64 0] 47 (0, 0)) := by
    rw [hbF.block _ (by simp)]
    have := heap_alloc_new (w.alloc (.cells #[.int .u32 gen, .int .u32 bound] 82)) (.cells #[.int .i64 0, .int .i64 0] 47)
    simpa using this
  have hbox1 : w1.heap[w.heap.size]? = some (.cells #[.int .u32 gen, .int .u32 bound] 82 (0, 0)) := by
    rw [hbF.block _ (by simp; omega), Below.heap_alloc _ _ _ (by simp)]
    exact heap_alloc_new w _
  have s1 : w.heap.size + 2 ≤ w1.heap.size := by have := hbF.size; simp at this; omega
  have hbw1 : Below w.heap.size w w1 := (((Below.refl _ w).alloc (Nat.le_refl _) _).alloc (by simp) _).trans (hbF.mono (by simp; omega))
  clear hF hbF hM
  go_wp2_with (at_make; refine wpList_make_own _ rfl _ _ 23 rfl (w.heap.size + 2) 26 i0 (.int .u32 0) 1 Try.underlying23 hi hz0 hz1 _ _ _ sn rfl rfl (by omega) (by rw [hz2]; omega) (by unfold maxLen; omega) (by simp; omega) ?_)
  intro w2 hown2 hgrow2
  have s2 := hgrow2.size
  simp only [World.size_alloc] at hown2 s2
  have hres2 : w2.heap[w.heap.size + 1]? = some (.cells #[.int .i64 0, .int .i64 0] 47 (0, 0)) := (hgrow2.block _ (by simp; omega) (by simp)).trans ((Below.heap_alloc w1 _ _ (by omega)).trans hres1)
  have hbox2 := (hgrow2.block w.heap.size (by simp; omega) (by simp)).trans ((Below.heap_alloc w1 _ _ (by omega)).trans hbox1)
  have hbw2 : Below w.heap.size w w2 := (hbw1.alloc (by omega) _).grown hgrow2 (by simp; omega) (fun k hk => by cases hk)
  obtain ⟨c0, c1, _⟩ := cell_of_two hbox2
  clear hgrow2 hres1 hbox1 hbox2 hbw1
  generalize w1.heap.size = G at *
  go_wp2_with (at_builtin; refine wpList_append_lies _ rfl (.tmp 27) (.tmp 32) 23 rfl (w.heap.size + 2) 26 i0 (.int .u32 0) 1 4 Try.underlying23 hi hz0 hz1 hz2 rfl (by omega) (.slice (some ⟨G + 1, 0, none⟩) 0 sn) 0 [] rfl (hown2.alloc _) ⟨w2.heap.size, 0, none⟩ 5 5 [.int .u32 119734787, .int .u32 65536, .int .u32 gen, .int .u32 bound, .int .u32 0] rfl rfl (World.news_of_block (cs := #[.int .u32 119734787, .int .u32 65536, .int .u32 gen, .int .u32 bound, .int .u32 0]) (t := 26) (fr := (0, 0)) (heap_alloc_new w2 _)) (by simp [Value.oneCell']) (by omega) (by unfold maxLen; omega) (by omega) (by simp; omega) (w2.heap.size + 1) (by simp) ?_)
  intro g3 cap3 w3 hown3 hgrow3 hat3 hlt3
  have hres3 := (hgrow3.block (w.heap.size + 1) (by simp; omega) (fun e => by simp [Value.ownBlock] at e; omega)).trans ((Below.heap_alloc w2 _ _ (by omega)).trans hres2)
  have hbw3 : Below w.heap.size w w3 := (hbw2.alloc (by omega) _).grown hgrow3 (by simp; omega) (fun k hk => by simp [Value.ownBlock] at hk; omega)
  clear hgrow3 hat3 hown2 hres2 hbw2 hlt3 c0 c1
  go_wp2
  go_loopw [8, 36] (fun v i wr => ∃ (k : Nat), k ≤ n ∧ i = .int .i64 k ∧ wr.ownsRow (w.heap.size + 2) 26 1 v (sizeTo rs k) ((writeTo gen bound rs k).map (Value.int .u32)) ∧
      wr.heap[w.heap.size + 1]? = some (.cells #[.int .i64 0, .int .i64 0] 47 (0, 0)) ∧ Below w.heap.size w wr)
    (fun _ i _ => n - (intOf i).toNat)
  case atStart => exact ⟨0, Nat.zero_le _, rfl, by simpa [writeTo, sizeTo] using hown3, hres3, hbw3⟩
  case round =>
    obtain ⟨k, hk, rfl, hown, hres, hnx⟩ := hrel
    obtain ⟨ax, cx, rfl⟩ := own_shape hown
    clear hown3 hres3 hbw3
    have hsz := hnx.size
    have hlt1 : w.heap.size + 1 < wr.heap.size := (Array.getElem?_eq_some_iff.1 hres).1
    have hob : ∀ j, Value.ownBlock (.slice ax (sizeTo rs k) cx) = some j → w.heap.size + 2 ≤ j ∧ j < wr.heap.size := fun j hj => by
      rcases hown.2 with ⟨h1, _⟩ | ⟨g, c, cur, h1, h2, h3, _⟩
      · rw [h1] at hj; simp [Value.ownBlock] at hj
      · rw [h1] at hj; simp [Value.ownBlock] at hj; subst hj; exact ⟨h2, (Array.getElem?_eq_some_iff.1 h3).1⟩
    by_cases hlt : k < n
    · obtain ⟨b, off, aj, cj, nj, rfl, hbs, p1, p2, p3, p4, _⟩ := ha k (by rw [HL.out]; exact hlt)
      obtain ⟨o1, o2, _, _⟩ := hok k (by rw [HL.out]; exact hlt)
      have HS : Hid (sizeTo rs (k + 1) = sizeTo rs k + 1 + nj) := by show _ = _; rw [sizeTo_succ rs k (by rw [HL.out]; exact hlt), p3]
      have h1 := (HN.out k hk).1
      have h2 := (HN.out (k + 1) hlt).1
      have h3 := (HN.out (k + 1) hlt).2 k (by omega)
      rw [HS.out] at h2
      rw [p3] at h3
      have HWK : Hid (writeTo gen bound rs (k + 1) = writeTo gen bound rs k ++ ((((nj : Int) + 1) * 65536 + (nthR rs k).1) :: (nthR rs k).2)) := by
        show _ = _; rw [HWS.out k hlt, rawW, p3]
      have HP3 : Hid ((nthR rs k).2.length = nj) := p3
      have q1 := (hnx.cell (p := ⟨b, off + k * 2, none⟩) hbs).trans p1
      have q2 := (hnx.cell (p := ⟨b, off + k * 2 + 1, none⟩) hbs).trans p2
      have hki : (k : Int) < (n : Int) := by omega
      have hk0 : (0 : Int) ≤ (k : Int) := by omega
      have hW := fun wx => firstWord_any (nthR rs k).1 aj nj cj wx h3 o1 o2
      clear p1 p2 p3 hok ha
      generalize hs : sizeTo rs k = s at *
      generalize writeTo gen bound rs k = ws at *
      generalize (nthR rs k).1 = op at *
      generalize (nthR rs k).2 = ms at *
      go_wp2_with fail
      refine (hW _).mono ?_
      rintro e w4 ⟨rfl, hb4⟩
      have s4 := hb4.size
      simp only [World.size_alloc] at s4
      have hown4 := own_below (hown.alloc (.cells #[.int .u16 op, .slice aj nj cj] 25)) hb4
      have hr4 := (hb4.block wr.heap.size (by simp)).trans (heap_alloc_new wr (.cells #[.int .u16 op, .slice aj nj cj] 25))
      have hres4 := (hb4.block (w.heap.size + 1) (by simp; omega)).trans ((Below.heap_alloc wr _ _ hlt1).trans hres)
      have hbw4 : Below w.heap.size w w4 := (hnx.alloc hsz _).trans (hb4.mono (by simp; omega))
      clear hb4 hW q1 q2 hown hres hnx
      go_wp2_with (at_builtin; refine wpList_append_lies _ rfl (.tmp 40) (.tmp 43) 23 rfl (w.heap.size + 2) 26 i0 (.int .u32 0) 1 4 Try.underlying23 hi hz0 hz1 hz2 rfl (by omega) (.slice ax s cx) s _ rfl (hown4.alloc _) ⟨w4.heap.size, 0, none⟩ 1 1 [.int .u32 (((nj : Int) + 1) * 65536 + op)] rfl rfl (World.news_of_block (cs := #[.int .u32 (((nj : Int) + 1) * 65536 + op)]) (t := 26) (fr := (0, 0)) (heap_alloc_new w4 _)) (by simp [Value.oneCell']) (by omega) (by unfold maxLen; omega) (by omega) (by simp; omega) (w4.heap.size + 1) (by simp) ?_)
      intro g5 cap5 w5 hown5 hgrow5 hat5 hlt5
      have hr5 := (hgrow5.block wr.heap.size (by simp; omega) (fun e => by have := (hob _ e.symm).2; omega)).trans ((Below.heap_alloc w4 _ _ (by omega)).trans hr4)
      have hres5 := (hgrow5.block (w.heap.size + 1) (by simp; omega) (fun e => by have := (hob _ e.symm).1; omega)).trans ((Below.heap_alloc w4 _ _ (by omega)).trans hres4)
      have hbw5 : Below w.heap.size w w5 := (hbw4.alloc (by omega) _).grown hgrow5 (by simp; omega) (fun k hk => (by have := (hob k hk).1; omega))
      have s5 := hgrow5.size
      simp only [World.size_alloc] at s5
      obtain ⟨d0, d1, _⟩ := cell_of_two hr5
      have hg5 : w.heap.size + 2 ≤ g5 := by
        rcases hat5 with h | h
        · exact (hob _ h).1
        · omega
      clear hgrow5 hat5 hown4 hr4 hres4 hbw4 hob hr5
      have hown6 : w5.ownsRow (w.heap.size + 2) 26 1 (.slice (some ⟨g5, 0, none⟩) (s + 1) cap5) (s + 1) ((ws ++ [((nj : Int) + 1) * 65536 + op]).map (Value.int .u32)) := by simpa using hown5
      clear hown5
      by_cases hnj : nj = 0
      · subst hnj
        have hms : ms = [] := List.eq_nil_of_length_eq_zero HP3.out
        subst hms
        have hcap : s + 1 ≤ cap5 := by
          rcases hown6.2 with ⟨h, _⟩ | ⟨g, c', cur, h, _, _, h4, _⟩
          · simp at h
          · cases h; exact h4
        go_wp2_with (at_builtin; refine append_run _ rfl (.tmp 45) (.tmp 47) 23 rfl (.slice (some ⟨g5, 0, none⟩) (s + 1) cap5) (.slice aj 0 cj) _ _ rfl rfl (fun ty => run_append_nothing _ _ ty 26 i0 Try.underlying23 hi (some ⟨g5, 0, none⟩) (s + 1) cap5 hcap aj cj) ?_)
        go_wp2
        go_roundw
        case rel => exact ⟨k + 1, by omega, by go_num, by rw [HWK.out, HS.out]; simpa using hown6, hres5, hbw5⟩
        case measure => simp [intOf]; omega
      · obtain ⟨b6, off6, rfl, _, _⟩ := p4 0 (by rw [HP3.out]; omega)
        have hv5 := p4.below hbw5
        have hnews : ∀ j u, (ms.map (Value.int .u32))[j]? = some u → w5.cell? ((⟨b6, off6, none⟩ : Addr).add j) = some u := by
          intro j u hj
          rw [List.getElem?_map] at hj
          have hjl : j < ms.length := by
            rcases Nat.lt_or_ge j ms.length with h | h
            · exact h
            · rw [List.getElem?_eq_none h] at hj; simp at hj
          obtain ⟨b', off', e', _, hc'⟩ := hv5 j hjl
          simp at e'
          obtain ⟨rfl, rfl⟩ := e'
          rw [Addr.add_lit, hc', ← hj, List.getElem?_eq_getElem hjl]
          simp [nth, List.getD, hjl]
        clear p4 hv5
        go_wp2_with (at_builtin; refine wpList_append_lies _ rfl (.tmp 45) (.tmp 47) 23 rfl (w.heap.size + 2) 26 i0 (.int .u32 0) 1 4 Try.underlying23 hi hz0 hz1 hz2 rfl (by omega) (.slice (some ⟨g5, 0, none⟩) (s + 1) cap5) (s + 1) _ rfl hown6 ⟨b6, off6, none⟩ nj cj (ms.map (Value.int .u32)) rfl (by rw [List.length_map, HP3.out]; omega) hnews (ints_oneCell .u32 ms) (by omega) (by unfold maxLen; omega) (by omega) (by omega) w5.heap.size rfl ?_)
        intro g7 cap7 w7 hown7 hgrow7 hat7 hlt7
        have hres7 := (hgrow7.block (w.heap.size + 1) (by omega) (fun e => by simp [Value.ownBlock] at e; omega)).trans hres5
        have hbw7 : Below w.heap.size w w7 := hbw5.grown hgrow7 hbw5.size (fun k hk => by simp [Value.ownBlock] at hk; omega)
        clear hgrow7 hat7 hown6 hres5 hbw5 hnews d0 d1
        go_wp2
        go_roundw
        case rel => exact ⟨k + 1, by omega, by go_num, by rw [HWK.out, HS.out]; simpa using hown7, hres7, hbw7⟩
        case measure => simp [intOf]; omega
    · obtain rfl : k = n := by omega
      obtain ⟨c0, c1, f1⟩ := cell_of_two hres
      have f0 : wr.frozen? ⟨w.heap.size + 1, 0, none⟩ = false := by simp [World.frozen?, hres]
      have hz := spot_set hres (.int .i64 0) (.int .i64 0)
      have HZ : Hid (_ ∧ _) := hz
      clear hz hres ha hok hob
      go_wp2
      refine bodyPost_ret (v := .tuple #[.slice ax (sizeTo rs k) cx, .agg #[.int .i64 0, .int .i64 0]]) (by simp [results, Try.results37, go_sem, HZ.out.1, HZ.out.2]) rfl ⟨ax, cx, _, rfl, HWL.out k hk, ?_, ?_⟩
      · exact own_base (ownsRow_setCell_below (ownsRow_setCell_below hown (by simp) _) (by simp) _) (by omega)
      · exact (hnx.setCell (by simp) _).setCell (by simp) _

/-- Write answers as is asked of it. -/
theorem writeC : WriteC 37 := by
  intro gen bound a n cap rs w _ _ hb0 hb3 ha hok hl hn _
  by_cases h1 : bound = 0 ∨ 65536 < bound
  · have e1 : writeE bound rs = (24, 0) := by unfold writeE; rw [if_pos h1]
    refine (write_bound gen bound a n cap w hb0 hb3 h1).mono ?_
    rintro e w' ⟨rfl, hb⟩
    refine ⟨hb, none, 0, 0, ?_, ?_, ?_⟩
    · simp [e1]
    · simp [writeL, e1]
    · simp only [writeL, e1]; exact World.ownsRow_nil _ _ _ _
  · have e1 : writeE bound rs = fault rs 0 := by unfold writeE; rw [if_neg h1]
    have h2 : ¬ bound = 0 := fun h => h1 (.inl h)
    have h3 : ¬ 65536 < bound := fun h => h1 (.inr h)
    rcases fault_any rs with hz | hz
    · refine (write_ok gen bound a n cap rs w hb0 h2 h3 ha hok hl hn hz).mono ?_
      rintro e w' ⟨ax, cx, m, rfl, h4, h5, hb⟩
      have e2 : writeL gen bound rs = writeTo gen bound rs n := by unfold writeL; rw [e1, hz, if_pos rfl, hl]
      refine ⟨hb, ax, cx, m, ?_, ?_, ?_⟩
      · rw [e1, hz]; rfl
      · rw [e2]; exact h4
      · rw [e2]; exact h5
    · refine (write_fault gen bound a n cap rs w hb0 h2 h3 ha hok hl hn hz).mono ?_
      rintro e w' ⟨rfl, hb⟩
      have e2 : writeL gen bound rs = [] := by unfold writeL; rw [e1, if_neg hz]
      refine ⟨hb, none, 0, 0, ?_, ?_, ?_⟩
      · rw [e1]
      · rw [e2]; rfl
      · rw [e2]; exact World.ownsRow_nil _ _ _ _

end Go.Proofs.Ytpggcpnjcalfaaa

/-
  A region that draws its order, whose operations read and call: in every world of a class each yields the same, and leaves a world of the class. One walk in the order of the text serves every order.
-/
namespace Go.Proofs.Ytpggcpnjcalfaaa
open Go.RowKit

/-- A world of a class. -/
structure InC (C : World → Prop) where
  w : World
  ok : C w

theorem wp_region_class {P : Program} {C : World → Prop} {id : Nat} {Q : Exit → Act → World → Prop} {a : Act} {w : World} {l : List Oper} (hm : P.follows .mixedOrders = true) (hB : Region.lexB .any l.toArray = true) (hC : C w.drew)
    (h : wpQuiet P l.toArray (fun w' => ∃ s : InC C, w' = s.w) (fun a' => ∀ w', (∃ s : InC C, w' = s.w) → Q .normal a' w') l a) : (Code.region id l.toArray true).wp P Q a w :=
  wp_region_quiet (C := fun w' => ∃ s : InC C, w' = s.w) hm hB ⟨⟨_, hC⟩, rfl⟩ (by simpa using h)

theorem InC.cell {W : World} (s : InC (Below W.heap.size W)) {p : Addr} {v : Value} (hp : p.block < W.heap.size) (h : W.cell? p = some v) : s.w.cell? p = some v := (s.ok.cell hp).trans h
theorem InC.frozen {W : World} (s : InC (Below W.heap.size W)) {p : Addr} {v : Bool} (hp : p.block < W.heap.size) (h : W.frozen? p = v) : s.w.frozen? p = v := (s.ok.frozen hp).trans h
theorem below_drew (W : World) : Below W.heap.size W W.drew := (Below.refl _ W).drew

/-- A call that lays new things alone, met in the class. -/
theorem Calls.inC {P : Program} {f : FuncId} {args : Array Value} {W : World} {v : Value} (s : InC (Below W.heap.size W)) (h : Calls P f args s.w fun e w' => e = .returned v ∧ Below s.w.heap.size s.w w') :
    Calls P f args s.w fun e w'' => e = .returned v ∧ ∃ s' : InC (Below W.heap.size W), w'' = s'.w :=
  h.mono fun _ w' ⟨he, hb⟩ => ⟨he, ⟨w', s.ok.trans (hb.mono s.ok.size)⟩, rfl⟩
theorem Calls.inC_same {P : Program} {f : FuncId} {args : Array Value} {W : World} {v : Value} (s : InC (Below W.heap.size W)) (h : Calls P f args s.w fun e w' => e = .returned v ∧ s.w = w') :
    Calls P f args s.w fun e w'' => e = .returned v ∧ ∃ s' : InC (Below W.heap.size W), w'' = s'.w :=
  h.mono fun _ _ ⟨he, hb⟩ => ⟨he, s, hb.symm⟩
theorem Calls.inC_drew {P : Program} {f : FuncId} {args : Array Value} {W : World} {v : Value} (s : InC (Below W.heap.size W)) (h : Calls P f args s.w fun e w' => e = .returned v ∧ ∃ q, w' = s.w.drewN q) :
    Calls P f args s.w fun e w'' => e = .returned v ∧ ∃ s' : InC (Below W.heap.size W), w'' = s'.w :=
  h.mono fun _ w' ⟨he, q, hq⟩ => ⟨he, ⟨w', by rw [hq]; exact bel_drewN s.ok q⟩, rfl⟩

end Go.Proofs.Ytpggcpnjcalfaaa

/-
  headOf and frontOf of the package code: what they answer.
-/
namespace Go.Proofs.Ytpggcpnjcalfaaa
open Go.RowKit

theorem headOf_any (g b : Int) (a : Option Addr) (n c : Nat) (w : World) :
    Calls Try.prog 38 #[modV g b a n c] w fun e w' => e = .returned (.agg #[.int .u32 g, .int .u32 b]) ∧ Below w.heap.size w w' := by
  unfold modV
  go_enter Try.func38, Try.ntmps38
  go_wp2
  refine bodyPost_ret (v := .agg #[.int .u32 g, .int .u32 b]) ?_ rfl ⟨rfl, ?_⟩
  · simp [results, Try.results38, go_sem]
  · exact two_boxes w _ _

end Go.Proofs.Ytpggcpnjcalfaaa

/-
  Plain facts on strings as lists of numbers from 0 to 255: a text's words.
-/
namespace Go.Proofs.Ytpggcpnjcalfaaa
open Go.RowKit

theorem size_list (s : ByteArray) : s.data.toList.length = s.size := by rw [Array.length_toList]; rfl

/-- A string's bytes, as numbers. -/
def strI (s : ByteArray) : List Int := s.data.toList.map fun b => (b.toNat : Int)

theorem strI_len (s : ByteArray) : (strI s).length = s.size := by rw [strI, List.length_map, size_list]
theorem strI_within (s : ByteArray) : Within 256 (strI s) := by
  intro z hz
  simp only [strI, List.mem_map] at hz
  obtain ⟨b, _, rfl⟩ := hz
  have := b.toNat_lt
  omega
theorem nth_strI (s : ByteArray) (k : Nat) (h : k < s.size) : nth (strI s) k = (s[k].toNat : Int) := by
  have h' : k < s.data.toList.length := by rw [size_list]; exact h
  have e : s[k] = s.data.toList[k] := rfl
  rw [e]
  have h2 : (strI s)[k]? = some ((s.data.toList[k].toNat : Int)) := by rw [strI, List.getElem?_map, List.getElem?_eq_getElem h']; rfl
  rw [nth, List.getD, h2]; rfl
/-- The string is what its numbers make. -/
theorem str_of_strI (s : ByteArray) : strOfNums (strI s) = s := by
  have e : (strI s).map (fun n => UInt8.ofNat n.toNat) = s.data.toList := by
    simp [strI, Function.comp_def]
  unfold strOfNums
  rw [e]

/-- No byte 0. -/
def NoNul (s : ByteArray) : Prop := ∀ k, k < s.size → nth (strI s) k ≠ 0

theorem index_none (s : ByteArray) (h : NoNul s) : Lib.indexByte s.data.toList (0 : Int).toNat.toUInt8 = -1 := by
  have hge := Lib.indexByte_ge s.data.toList (0 : Int).toNat.toUInt8
  apply Classical.byContradiction
  intro hne
  obtain ⟨o, ho⟩ : ∃ o : Nat, Lib.indexByte s.data.toList (0 : Int).toNat.toUInt8 = o := ⟨(Lib.indexByte s.data.toList (0 : Int).toNat.toUInt8).toNat, by omega⟩
  have := (Lib.indexByte_some ho).1
  have hlt : o < s.data.toList.length := by
    rcases Nat.lt_or_ge o s.data.toList.length with h1 | h1
    · exact h1
    · rw [List.getElem?_eq_none h1] at this; simp at this
  have hs : o < s.size := by rw [← size_list]; exact hlt
  apply h o hs
  rw [nth_strI s o hs]
  have e : s[o] = s.data.toList[o] := rfl
  rw [List.getElem?_eq_getElem hlt] at this
  rw [e, Option.some.inj this]
  rfl
theorem index_some (s : ByteArray) (k : Nat) (hk : k < s.size) (h : nth (strI s) k = 0) : 0 ≤ Lib.indexByte s.data.toList (0 : Int).toNat.toUInt8 := by
  have hge := Lib.indexByte_ge s.data.toList (0 : Int).toNat.toUInt8
  apply Classical.byContradiction
  intro hne
  have hm : Lib.indexByte s.data.toList (0 : Int).toNat.toUInt8 = -1 := by omega
  have := Lib.indexByte_none hm k
  have hlt : k < s.data.toList.length := by rw [size_list]; exact hk
  apply this
  rw [List.getElem?_eq_getElem hlt]
  rw [nth_strI s k hk] at h
  have e : s[k] = s.data.toList[k] := rfl
  rw [e] at h
  have : s.data.toList[k].toNat = 0 := by omega
  exact congrArg some (UInt8.toNat_inj.1 this)

/-- A text's bytes, a byte 0, and as many more as make whole words. -/
def padI (s : ByteArray) : List Int := filled (strI s) s.size (4 * (s.size / 4 + 1))
/-- A text's words. -/
def textW (s : ByteArray) : List Int := splitL (padI s)

theorem padI_len (s : ByteArray) : (padI s).length = 4 * (s.size / 4 + 1) := filled_len _ _ _ (by omega) (by rw [strI_len]; omega)
theorem textW_len (s : ByteArray) : (textW s).length = s.size / 4 + 1 := by rw [textW, splitL_len, padI_len]; omega
theorem padI_lo (s : ByteArray) (k : Nat) (h : k < s.size) : nth (padI s) k = nth (strI s) k := by
  have e : (strI s).take s.size = strI s := List.take_of_length_le (by rw [strI_len]; omega)
  rw [padI, filled, e, getD_left _ _ _ (by rw [strI_len]; exact h)]
theorem padI_hi (s : ByteArray) (k : Nat) (h : s.size ≤ k) : nth (padI s) k = 0 := by
  have e : (strI s).take s.size = strI s := List.take_of_length_le (by rw [strI_len]; omega)
  rw [padI, filled, e, getD_right _ _ _ (by rw [strI_len]; exact h)]
  simp only [nth, List.getD, List.getElem?_replicate]
  split <;> rfl
theorem padI_within (s : ByteArray) : Within 256 (padI s) := by
  intro z hz
  simp only [padI, filled, List.mem_append, List.mem_replicate] at hz
  rcases hz with hz | ⟨_, rfl⟩
  · exact strI_within s z (List.mem_of_mem_take hz)
  · omega
/-- What lies behind the text's bytes is 0: the row is whole when they are in it. -/
theorem partL_padI (s : ByteArray) : partL (padI s) s.size (s.size / 4 + 1) = textW s := by
  have h := partL_whole (padI s) (by rw [padI_len]; omega)
  rw [padI_len, show 4 * (s.size / 4 + 1) / 4 = s.size / 4 + 1 by omega] at h
  rw [textW, ← h]
  unfold partL
  apply List.map_congr_left
  intro k hk
  have hk' : k < s.size / 4 + 1 := List.mem_range.1 hk
  unfold partW
  rw [if_pos (show 4 * k < 4 * (s.size / 4 + 1) by omega), if_pos (show 4 * k + 1 < 4 * (s.size / 4 + 1) by omega), if_pos (show 4 * k + 2 < 4 * (s.size / 4 + 1) by omega), if_pos (show 4 * k + 3 < 4 * (s.size / 4 + 1) by omega)]
  have f : ∀ i, (if i < s.size then nth (padI s) i else 0) = nth (padI s) i := fun i => by
    split
    · rfl
    · rw [padI_hi s i (by omega)]
  have f' : ∀ i (c : Int), (if i < s.size then nth (padI s) i * c else 0) = nth (padI s) i * c := fun i c => by
    split
    · rfl
    · rw [padI_hi s i (by omega)]; omega
  rw [f, f', f', f']

end Go.Proofs.Ytpggcpnjcalfaaa

/-
  The tables of the layer grammar, as the program and the document's answer have them: texts by numbers, forms by operations, names of enumerants.
-/
namespace Go.Proofs.Ytpggcpnjcalfaaa
open Go.RowKit
set_option linter.unusedVariables false

def namingT : List (Int × ByteArray) := [
  (1, ⟨#[79, 112, 85, 110, 100, 101, 102, 47, 116, 114, 47, 47, 47, 48, 47, 55]⟩),
  (3, ⟨#[79, 112, 83, 111, 117, 114, 99, 101, 47, 47, 108, 110, 47, 47, 48, 47, 52]⟩),
  (5, ⟨#[79, 112, 78, 97, 109, 101, 47, 47, 105, 115, 47, 47, 48, 47, 53]⟩),
  (6, ⟨#[79, 112, 77, 101, 109, 98, 101, 114, 78, 97, 109, 101, 47, 47, 105, 110, 115, 47, 47, 48, 47, 53]⟩),
  (7, ⟨#[79, 112, 83, 116, 114, 105, 110, 103, 47, 114, 47, 115, 47, 47, 48, 47, 52]⟩),
  (14, ⟨#[79, 112, 77, 101, 109, 111, 114, 121, 77, 111, 100, 101, 108, 47, 47, 97, 109, 47, 47, 48, 47, 49]⟩),
  (15, ⟨#[79, 112, 69, 110, 116, 114, 121, 80, 111, 105, 110, 116, 47, 47, 101, 105, 115, 47, 105, 47, 48, 47, 50]⟩),
  (16, ⟨#[79, 112, 69, 120, 101, 99, 117, 116, 105, 111, 110, 77, 111, 100, 101, 47, 47, 105, 120, 47, 47, 48, 47, 51]⟩),
  (17, ⟨#[79, 112, 67, 97, 112, 97, 98, 105, 108, 105, 116, 121, 47, 47, 107, 47, 47, 48, 47, 48]⟩),
  (19, ⟨#[79, 112, 84, 121, 112, 101, 86, 111, 105, 100, 47, 114, 47, 47, 47, 48, 47, 55]⟩),
  (20, ⟨#[79, 112, 84, 121, 112, 101, 66, 111, 111, 108, 47, 114, 47, 47, 47, 48, 47, 55]⟩),
  (21, ⟨#[79, 112, 84, 121, 112, 101, 73, 110, 116, 47, 114, 47, 110, 110, 47, 47, 48, 47, 55]⟩),
  (23, ⟨#[79, 112, 84, 121, 112, 101, 86, 101, 99, 116, 111, 114, 47, 114, 47, 105, 110, 47, 47, 48, 47, 55]⟩),
  (28, ⟨#[79, 112, 84, 121, 112, 101, 65, 114, 114, 97, 121, 47, 114, 47, 105, 105, 47, 47, 48, 47, 55]⟩),
  (30, ⟨#[79, 112, 84, 121, 112, 101, 83, 116, 114, 117, 99, 116, 47, 114, 47, 47, 105, 47, 48, 47, 55]⟩),
  (32, ⟨#[79, 112, 84, 121, 112, 101, 80, 111, 105, 110, 116, 101, 114, 47, 114, 47, 99, 105, 47, 47, 48, 47, 55]⟩),
  (33, ⟨#[79, 112, 84, 121, 112, 101, 70, 117, 110, 99, 116, 105, 111, 110, 47, 114, 47, 105, 47, 105, 47, 48, 47, 55]⟩)]

def makingT : List (Int × ByteArray) := [
  (41, ⟨#[79, 112, 67, 111, 110, 115, 116, 97, 110, 116, 84, 114, 117, 101, 47, 116, 114, 47, 47, 47, 48, 47, 55]⟩),
  (42, ⟨#[79, 112, 67, 111, 110, 115, 116, 97, 110, 116, 70, 97, 108, 115, 101, 47, 116, 114, 47, 47, 47, 48, 47, 55]⟩),
  (43, ⟨#[79, 112, 67, 111, 110, 115, 116, 97, 110, 116, 47, 116, 114, 47, 110, 47, 47, 48, 47, 55]⟩),
  (44, ⟨#[79, 112, 67, 111, 110, 115, 116, 97, 110, 116, 67, 111, 109, 112, 111, 115, 105, 116, 101, 47, 116, 114, 47, 47, 105, 47, 48, 47, 55]⟩),
  (46, ⟨#[79, 112, 67, 111, 110, 115, 116, 97, 110, 116, 78, 117, 108, 108, 47, 116, 114, 47, 47, 47, 48, 47, 55]⟩),
  (54, ⟨#[79, 112, 70, 117, 110, 99, 116, 105, 111, 110, 47, 116, 114, 47, 102, 105, 47, 47, 48, 47, 56]⟩),
  (55, ⟨#[79, 112, 70, 117, 110, 99, 116, 105, 111, 110, 80, 97, 114, 97, 109, 101, 116, 101, 114, 47, 116, 114, 47, 47, 47, 48, 47, 56]⟩),
  (56, ⟨#[79, 112, 70, 117, 110, 99, 116, 105, 111, 110, 69, 110, 100, 47, 47, 47, 47, 48, 47, 56]⟩),
  (57, ⟨#[79, 112, 70, 117, 110, 99, 116, 105, 111, 110, 67, 97, 108, 108, 47, 116, 114, 47, 105, 47, 105, 47, 48, 47, 56]⟩),
  (59, ⟨#[79, 112, 86, 97, 114, 105, 97, 98, 108, 101, 47, 116, 114, 47, 99, 47, 105, 47, 49, 47, 55]⟩),
  (61, ⟨#[79, 112, 76, 111, 97, 100, 47, 116, 114, 47, 105, 47, 47, 48, 47, 56]⟩),
  (62, ⟨#[79, 112, 83, 116, 111, 114, 101, 47, 47, 105, 105, 47, 47, 48, 47, 56]⟩),
  (65, ⟨#[79, 112, 65, 99, 99, 101, 115, 115, 67, 104, 97, 105, 110, 47, 116, 114, 47, 105, 47, 105, 47, 48, 47, 56]⟩),
  (71, ⟨#[79, 112, 68, 101, 99, 111, 114, 97, 116, 101, 47, 47, 105, 100, 47, 110, 47, 48, 47, 54]⟩),
  (77, ⟨#[79, 112, 86, 101, 99, 116, 111, 114, 69, 120, 116, 114, 97, 99, 116, 68, 121, 110, 97, 109, 105, 99, 47, 116, 114, 47, 105, 105, 47, 47, 48, 47, 56]⟩),
  (78, ⟨#[79, 112, 86, 101, 99, 116, 111, 114, 73, 110, 115, 101, 114, 116, 68, 121, 110, 97, 109, 105, 99, 47, 116, 114, 47, 105, 105, 105, 47, 47, 48, 47, 56]⟩),
  (79, ⟨#[79, 112, 86, 101, 99, 116, 111, 114, 83, 104, 117, 102, 102, 108, 101, 47, 116, 114, 47, 105, 105, 47, 110, 47, 48, 47, 56]⟩),
  (80, ⟨#[79, 112, 67, 111, 109, 112, 111, 115, 105, 116, 101, 67, 111, 110, 115, 116, 114, 117, 99, 116, 47, 116, 114, 47, 47, 105, 47, 48, 47, 56]⟩),
  (81, ⟨#[79, 112, 67, 111, 109, 112, 111, 115, 105, 116, 101, 69, 120, 116, 114, 97, 99, 116, 47, 116, 114, 47, 105, 47, 110, 47, 48, 47, 56]⟩),
  (82, ⟨#[79, 112, 67, 111, 109, 112, 111, 115, 105, 116, 101, 73, 110, 115, 101, 114, 116, 47, 116, 114, 47, 105, 105, 47, 110, 47, 48, 47, 56]⟩),
  (83, ⟨#[79, 112, 67, 111, 112, 121, 79, 98, 106, 101, 99, 116, 47, 116, 114, 47, 105, 47, 47, 48, 47, 56]⟩)]

def countingT : List (Int × ByteArray) := [
  (124, ⟨#[79, 112, 66, 105, 116, 99, 97, 115, 116, 47, 116, 114, 47, 105, 47, 47, 48, 47, 56]⟩),
  (126, ⟨#[79, 112, 83, 78, 101, 103, 97, 116, 101, 47, 116, 114, 47, 105, 47, 47, 48, 47, 56]⟩),
  (128, ⟨#[79, 112, 73, 65, 100, 100, 47, 116, 114, 47, 105, 105, 47, 47, 48, 47, 56]⟩),
  (130, ⟨#[79, 112, 73, 83, 117, 98, 47, 116, 114, 47, 105, 105, 47, 47, 48, 47, 56]⟩),
  (132, ⟨#[79, 112, 73, 77, 117, 108, 47, 116, 114, 47, 105, 105, 47, 47, 48, 47, 56]⟩),
  (134, ⟨#[79, 112, 85, 68, 105, 118, 47, 116, 114, 47, 105, 105, 47, 47, 48, 47, 56]⟩),
  (135, ⟨#[79, 112, 83, 68, 105, 118, 47, 116, 114, 47, 105, 105, 47, 47, 48, 47, 56]⟩),
  (137, ⟨#[79, 112, 85, 77, 111, 100, 47, 116, 114, 47, 105, 105, 47, 47, 48, 47, 56]⟩),
  (138, ⟨#[79, 112, 83, 82, 101, 109, 47, 116, 114, 47, 105, 105, 47, 47, 48, 47, 56]⟩),
  (139, ⟨#[79, 112, 83, 77, 111, 100, 47, 116, 114, 47, 105, 105, 47, 47, 48, 47, 56]⟩),
  (149, ⟨#[79, 112, 73, 65, 100, 100, 67, 97, 114, 114, 121, 47, 116, 114, 47, 105, 105, 47, 47, 48, 47, 56]⟩),
  (150, ⟨#[79, 112, 73, 83, 117, 98, 66, 111, 114, 114, 111, 119, 47, 116, 114, 47, 105, 105, 47, 47, 48, 47, 56]⟩),
  (151, ⟨#[79, 112, 85, 77, 117, 108, 69, 120, 116, 101, 110, 100, 101, 100, 47, 116, 114, 47, 105, 105, 47, 47, 48, 47, 56]⟩),
  (152, ⟨#[79, 112, 83, 77, 117, 108, 69, 120, 116, 101, 110, 100, 101, 100, 47, 116, 114, 47, 105, 105, 47, 47, 48, 47, 56]⟩),
  (154, ⟨#[79, 112, 65, 110, 121, 47, 116, 114, 47, 105, 47, 47, 48, 47, 56]⟩),
  (155, ⟨#[79, 112, 65, 108, 108, 47, 116, 114, 47, 105, 47, 47, 48, 47, 56]⟩)]

def comparingT : List (Int × ByteArray) := [
  (164, ⟨#[79, 112, 76, 111, 103, 105, 99, 97, 108, 69, 113, 117, 97, 108, 47, 116, 114, 47, 105, 105, 47, 47, 48, 47, 56]⟩),
  (165, ⟨#[79, 112, 76, 111, 103, 105, 99, 97, 108, 78, 111, 116, 69, 113, 117, 97, 108, 47, 116, 114, 47, 105, 105, 47, 47, 48, 47, 56]⟩),
  (166, ⟨#[79, 112, 76, 111, 103, 105, 99, 97, 108, 79, 114, 47, 116, 114, 47, 105, 105, 47, 47, 48, 47, 56]⟩),
  (167, ⟨#[79, 112, 76, 111, 103, 105, 99, 97, 108, 65, 110, 100, 47, 116, 114, 47, 105, 105, 47, 47, 48, 47, 56]⟩),
  (168, ⟨#[79, 112, 76, 111, 103, 105, 99, 97, 108, 78, 111, 116, 47, 116, 114, 47, 105, 47, 47, 48, 47, 56]⟩),
  (169, ⟨#[79, 112, 83, 101, 108, 101, 99, 116, 47, 116, 114, 47, 105, 105, 105, 47, 47, 48, 47, 56]⟩),
  (170, ⟨#[79, 112, 73, 69, 113, 117, 97, 108, 47, 116, 114, 47, 105, 105, 47, 47, 48, 47, 56]⟩),
  (171, ⟨#[79, 112, 73, 78, 111, 116, 69, 113, 117, 97, 108, 47, 116, 114, 47, 105, 105, 47, 47, 48, 47, 56]⟩),
  (172, ⟨#[79, 112, 85, 71, 114, 101, 97, 116, 101, 114, 84, 104, 97, 110, 47, 116, 114, 47, 105, 105, 47, 47, 48, 47, 56]⟩),
  (173, ⟨#[79, 112, 83, 71, 114, 101, 97, 116, 101, 114, 84, 104, 97, 110, 47, 116, 114, 47, 105, 105, 47, 47, 48, 47, 56]⟩),
  (174, ⟨#[79, 112, 85, 71, 114, 101, 97, 116, 101, 114, 84, 104, 97, 110, 69, 113, 117, 97, 108, 47, 116, 114, 47, 105, 105, 47, 47, 48, 47, 56]⟩),
  (175, ⟨#[79, 112, 83, 71, 114, 101, 97, 116, 101, 114, 84, 104, 97, 110, 69, 113, 117, 97, 108, 47, 116, 114, 47, 105, 105, 47, 47, 48, 47, 56]⟩),
  (176, ⟨#[79, 112, 85, 76, 101, 115, 115, 84, 104, 97, 110, 47, 116, 114, 47, 105, 105, 47, 47, 48, 47, 56]⟩),
  (177, ⟨#[79, 112, 83, 76, 101, 115, 115, 84, 104, 97, 110, 47, 116, 114, 47, 105, 105, 47, 47, 48, 47, 56]⟩),
  (178, ⟨#[79, 112, 85, 76, 101, 115, 115, 84, 104, 97, 110, 69, 113, 117, 97, 108, 47, 116, 114, 47, 105, 105, 47, 47, 48, 47, 56]⟩),
  (179, ⟨#[79, 112, 83, 76, 101, 115, 115, 84, 104, 97, 110, 69, 113, 117, 97, 108, 47, 116, 114, 47, 105, 105, 47, 47, 48, 47, 56]⟩)]

def bitT : List (Int × ByteArray) := [
  (194, ⟨#[79, 112, 83, 104, 105, 102, 116, 82, 105, 103, 104, 116, 76, 111, 103, 105, 99, 97, 108, 47, 116, 114, 47, 105, 105, 47, 47, 48, 47, 56]⟩),
  (195, ⟨#[79, 112, 83, 104, 105, 102, 116, 82, 105, 103, 104, 116, 65, 114, 105, 116, 104, 109, 101, 116, 105, 99, 47, 116, 114, 47, 105, 105, 47, 47, 48, 47, 56]⟩),
  (196, ⟨#[79, 112, 83, 104, 105, 102, 116, 76, 101, 102, 116, 76, 111, 103, 105, 99, 97, 108, 47, 116, 114, 47, 105, 105, 47, 47, 48, 47, 56]⟩),
  (197, ⟨#[79, 112, 66, 105, 116, 119, 105, 115, 101, 79, 114, 47, 116, 114, 47, 105, 105, 47, 47, 48, 47, 56]⟩),
  (198, ⟨#[79, 112, 66, 105, 116, 119, 105, 115, 101, 88, 111, 114, 47, 116, 114, 47, 105, 105, 47, 47, 48, 47, 56]⟩),
  (199, ⟨#[79, 112, 66, 105, 116, 119, 105, 115, 101, 65, 110, 100, 47, 116, 114, 47, 105, 105, 47, 47, 48, 47, 56]⟩),
  (200, ⟨#[79, 112, 78, 111, 116, 47, 116, 114, 47, 105, 47, 47, 48, 47, 56]⟩),
  (201, ⟨#[79, 112, 66, 105, 116, 70, 105, 101, 108, 100, 73, 110, 115, 101, 114, 116, 47, 116, 114, 47, 105, 105, 105, 105, 47, 47, 48, 47, 56]⟩),
  (202, ⟨#[79, 112, 66, 105, 116, 70, 105, 101, 108, 100, 83, 69, 120, 116, 114, 97, 99, 116, 47, 116, 114, 47, 105, 105, 105, 47, 47, 48, 47, 56]⟩),
  (203, ⟨#[79, 112, 66, 105, 116, 70, 105, 101, 108, 100, 85, 69, 120, 116, 114, 97, 99, 116, 47, 116, 114, 47, 105, 105, 105, 47, 47, 48, 47, 56]⟩),
  (204, ⟨#[79, 112, 66, 105, 116, 82, 101, 118, 101, 114, 115, 101, 47, 116, 114, 47, 105, 47, 47, 48, 47, 56]⟩),
  (205, ⟨#[79, 112, 66, 105, 116, 67, 111, 117, 110, 116, 47, 116, 114, 47, 105, 47, 47, 48, 47, 56]⟩)]

def flowT : List (Int × ByteArray) := [
  (245, ⟨#[79, 112, 80, 104, 105, 47, 116, 114, 47, 47, 105, 105, 47, 48, 47, 56]⟩),
  (246, ⟨#[79, 112, 76, 111, 111, 112, 77, 101, 114, 103, 101, 47, 47, 105, 105, 103, 47, 47, 48, 47, 56]⟩),
  (247, ⟨#[79, 112, 83, 101, 108, 101, 99, 116, 105, 111, 110, 77, 101, 114, 103, 101, 47, 47, 105, 104, 47, 47, 48, 47, 56]⟩),
  (248, ⟨#[79, 112, 76, 97, 98, 101, 108, 47, 114, 47, 47, 47, 48, 47, 56]⟩),
  (249, ⟨#[79, 112, 66, 114, 97, 110, 99, 104, 47, 47, 105, 47, 47, 48, 47, 56]⟩),
  (250, ⟨#[79, 112, 66, 114, 97, 110, 99, 104, 67, 111, 110, 100, 105, 116, 105, 111, 110, 97, 108, 47, 47, 105, 105, 105, 47, 47, 48, 47, 56]⟩),
  (251, ⟨#[79, 112, 83, 119, 105, 116, 99, 104, 47, 47, 105, 105, 47, 110, 105, 47, 48, 47, 56]⟩),
  (252, ⟨#[79, 112, 75, 105, 108, 108, 47, 47, 47, 47, 48, 47, 56]⟩),
  (253, ⟨#[79, 112, 82, 101, 116, 117, 114, 110, 47, 47, 47, 47, 48, 47, 56]⟩),
  (254, ⟨#[79, 112, 82, 101, 116, 117, 114, 110, 86, 97, 108, 117, 101, 47, 47, 105, 47, 47, 48, 47, 56]⟩),
  (255, ⟨#[79, 112, 85, 110, 114, 101, 97, 99, 104, 97, 98, 108, 101, 47, 47, 47, 47, 48, 47, 56]⟩)]

def enumT : List (Int × ByteArray) := [
  (107, ⟨#[48, 58, 77, 97, 116, 114, 105, 120, 59, 49, 58, 83, 104, 97, 100, 101, 114, 59]⟩),
  (97, ⟨#[48, 58, 76, 111, 103, 105, 99, 97, 108, 59]⟩),
  (109, ⟨#[48, 58, 83, 105, 109, 112, 108, 101, 59, 49, 58, 71, 76, 83, 76, 52, 53, 48, 59]⟩),
  (101, ⟨#[48, 58, 86, 101, 114, 116, 101, 120, 59, 52, 58, 70, 114, 97, 103, 109, 101, 110, 116, 59]⟩),
  (120, ⟨#[55, 58, 79, 114, 105, 103, 105, 110, 85, 112, 112, 101, 114, 76, 101, 102, 116, 59]⟩),
  (108, ⟨#[48, 58, 85, 110, 107, 110, 111, 119, 110, 59, 49, 58, 69, 83, 83, 76, 59, 50, 58, 71, 76, 83, 76, 59]⟩),
  (99, ⟨#[49, 58, 73, 110, 112, 117, 116, 59, 51, 58, 79, 117, 116, 112, 117, 116, 59, 54, 58, 80, 114, 105, 118, 97, 116, 101, 59, 55, 58, 70, 117, 110, 99, 116, 105, 111, 110, 59]⟩),
  (100, ⟨#[48, 58, 82, 101, 108, 97, 120, 101, 100, 80, 114, 101, 99, 105, 115, 105, 111, 110, 59, 49, 49, 58, 66, 117, 105, 108, 116, 73, 110, 59, 49, 52, 58, 70, 108, 97, 116, 59, 51, 48, 58, 76, 111, 99, 97, 116, 105, 111, 110, 59]⟩),
  (102, ⟨#[48, 58, 78, 111, 110, 101, 59, 49, 58, 73, 110, 108, 105, 110, 101, 59, 50, 58, 68, 111, 110, 116, 73, 110, 108, 105, 110, 101, 59, 52, 58, 80, 117, 114, 101, 59, 56, 58, 67, 111, 110, 115, 116, 59]⟩),
  (104, ⟨#[48, 58, 78, 111, 110, 101, 59, 49, 58, 70, 108, 97, 116, 116, 101, 110, 59, 50, 58, 68, 111, 110, 116, 70, 108, 97, 116, 116, 101, 110, 59]⟩),
  (103, ⟨#[48, 58, 78, 111, 110, 101, 59, 49, 58, 85, 110, 114, 111, 108, 108, 59, 50, 58, 68, 111, 110, 116, 85, 110, 114, 111, 108, 108, 59]⟩)]

/-- A form but for its operation: its name, whether it has a type and a result, Fixed, Rest, Most, Part. -/
abbrev Frm := ByteArray × Bool × Bool × ByteArray × ByteArray × Int × Int

def refT : List (Int × Frm) := [
  (1, ⟨#[79, 112, 85, 110, 100, 101, 102]⟩, true, true, ⟨#[]⟩, ⟨#[]⟩, 0, 7),
  (3, ⟨#[79, 112, 83, 111, 117, 114, 99, 101]⟩, false, false, ⟨#[108, 110]⟩, ⟨#[]⟩, 0, 4),
  (5, ⟨#[79, 112, 78, 97, 109, 101]⟩, false, false, ⟨#[105, 115]⟩, ⟨#[]⟩, 0, 5),
  (6, ⟨#[79, 112, 77, 101, 109, 98, 101, 114, 78, 97, 109, 101]⟩, false, false, ⟨#[105, 110, 115]⟩, ⟨#[]⟩, 0, 5),
  (7, ⟨#[79, 112, 83, 116, 114, 105, 110, 103]⟩, false, true, ⟨#[115]⟩, ⟨#[]⟩, 0, 4),
  (14, ⟨#[79, 112, 77, 101, 109, 111, 114, 121, 77, 111, 100, 101, 108]⟩, false, false, ⟨#[97, 109]⟩, ⟨#[]⟩, 0, 1),
  (15, ⟨#[79, 112, 69, 110, 116, 114, 121, 80, 111, 105, 110, 116]⟩, false, false, ⟨#[101, 105, 115]⟩, ⟨#[105]⟩, 0, 2),
  (16, ⟨#[79, 112, 69, 120, 101, 99, 117, 116, 105, 111, 110, 77, 111, 100, 101]⟩, false, false, ⟨#[105, 120]⟩, ⟨#[]⟩, 0, 3),
  (17, ⟨#[79, 112, 67, 97, 112, 97, 98, 105, 108, 105, 116, 121]⟩, false, false, ⟨#[107]⟩, ⟨#[]⟩, 0, 0),
  (19, ⟨#[79, 112, 84, 121, 112, 101, 86, 111, 105, 100]⟩, false, true, ⟨#[]⟩, ⟨#[]⟩, 0, 7),
  (20, ⟨#[79, 112, 84, 121, 112, 101, 66, 111, 111, 108]⟩, false, true, ⟨#[]⟩, ⟨#[]⟩, 0, 7),
  (21, ⟨#[79, 112, 84, 121, 112, 101, 73, 110, 116]⟩, false, true, ⟨#[110, 110]⟩, ⟨#[]⟩, 0, 7),
  (23, ⟨#[79, 112, 84, 121, 112, 101, 86, 101, 99, 116, 111, 114]⟩, false, true, ⟨#[105, 110]⟩, ⟨#[]⟩, 0, 7),
  (28, ⟨#[79, 112, 84, 121, 112, 101, 65, 114, 114, 97, 121]⟩, false, true, ⟨#[105, 105]⟩, ⟨#[]⟩, 0, 7),
  (30, ⟨#[79, 112, 84, 121, 112, 101, 83, 116, 114, 117, 99, 116]⟩, false, true, ⟨#[]⟩, ⟨#[105]⟩, 0, 7),
  (32, ⟨#[79, 112, 84, 121, 112, 101, 80, 111, 105, 110, 116, 101, 114]⟩, false, true, ⟨#[99, 105]⟩, ⟨#[]⟩, 0, 7),
  (33, ⟨#[79, 112, 84, 121, 112, 101, 70, 117, 110, 99, 116, 105, 111, 110]⟩, false, true, ⟨#[105]⟩, ⟨#[105]⟩, 0, 7),
  (41, ⟨#[79, 112, 67, 111, 110, 115, 116, 97, 110, 116, 84, 114, 117, 101]⟩, true, true, ⟨#[]⟩, ⟨#[]⟩, 0, 7),
  (42, ⟨#[79, 112, 67, 111, 110, 115, 116, 97, 110, 116, 70, 97, 108, 115, 101]⟩, true, true, ⟨#[]⟩, ⟨#[]⟩, 0, 7),
  (43, ⟨#[79, 112, 67, 111, 110, 115, 116, 97, 110, 116]⟩, true, true, ⟨#[110]⟩, ⟨#[]⟩, 0, 7),
  (44, ⟨#[79, 112, 67, 111, 110, 115, 116, 97, 110, 116, 67, 111, 109, 112, 111, 115, 105, 116, 101]⟩, true, true, ⟨#[]⟩, ⟨#[105]⟩, 0, 7),
  (46, ⟨#[79, 112, 67, 111, 110, 115, 116, 97, 110, 116, 78, 117, 108, 108]⟩, true, true, ⟨#[]⟩, ⟨#[]⟩, 0, 7),
  (54, ⟨#[79, 112, 70, 117, 110, 99, 116, 105, 111, 110]⟩, true, true, ⟨#[102, 105]⟩, ⟨#[]⟩, 0, 8),
  (55, ⟨#[79, 112, 70, 117, 110, 99, 116, 105, 111, 110, 80, 97, 114, 97, 109, 101, 116, 101, 114]⟩, true, true, ⟨#[]⟩, ⟨#[]⟩, 0, 8),
  (56, ⟨#[79, 112, 70, 117, 110, 99, 116, 105, 111, 110, 69, 110, 100]⟩, false, false, ⟨#[]⟩, ⟨#[]⟩, 0, 8),
  (57, ⟨#[79, 112, 70, 117, 110, 99, 116, 105, 111, 110, 67, 97, 108, 108]⟩, true, true, ⟨#[105]⟩, ⟨#[105]⟩, 0, 8),
  (59, ⟨#[79, 112, 86, 97, 114, 105, 97, 98, 108, 101]⟩, true, true, ⟨#[99]⟩, ⟨#[105]⟩, 1, 7),
  (61, ⟨#[79, 112, 76, 111, 97, 100]⟩, true, true, ⟨#[105]⟩, ⟨#[]⟩, 0, 8),
  (62, ⟨#[79, 112, 83, 116, 111, 114, 101]⟩, false, false, ⟨#[105, 105]⟩, ⟨#[]⟩, 0, 8),
  (65, ⟨#[79, 112, 65, 99, 99, 101, 115, 115, 67, 104, 97, 105, 110]⟩, true, true, ⟨#[105]⟩, ⟨#[105]⟩, 0, 8),
  (71, ⟨#[79, 112, 68, 101, 99, 111, 114, 97, 116, 101]⟩, false, false, ⟨#[105, 100]⟩, ⟨#[110]⟩, 0, 6),
  (77, ⟨#[79, 112, 86, 101, 99, 116, 111, 114, 69, 120, 116, 114, 97, 99, 116, 68, 121, 110, 97, 109, 105, 99]⟩, true, true, ⟨#[105, 105]⟩, ⟨#[]⟩, 0, 8),
  (78, ⟨#[79, 112, 86, 101, 99, 116, 111, 114, 73, 110, 115, 101, 114, 116, 68, 121, 110, 97, 109, 105, 99]⟩, true, true, ⟨#[105, 105, 105]⟩, ⟨#[]⟩, 0, 8),
  (79, ⟨#[79, 112, 86, 101, 99, 116, 111, 114, 83, 104, 117, 102, 102, 108, 101]⟩, true, true, ⟨#[105, 105]⟩, ⟨#[110]⟩, 0, 8),
  (80, ⟨#[79, 112, 67, 111, 109, 112, 111, 115, 105, 116, 101, 67, 111, 110, 115, 116, 114, 117, 99, 116]⟩, true, true, ⟨#[]⟩, ⟨#[105]⟩, 0, 8),
  (81, ⟨#[79, 112, 67, 111, 109, 112, 111, 115, 105, 116, 101, 69, 120, 116, 114, 97, 99, 116]⟩, true, true, ⟨#[105]⟩, ⟨#[110]⟩, 0, 8),
  (82, ⟨#[79, 112, 67, 111, 109, 112, 111, 115, 105, 116, 101, 73, 110, 115, 101, 114, 116]⟩, true, true, ⟨#[105, 105]⟩, ⟨#[110]⟩, 0, 8),
  (83, ⟨#[79, 112, 67, 111, 112, 121, 79, 98, 106, 101, 99, 116]⟩, true, true, ⟨#[105]⟩, ⟨#[]⟩, 0, 8),
  (124, ⟨#[79, 112, 66, 105, 116, 99, 97, 115, 116]⟩, true, true, ⟨#[105]⟩, ⟨#[]⟩, 0, 8),
  (126, ⟨#[79, 112, 83, 78, 101, 103, 97, 116, 101]⟩, true, true, ⟨#[105]⟩, ⟨#[]⟩, 0, 8),
  (128, ⟨#[79, 112, 73, 65, 100, 100]⟩, true, true, ⟨#[105, 105]⟩, ⟨#[]⟩, 0, 8),
  (130, ⟨#[79, 112, 73, 83, 117, 98]⟩, true, true, ⟨#[105, 105]⟩, ⟨#[]⟩, 0, 8),
  (132, ⟨#[79, 112, 73, 77, 117, 108]⟩, true, true, ⟨#[105, 105]⟩, ⟨#[]⟩, 0, 8),
  (134, ⟨#[79, 112, 85, 68, 105, 118]⟩, true, true, ⟨#[105, 105]⟩, ⟨#[]⟩, 0, 8),
  (135, ⟨#[79, 112, 83, 68, 105, 118]⟩, true, true, ⟨#[105, 105]⟩, ⟨#[]⟩, 0, 8),
  (137, ⟨#[79, 112, 85, 77, 111, 100]⟩, true, true, ⟨#[105, 105]⟩, ⟨#[]⟩, 0, 8),
  (138, ⟨#[79, 112, 83, 82, 101, 109]⟩, true, true, ⟨#[105, 105]⟩, ⟨#[]⟩, 0, 8),
  (139, ⟨#[79, 112, 83, 77, 111, 100]⟩, true, true, ⟨#[105, 105]⟩, ⟨#[]⟩, 0, 8),
  (149, ⟨#[79, 112, 73, 65, 100, 100, 67, 97, 114, 114, 121]⟩, true, true, ⟨#[105, 105]⟩, ⟨#[]⟩, 0, 8),
  (150, ⟨#[79, 112, 73, 83, 117, 98, 66, 111, 114, 114, 111, 119]⟩, true, true, ⟨#[105, 105]⟩, ⟨#[]⟩, 0, 8),
  (151, ⟨#[79, 112, 85, 77, 117, 108, 69, 120, 116, 101, 110, 100, 101, 100]⟩, true, true, ⟨#[105, 105]⟩, ⟨#[]⟩, 0, 8),
  (152, ⟨#[79, 112, 83, 77, 117, 108, 69, 120, 116, 101, 110, 100, 101, 100]⟩, true, true, ⟨#[105, 105]⟩, ⟨#[]⟩, 0, 8),
  (154, ⟨#[79, 112, 65, 110, 121]⟩, true, true, ⟨#[105]⟩, ⟨#[]⟩, 0, 8),
  (155, ⟨#[79, 112, 65, 108, 108]⟩, true, true, ⟨#[105]⟩, ⟨#[]⟩, 0, 8),
  (164, ⟨#[79, 112, 76, 111, 103, 105, 99, 97, 108, 69, 113, 117, 97, 108]⟩, true, true, ⟨#[105, 105]⟩, ⟨#[]⟩, 0, 8),
  (165, ⟨#[79, 112, 76, 111, 103, 105, 99, 97, 108, 78, 111, 116, 69, 113, 117, 97, 108]⟩, true, true, ⟨#[105, 105]⟩, ⟨#[]⟩, 0, 8),
  (166, ⟨#[79, 112, 76, 111, 103, 105, 99, 97, 108, 79, 114]⟩, true, true, ⟨#[105, 105]⟩, ⟨#[]⟩, 0, 8),
  (167, ⟨#[79, 112, 76, 111, 103, 105, 99, 97, 108, 65, 110, 100]⟩, true, true, ⟨#[105, 105]⟩, ⟨#[]⟩, 0, 8),
  (168, ⟨#[79, 112, 76, 111, 103, 105, 99, 97, 108, 78, 111, 116]⟩, true, true, ⟨#[105]⟩, ⟨#[]⟩, 0, 8),
  (169, ⟨#[79, 112, 83, 101, 108, 101, 99, 116]⟩, true, true, ⟨#[105, 105, 105]⟩, ⟨#[]⟩, 0, 8),
  (170, ⟨#[79, 112, 73, 69, 113, 117, 97, 108]⟩, true, true, ⟨#[105, 105]⟩, ⟨#[]⟩, 0, 8),
  (171, ⟨#[79, 112, 73, 78, 111, 116, 69, 113, 117, 97, 108]⟩, true, true, ⟨#[105, 105]⟩, ⟨#[]⟩, 0, 8),
  (172, ⟨#[79, 112, 85, 71, 114, 101, 97, 116, 101, 114, 84, 104, 97, 110]⟩, true, true, ⟨#[105, 105]⟩, ⟨#[]⟩, 0, 8),
  (173, ⟨#[79, 112, 83, 71, 114, 101, 97, 116, 101, 114, 84, 104, 97, 110]⟩, true, true, ⟨#[105, 105]⟩, ⟨#[]⟩, 0, 8),
  (174, ⟨#[79, 112, 85, 71, 114, 101, 97, 116, 101, 114, 84, 104, 97, 110, 69, 113, 117, 97, 108]⟩, true, true, ⟨#[105, 105]⟩, ⟨#[]⟩, 0, 8),
  (175, ⟨#[79, 112, 83, 71, 114, 101, 97, 116, 101, 114, 84, 104, 97, 110, 69, 113, 117, 97, 108]⟩, true, true, ⟨#[105, 105]⟩, ⟨#[]⟩, 0, 8),
  (176, ⟨#[79, 112, 85, 76, 101, 115, 115, 84, 104, 97, 110]⟩, true, true, ⟨#[105, 105]⟩, ⟨#[]⟩, 0, 8),
  (177, ⟨#[79, 112, 83, 76, 101, 115, 115, 84, 104, 97, 110]⟩, true, true, ⟨#[105, 105]⟩, ⟨#[]⟩, 0, 8),
  (178, ⟨#[79, 112, 85, 76, 101, 115, 115, 84, 104, 97, 110, 69, 113, 117, 97, 108]⟩, true, true, ⟨#[105, 105]⟩, ⟨#[]⟩, 0, 8),
  (179, ⟨#[79, 112, 83, 76, 101, 115, 115, 84, 104, 97, 110, 69, 113, 117, 97, 108]⟩, true, true, ⟨#[105, 105]⟩, ⟨#[]⟩, 0, 8),
  (194, ⟨#[79, 112, 83, 104, 105, 102, 116, 82, 105, 103, 104, 116, 76, 111, 103, 105, 99, 97, 108]⟩, true, true, ⟨#[105, 105]⟩, ⟨#[]⟩, 0, 8),
  (195, ⟨#[79, 112, 83, 104, 105, 102, 116, 82, 105, 103, 104, 116, 65, 114, 105, 116, 104, 109, 101, 116, 105, 99]⟩, true, true, ⟨#[105, 105]⟩, ⟨#[]⟩, 0, 8),
  (196, ⟨#[79, 112, 83, 104, 105, 102, 116, 76, 101, 102, 116, 76, 111, 103, 105, 99, 97, 108]⟩, true, true, ⟨#[105, 105]⟩, ⟨#[]⟩, 0, 8),
  (197, ⟨#[79, 112, 66, 105, 116, 119, 105, 115, 101, 79, 114]⟩, true, true, ⟨#[105, 105]⟩, ⟨#[]⟩, 0, 8),
  (198, ⟨#[79, 112, 66, 105, 116, 119, 105, 115, 101, 88, 111, 114]⟩, true, true, ⟨#[105, 105]⟩, ⟨#[]⟩, 0, 8),
  (199, ⟨#[79, 112, 66, 105, 116, 119, 105, 115, 101, 65, 110, 100]⟩, true, true, ⟨#[105, 105]⟩, ⟨#[]⟩, 0, 8),
  (200, ⟨#[79, 112, 78, 111, 116]⟩, true, true, ⟨#[105]⟩, ⟨#[]⟩, 0, 8),
  (201, ⟨#[79, 112, 66, 105, 116, 70, 105, 101, 108, 100, 73, 110, 115, 101, 114, 116]⟩, true, true, ⟨#[105, 105, 105, 105]⟩, ⟨#[]⟩, 0, 8),
  (202, ⟨#[79, 112, 66, 105, 116, 70, 105, 101, 108, 100, 83, 69, 120, 116, 114, 97, 99, 116]⟩, true, true, ⟨#[105, 105, 105]⟩, ⟨#[]⟩, 0, 8),
  (203, ⟨#[79, 112, 66, 105, 116, 70, 105, 101, 108, 100, 85, 69, 120, 116, 114, 97, 99, 116]⟩, true, true, ⟨#[105, 105, 105]⟩, ⟨#[]⟩, 0, 8),
  (204, ⟨#[79, 112, 66, 105, 116, 82, 101, 118, 101, 114, 115, 101]⟩, true, true, ⟨#[105]⟩, ⟨#[]⟩, 0, 8),
  (205, ⟨#[79, 112, 66, 105, 116, 67, 111, 117, 110, 116]⟩, true, true, ⟨#[105]⟩, ⟨#[]⟩, 0, 8),
  (245, ⟨#[79, 112, 80, 104, 105]⟩, true, true, ⟨#[]⟩, ⟨#[105, 105]⟩, 0, 8),
  (246, ⟨#[79, 112, 76, 111, 111, 112, 77, 101, 114, 103, 101]⟩, false, false, ⟨#[105, 105, 103]⟩, ⟨#[]⟩, 0, 8),
  (247, ⟨#[79, 112, 83, 101, 108, 101, 99, 116, 105, 111, 110, 77, 101, 114, 103, 101]⟩, false, false, ⟨#[105, 104]⟩, ⟨#[]⟩, 0, 8),
  (248, ⟨#[79, 112, 76, 97, 98, 101, 108]⟩, false, true, ⟨#[]⟩, ⟨#[]⟩, 0, 8),
  (249, ⟨#[79, 112, 66, 114, 97, 110, 99, 104]⟩, false, false, ⟨#[105]⟩, ⟨#[]⟩, 0, 8),
  (250, ⟨#[79, 112, 66, 114, 97, 110, 99, 104, 67, 111, 110, 100, 105, 116, 105, 111, 110, 97, 108]⟩, false, false, ⟨#[105, 105, 105]⟩, ⟨#[]⟩, 0, 8),
  (251, ⟨#[79, 112, 83, 119, 105, 116, 99, 104]⟩, false, false, ⟨#[105, 105]⟩, ⟨#[110, 105]⟩, 0, 8),
  (252, ⟨#[79, 112, 75, 105, 108, 108]⟩, false, false, ⟨#[]⟩, ⟨#[]⟩, 0, 8),
  (253, ⟨#[79, 112, 82, 101, 116, 117, 114, 110]⟩, false, false, ⟨#[]⟩, ⟨#[]⟩, 0, 8),
  (254, ⟨#[79, 112, 82, 101, 116, 117, 114, 110, 86, 97, 108, 117, 101]⟩, false, false, ⟨#[105]⟩, ⟨#[]⟩, 0, 8),
  (255, ⟨#[79, 112, 85, 110, 114, 101, 97, 99, 104, 97, 98, 108, 101]⟩, false, false, ⟨#[]⟩, ⟨#[]⟩, 0, 8)]

/-- The enumerants: letter, number, name. -/
def namesT : List (Int × Int × ByteArray) := [
  (107, 0, ⟨#[77, 97, 116, 114, 105, 120]⟩),
  (107, 1, ⟨#[83, 104, 97, 100, 101, 114]⟩),
  (97, 0, ⟨#[76, 111, 103, 105, 99, 97, 108]⟩),
  (109, 0, ⟨#[83, 105, 109, 112, 108, 101]⟩),
  (109, 1, ⟨#[71, 76, 83, 76, 52, 53, 48]⟩),
  (101, 0, ⟨#[86, 101, 114, 116, 101, 120]⟩),
  (101, 4, ⟨#[70, 114, 97, 103, 109, 101, 110, 116]⟩),
  (120, 7, ⟨#[79, 114, 105, 103, 105, 110, 85, 112, 112, 101, 114, 76, 101, 102, 116]⟩),
  (108, 0, ⟨#[85, 110, 107, 110, 111, 119, 110]⟩),
  (108, 1, ⟨#[69, 83, 83, 76]⟩),
  (108, 2, ⟨#[71, 76, 83, 76]⟩),
  (99, 1, ⟨#[73, 110, 112, 117, 116]⟩),
  (99, 3, ⟨#[79, 117, 116, 112, 117, 116]⟩),
  (99, 6, ⟨#[80, 114, 105, 118, 97, 116, 101]⟩),
  (99, 7, ⟨#[70, 117, 110, 99, 116, 105, 111, 110]⟩),
  (100, 0, ⟨#[82, 101, 108, 97, 120, 101, 100, 80, 114, 101, 99, 105, 115, 105, 111, 110]⟩),
  (100, 11, ⟨#[66, 117, 105, 108, 116, 73, 110]⟩),
  (100, 14, ⟨#[70, 108, 97, 116]⟩),
  (100, 30, ⟨#[76, 111, 99, 97, 116, 105, 111, 110]⟩),
  (102, 0, ⟨#[78, 111, 110, 101]⟩),
  (102, 1, ⟨#[73, 110, 108, 105, 110, 101]⟩),
  (102, 2, ⟨#[68, 111, 110, 116, 73, 110, 108, 105, 110, 101]⟩),
  (102, 4, ⟨#[80, 117, 114, 101]⟩),
  (102, 8, ⟨#[67, 111, 110, 115, 116]⟩),
  (104, 0, ⟨#[78, 111, 110, 101]⟩),
  (104, 1, ⟨#[70, 108, 97, 116, 116, 101, 110]⟩),
  (104, 2, ⟨#[68, 111, 110, 116, 70, 108, 97, 116, 116, 101, 110]⟩),
  (103, 0, ⟨#[78, 111, 110, 101]⟩),
  (103, 1, ⟨#[85, 110, 114, 111, 108, 108]⟩),
  (103, 2, ⟨#[68, 111, 110, 116, 85, 110, 114, 111, 108, 108]⟩)]

end Go.Proofs.Ytpggcpnjcalfaaa
