/-
  What Read of the document's answer returns, for every list of words: its error and its place, or the head and the instructions, in new memory.
-/
import Derived.WalkSpells
import Derived.BigRegion
import Derived.Deep.AppendLies
import Derived.Deep.QuietTactic
import Derived.BigQuiet
import Derived.Test.YtckpijgnkkjfkaaMathRead
import Derived.Test.YtckpijgnkkjfkaaRef02Ends
namespace Go.Proofs.Ytckpijgnkkjfkaa
open Go.RowKit

theorem RefRead.info : (Try.prog.info? 51).map (fun i => (i.zero, i.size, i.bytes)) = some (some (.agg #[.int .u16 0, .slice none 0 0]), 2, 32) := by kernel_rfl

theorem refRead_large (a : Option Addr) (n cap : Nat) (w : World) (h : 1048576 < n) :
    Calls Try.prog 9 #[.slice a n cap] w fun e w' => e = .returned (.tuple #[.agg #[.int .u32 0, .int .u32 0], .slice none 0 0, .agg #[.int .i64 4, .int .i64 1048576]]) ∧ Below w.heap.size w w' := by
  have b1 : decide ((1048576 : Int) < (n : Int)) = true := decide_eq_true (by omega)
  go_enter Try.func9, Try.ntmps9
  go_wp2
  exact bodyPost_ret (v := .tuple #[.agg #[.int .u32 0, .int .u32 0], .slice none 0 0, .agg #[.int .i64 4, .int .i64 1048576]]) (by simp [results, Try.results9, go_sem]) rfl ⟨rfl, ((Below.refl _ _).alloc (Nat.le_refl _) _).alloc (by simp) _⟩

set_option maxHeartbeats 1000000 in
theorem refRead_head (a : Option Addr) (n cap : Nat) (zs : List Int) (w : World) (ha : View .u32 w a zs) (hl : zs.length = n) (hn : n ≤ 1048576) (he : (headE zs 0).1 ≠ 0) :
    Calls Try.prog 9 #[.slice a n cap] w fun e w' => e = .returned (.tuple #[.agg #[.int .u32 0, .int .u32 0], .slice none 0 0, .agg #[.int .i64 (headE zs 0).1, .int .i64 (headE zs 0).2]]) ∧ Below w.heap.size w w' := by
  have b1 : decide ((1048576 : Int) < (n : Int)) = false := decide_eq_false (by omega)
  have HL : Hid (zs.length = n) := hl
  have HE : Hid ((headE zs 0).1 ≠ 0) := he
  have hav := ha.below (((Below.refl _ w).alloc (Nat.le_refl _) (.cells #[.int .u32 0, .int .u32 0] 25)).alloc (by simp) (.cells #[.int .i64 0, .int .i64 0] 29))
  clear hl he ha
  go_enter Try.func9, Try.ntmps9
  go_wp2
  go_loop [5] (fun i => ∃ k : Nat, k ≤ 5 ∧ i = .int .i64 k ∧ headE zs 0 = headE zs k) (fun i => 5 - (intOf i).toNat)
  case atStart => exact ⟨0, by omega, rfl, rfl⟩
  case round =>
    obtain ⟨k, hk, rfl, hke⟩ := hrel
    have HK : Hid (headE zs 0 = headE zs k) := hke
    clear hke
    by_cases hk5 : k < 5
    · have HS : Hid (headE zs k = if n ≤ k then (14, k) else if wrongE k (nth zs k) ≠ 0 then (wrongE k (nth zs k), k) else headE zs (k + 1)) := by
        have := headE_step zs k hk5
        rw [HL.out] at this
        exact this
      by_cases hlt : k < n
      · obtain ⟨b, off, rfl, _, hc⟩ := hav k (by rw [HL.out]; exact hlt)
        have hW := fun wx => refWrong_any k (nth zs k) wx hk5
        have hki : (k : Int) < (n : Int) := by omega
        clear hav
        generalize nth zs k = x at hc hW HS
        by_cases hx : wrongE k x = 0
        · have HE2 : Hid (headE zs 0 = headE zs (k + 1)) := by show _ = _; rw [HK.out, HS.out, if_neg (by omega), if_neg (by simp [hx])]
          rw [hx] at hW
          go_wp2_with (go_at_call 28; refine (hW _).mono ?_; rintro e w' ⟨rfl, rfl⟩)
          go_round
          case rel => exact ⟨k + 1, by omega, by go_num, HE2.out⟩
          case measure => simp [intOf]; omega
        · have HE2 : Hid (headE zs 0 = (wrongE k x, k)) := by show _ = _; rw [HK.out, HS.out, if_neg (by omega), if_pos hx]
          have hxb : (wrongE k x == 0) = false := by simpa using hx
          clear hx
          generalize wrongE k x = er at hW hxb HE2
          go_wp2_with (go_at_call 28; refine (hW _).mono ?_; rintro e w' ⟨rfl, rfl⟩)
          exact bodyPost_ret (v := .tuple #[.agg #[.int .u32 0, .int .u32 0], .slice none 0 0, .agg #[.int .i64 er, .int .i64 k]]) (by simp [results, Try.results9, go_sem]) rfl ⟨by rw [HE2.out], ((Below.refl _ _).alloc (Nat.le_refl _) _).alloc (by simp) _⟩
      · have HE2 : Hid (headE zs 0 = (14, k)) := by show _ = _; rw [HK.out, HS.out, if_pos (by omega)]
        have hki : (n : Int) ≤ (k : Int) := by omega
        go_wp2
        exact bodyPost_ret (v := .tuple #[.agg #[.int .u32 0, .int .u32 0], .slice none 0 0, .agg #[.int .i64 14, .int .i64 k]]) (by simp [results, Try.results9, go_sem]) rfl ⟨by rw [HE2.out], ((Below.refl _ _).alloc (Nat.le_refl _) _).alloc (by simp) _⟩
    · exfalso
      obtain rfl : k = 5 := by omega
      apply HE.out
      rw [HK.out, headE_end]

theorem head_ok (zs : List Int) (h : (headE zs 0).1 = 0) : 5 ≤ zs.length ∧ ∀ k, k < 5 → wrongE k (nth zs k) = 0 := by
  have key : ∀ d k, 5 - k = d → k ≤ 5 → (headE zs k).1 = 0 → (k < 5 → 5 ≤ zs.length) ∧ ∀ j, k ≤ j → j < 5 → wrongE j (nth zs j) = 0 := by
    intro d
    induction d with
    | zero => intro k hd hk _; exact ⟨fun h => by omega, fun j h1 h2 => by omega⟩
    | succ d ih =>
      intro k hd hk hz
      rw [headE_step zs k (by omega)] at hz
      by_cases h1 : zs.length ≤ k
      · rw [if_pos h1] at hz; simp at hz
      · rw [if_neg h1] at hz
        by_cases h2 : wrongE k (nth zs k) ≠ 0
        · rw [if_pos h2] at hz; exact absurd hz h2
        · rw [if_neg h2] at hz
          obtain ⟨g1, g2⟩ := ih (k + 1) (by omega) (by omega) hz
          refine ⟨fun _ => ?_, fun j hj1 hj2 => ?_⟩
          · by_cases e : k + 1 < 5
            · exact g1 e
            · omega
          · by_cases e : j = k
            · subst e; exact Classical.byContradiction h2
            · exact g2 j (by omega) hj2
  have := key 5 0 rfl (by omega) h
  exact ⟨this.1 (by omega), fun k hk => this.2 k (by omega) hk⟩

theorem set_two_boxes {w : World} {g0 g1 T0 T1 : Nat} {a b c d : Value} (h0 : w.heap[g0]? = some (.cells #[a, b] T0 (0, 0))) (h1 : w.heap[g1]? = some (.cells #[c, d] T1 (0, 0))) (hne : g0 ≠ g1) (u0 u1 v0 v1 : Value) :
    ((((w.setCell ⟨g0, 0, none⟩ u0).setCell ⟨g0, 1, none⟩ u1).setCell ⟨g1, 0, none⟩ v0).setCell ⟨g1, 1, none⟩ v1).cell? ⟨g0, 0, none⟩ = some u0 ∧
    ((((w.setCell ⟨g0, 0, none⟩ u0).setCell ⟨g0, 1, none⟩ u1).setCell ⟨g1, 0, none⟩ v0).setCell ⟨g1, 1, none⟩ v1).cell? ⟨g0, 1, none⟩ = some u1 ∧
    ((((w.setCell ⟨g0, 0, none⟩ u0).setCell ⟨g0, 1, none⟩ u1).setCell ⟨g1, 0, none⟩ v0).setCell ⟨g1, 1, none⟩ v1).cell? ⟨g1, 0, none⟩ = some v0 ∧
    ((((w.setCell ⟨g0, 0, none⟩ u0).setCell ⟨g0, 1, none⟩ u1).setCell ⟨g1, 0, none⟩ v0).setCell ⟨g1, 1, none⟩ v1).cell? ⟨g1, 1, none⟩ = some v1 := by
  have hne' : ¬ g1 = g0 := fun e => hne e.symm
  refine ⟨?_, ?_, ?_, ?_⟩ <;> simp [World.setCell, World.cell?, Array.getElem?_modify, h0, h1, hne, hne']

theorem own_shape2 {w : World} {B e n : Nat} {v : Value} {xs : List Value} (h : w.ownsRow B e 2 v n xs) : ∃ a c, v = .slice a n c := by
  rcases h.2 with ⟨rfl, rfl⟩ | ⟨g, c, cur, rfl, _⟩
  · exact ⟨none, 0, rfl⟩
  · exact ⟨_, c, rfl⟩

set_option maxRecDepth 100000 in
set_option maxHeartbeats 4000000 in
theorem refRead_body (a : Option Addr) (n cap : Nat) (zs : List Int) (w : World) (ha : View .u32 w a zs) (hl : zs.length = n) (hw : Within 4294967296 zs) (hn : n ≤ 1048576) (he : (headE zs 0).1 = 0) :
    Calls Try.prog 9 #[.slice a n cap] w fun e w' => Below w.heap.size w w' ∧
      ((stop zs 5 < n ∧ e = .returned (.tuple #[.agg #[.int .u32 0, .int .u32 0], .slice none 0 0, .agg #[.int .i64 25, .int .i64 (stop zs 5)]])) ∨
       (¬ stop zs 5 < n ∧ ∃ ax cx m, e = .returned (.tuple #[.agg #[.int .u32 (nth zs 2), .int .u32 (nth zs 3)], .slice ax m cx, .agg #[.int .i64 0, .int .i64 0]]) ∧ (readR zs).length = m ∧ RawsV w' ax (readR zs))) := by
  have b1 : decide ((1048576 : Int) < (n : Int)) = false := decide_eq_false (by omega)
  obtain ⟨i0, hi, hz0, hz1, hz2⟩ := info_parts RefRead.info
  have HL : Hid (zs.length = n) := hl
  obtain ⟨h5, hwr⟩ := head_ok zs he
  rw [hl] at h5
  have HW : Hid (∀ k, k < 5 → wrongE k (nth zs k) = 0) := hwr
  have hav := ha.below (((Below.refl _ w).alloc (Nat.le_refl _) (.cells #[.int .u32 0, .int .u32 0] 25)).alloc (by simp) (.cells #[.int .i64 0, .int .i64 0] 29))
  clear hl he hwr
  go_enter Try.func9, Try.ntmps9
  go_wp2
  go_loop [5] (fun i => ∃ k : Nat, k ≤ 5 ∧ i = .int .i64 k) (fun i => 5 - (intOf i).toNat)
  case atStart => exact ⟨0, by omega, rfl⟩
  case round =>
    obtain ⟨k, hk, rfl⟩ := hrel
    by_cases hk5 : k < 5
    · obtain ⟨b, off, rfl, _, hc⟩ := hav k (by rw [HL.out]; omega)
      have hW := fun wx => refWrong_any k (nth zs k) wx hk5
      have hki : (k : Int) < (n : Int) := by omega
      rw [HW.out k hk5] at hW
      clear hav ha
      generalize nth zs k = x at hc hW
      go_wp2_with (go_at_call 28; refine (hW _).mono ?_; rintro e w' ⟨rfl, rfl⟩)
      go_round
      case rel => exact ⟨k + 1, by omega, by go_num⟩
      case measure => simp [intOf]; omega
    · obtain rfl : k = 5 := by omega
      clear hav
      go_wp2
      go_loopw [7, 8] (fun v i wr => ∃ (p : Nat) (out : List Nat) (cs : List Value), p ≤ n ∧ i = .int .i64 p ∧ out ++ rest zs p = rest zs 5 ∧ stop zs p = stop zs 5 ∧ wr.ownsRow (w.heap.size + 2) 51 2 v out.length cs ∧ RowR wr (w.heap.size + 2) v.ownBlock (out.map (rawAt zs)) cs ∧
          wr.heap[w.heap.size]? = some (.cells #[.int .u32 0, .int .u32 0] 25 (0, 0)) ∧ wr.heap[w.heap.size + 1]? = some (.cells #[.int .i64 0, .int .i64 0] 29 (0, 0)) ∧ Below w.heap.size w wr)
        (fun _ i _ => n - (intOf i).toNat)
      case atStart =>
        refine ⟨5, [], [], h5, rfl, rfl, rfl, World.ownsRow_nil _ _ _ _, rowR_nil, ?_, ?_, ((Below.refl _ _).alloc (Nat.le_refl _) _).alloc (by simp) _⟩
        · rw [Below.heap_alloc _ _ _ (by simp)]
          exact heap_alloc_new w _
        · have := heap_alloc_new (w.alloc (.cells #[.int .u32 0, .int .u32 0] 25)) (.cells #[.int .i64 0, .int .i64 0] 29)
          simpa using this
      case round =>
        obtain ⟨p, out, cs, hp, rfl, hout, hst, hown, hrow, hb0, hb1, hnx⟩ := hrel
        obtain ⟨ax, cx, rfl⟩ := own_shape2 hown
        have HO : Hid (out ++ rest zs p = rest zs 5) := hout
        have HST : Hid (stop zs p = stop zs 5) := hst
        have hol : out.length ≤ n := by
          have h1 := rest_len zs 5
          have h2 : out.length ≤ (rest zs 5).length := by rw [← hout]; simp
          rw [HL.out] at h1; omega
        have hsz := hnx.size
        have hs1 : w.heap.size + 1 < wr.heap.size := (Array.getElem?_eq_some_iff.1 hb1).1
        clear hout hst
        by_cases hlt : p < n
        · cases hb : badB zs p with
          | false =>
            have hE := refEnds_yes a n cap zs wr p (ha.below hnx) HL.out hw (by omega) hlt hb
            have HG : Hid (rest zs p = p :: rest zs (p + cntN zs p)) := rest_go zs p (by rw [HL.out]; exact hlt) hb
            have HG2 : Hid (stop zs p = stop zs (p + cntN zs p)) := stop_go zs p (by rw [HL.out]; exact hlt) hb
            have hcp := cnt_pos hb
            have hcf := cnt_fits hb
            rw [HL.out] at hcf
            have hA := fun wx hb' => refAt_any a n cap zs wx p (p + cntN zs p) (ha.below hb') HL.out hw (by omega) (by omega) (by omega)
            have e3 : p + cntN zs p - p - 1 = cntN zs p - 1 := by omega
            rw [e3] at hA
            have HRA : Hid (rawAt zs p = (opI zs p, midL zs (p + 1) (cntN zs p - 1))) := rfl
            have HML : Hid ((midL zs (p + 1) (cntN zs p - 1)).length = cntN zs p - 1) := midL_len zs (p + 1) _ (by rw [HL.out]; omega)
            have hAw := hA wr hnx
            clear hb hA e3 ha
            generalize cntN zs p = c at *
            generalize midL zs (p + 1) (c - 1) = ms at *
            generalize opI zs p = op at *
            go_wp2_with (go_at_call 29; refine hE.mono ?_; rintro e w' ⟨rfl, rfl⟩)
            refine hAw.mono ?_
            rintro e w1 ⟨a1, c1, rfl, hown1, hbA⟩
            have s1 := hbA.size
            have hown' := own_below hown hbA
            have hrow1 := hrow.below hbA
            have hb0' := (hbA.block _ (by omega)).trans hb0
            have hb1' := (hbA.block _ hs1).trans hb1
            have hvA := View.ofOwn hown1 HML.out
            have hc1 : c - 1 ≤ c1 := by
              rcases hown1.2 with ⟨h1, h2⟩ | ⟨g, c', cur, h1, _, _, h4, _⟩
              · omega
              · cases h1; exact h4
            have hvo : ∀ b, Value.ownBlock (.slice ax out.length cx) = some b → w.heap.size + 2 ≤ b ∧ b < wr.heap.size := fun b hb => by
              rcases hown.2 with ⟨h1, _⟩ | ⟨g, c', cur, h1, h2, h3, _⟩
              · rw [h1] at hb; simp [Value.ownBlock] at hb
              · rw [h1] at hb; simp [Value.ownBlock] at hb; subst hb; exact ⟨h2, (Array.getElem?_eq_some_iff.1 h3).1⟩
            have ha1 : ∀ b off s, a1 = some ⟨b, off, s⟩ → Value.ownBlock (.slice ax out.length cx) ≠ some b ∧ b < w1.heap.size + 1 ∧ w.heap.size + 2 ≤ b := fun b off s e => by
              rcases hown1.2 with ⟨h1, _⟩ | ⟨g, c', cur, h1, h2, h3, _⟩
              · cases e; simp at h1
              · cases e
                simp at h1
                obtain ⟨⟨rfl, _⟩, _⟩ := h1
                have := (Array.getElem?_eq_some_iff.1 h3).1
                exact ⟨fun e2 => by have := (hvo _ e2).2; omega, by omega, by omega⟩
            have hbw1 : Below w.heap.size w w1 := hnx.trans (hbA.mono hsz)
            clear hown hrow hb0 hb1 hown1 hAw hE
            go_wp2_with (at_builtin; refine wpList_append_lies _ rfl (.tmp 54) (.tmp 59) 26 rfl (w.heap.size + 2) 51 i0 (.agg #[.int .u16 0, .slice none 0 0]) 2 32 Try.underlying26 hi hz0 hz1 hz2 rfl (by omega) (.slice ax out.length cx) out.length cs rfl (hown'.alloc _) ⟨w1.heap.size, 0, none⟩ 1 1 [.int .u16 op, .slice a1 (c - 1) c1] rfl rfl (World.news_of_block (cs := #[.int .u16 op, .slice a1 (c - 1) c1]) (t := 51) (fr := (0, 0)) (heap_alloc_new w1 _)) (by simp [Value.oneCell']) (by omega) (by unfold maxLen; omega) (by omega) (by simp; omega) (w1.heap.size + 1) (by simp) ?_)
            intro g2 cap2 w2 hown2 hgrow2 hat2 hlt2
            have hrow2 := RowR.push (r := (op, ms)) (hrow1.below ((Below.refl _ w1).alloc (Nat.le_refl _) _)) (hvA.below ((Below.refl _ w1).alloc (Nat.le_refl _) _)) HML.out hc1 ha1 (by simp) hgrow2 hat2
            have hb02 := (hgrow2.block w.heap.size (by simp; omega) (fun e => by have := (hvo _ e.symm).1; omega)).trans ((Below.heap_alloc w1 _ _ (by omega)).trans hb0')
            have hb12 := (hgrow2.block (w.heap.size + 1) (by simp; omega) (fun e => by have := (hvo _ e.symm).1; omega)).trans ((Below.heap_alloc w1 _ _ (by omega)).trans hb1')
            have hbw2 : Below w.heap.size w w2 := (hbw1.alloc (by omega) _).grown hgrow2 (by simp; omega) (fun k hk => by have := (hvo k hk).1; omega)
            clear hown' hrow1 hvA hgrow2 hat2 ha1 hbw1 hb0' hb1' hvo
            go_wp2
            go_roundw
            case rel =>
              refine ⟨p + c, out ++ [p], cs ++ [.int .u16 op, .slice a1 (c - 1) c1], by omega, by go_num, ?_, ?_, ?_, ?_, hb02, hb12, hbw2⟩
              · rw [List.append_assoc, List.singleton_append, ← HG.out]; exact HO.out
              · rw [← HG2.out]; exact HST.out
              · rw [List.length_append, List.length_singleton]; exact hown2
              · rw [List.map_append, List.map_singleton, HRA.out]; exact hrow2
            case measure => simp [intOf]; omega
          | true =>
            have hE := refEnds_no a n cap zs wr p (ha.below hnx) HL.out hw (by omega) hlt hb
            have HS2 : Hid (stop zs 5 = p) := by show _ = _; rw [← HST.out]; exact stop_bad zs p (by rw [HL.out]; exact hlt) hb
            obtain ⟨c0, c1, f1⟩ := cell_of_two hb0
            obtain ⟨d0, d1, g1⟩ := cell_of_two hb1
            have f0 : wr.frozen? ⟨w.heap.size, 0, none⟩ = false := by simp [World.frozen?, hb0]
            have g0 : wr.frozen? ⟨w.heap.size + 1, 0, none⟩ = false := by simp [World.frozen?, hb1]
            clear hb ha
            have hz := set_two_boxes hb0 hb1 (by omega) (.int .u32 0) (.int .u32 0) (.int .i64 25) (.int .i64 (p : Int))
            have HZ : Hid _ := hz
            clear hz
            go_wp2_with (go_at_call 29; refine hE.mono ?_; rintro e w' ⟨rfl, rfl⟩)
            refine bodyPost_ret (v := .tuple #[.agg #[.int .u32 0, .int .u32 0], .slice none 0 0, .agg #[.int .i64 25, .int .i64 p]]) (by simp [results, Try.results9, go_sem, HZ.out.1, HZ.out.2.1, HZ.out.2.2.1, HZ.out.2.2.2]) rfl ⟨?_, .inl ⟨by rw [HS2.out]; exact hlt, by rw [HS2.out]⟩⟩
            exact (((hnx.setCell (by simp) _).setCell (by simp) _).setCell (by simp) _).setCell (by simp) _
        · have HS2 : Hid (stop zs 5 = p) := by show _ = _; rw [← HST.out]; exact stop_end zs p (by rw [HL.out]; omega)
          obtain rfl : p = n := by omega
          have HR : Hid (readR zs = out.map (rawAt zs)) := by
            have e1 := HO.out
            rw [rest_end zs p (by rw [HL.out]; omega), List.append_nil] at e1
            show _ = _
            rw [readR, ← e1]
          obtain ⟨c0, c1, f1⟩ := cell_of_two hb0
          obtain ⟨d0, d1, g1⟩ := cell_of_two hb1
          have f0 : wr.frozen? ⟨w.heap.size, 0, none⟩ = false := by simp [World.frozen?, hb0]
          have g0 : wr.frozen? ⟨w.heap.size + 1, 0, none⟩ = false := by simp [World.frozen?, hb1]
          obtain ⟨b, off, rfl, _, w2⟩ := ha.below hnx 2 (by rw [HL.out]; omega)
          obtain ⟨b', off', e2, _, w3⟩ := ha.below hnx 3 (by rw [HL.out]; omega)
          simp at e2
          obtain ⟨rfl, rfl⟩ := e2
          have hz := set_two_boxes hb0 hb1 (by omega) (.int .u32 (nth zs 2)) (.int .u32 (nth zs 3)) (.int .i64 0) (.int .i64 0)
          have HZ : Hid _ := hz
          have h2 : (2 : Int) < (p : Int) := by omega
          have h3 : (3 : Int) < (p : Int) := by omega
          clear hz ha
          go_wp2
          go_region
          go_wp2
          refine bodyPost_ret (v := .tuple #[.agg #[.int .u32 (nth zs 2), .int .u32 (nth zs 3)], .slice ax out.length cx, .agg #[.int .i64 0, .int .i64 0]]) (by simp [results, Try.results9, go_sem, HZ.out.1, HZ.out.2.1, HZ.out.2.2.1, HZ.out.2.2.2]) rfl ⟨?_, .inr ⟨by rw [HS2.out]; omega, ax, cx, out.length, rfl, by rw [HR.out, List.length_map], ?_⟩⟩
          · exact ((((hnx.setCell (by simp) _).setCell (by simp) _).setCell (by simp) _).setCell (by simp) _).drew
          · rw [HR.out]
            have o1 := ownsRow_setCell_below (ownsRow_setCell_below (ownsRow_setCell_below (ownsRow_setCell_below hown (a := ⟨w.heap.size, 0, none⟩) (by simp) (.int .u32 (nth zs 2))) (a := ⟨w.heap.size, 1, none⟩) (by simp) (.int .u32 (nth zs 3))) (a := ⟨w.heap.size + 1, 0, none⟩) (by simp) (.int .i64 0)) (a := ⟨w.heap.size + 1, 1, none⟩) (by simp) (.int .i64 0)
            have r1 := (((hrow.setCell (g := w.heap.size) (j := 0) (by omega) (.int .u32 (nth zs 2))).setCell (g := w.heap.size) (j := 1) (by omega) (.int .u32 (nth zs 3))).setCell (g := w.heap.size + 1) (j := 0) (by omega) (.int .i64 0)).setCell (g := w.heap.size + 1) (j := 1) (by omega) (.int .i64 0)
            exact (r1.below (bel_drewN (Below.refl _ _) 1)).viewAny (own_below o1 (bel_drewN (Below.refl _ _) 1)) (by simp)

end Go.Proofs.Ytckpijgnkkjfkaa
