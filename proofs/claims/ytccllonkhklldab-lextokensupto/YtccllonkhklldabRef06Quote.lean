/-
  What digit and Quote of the document's answer for layer 6 return, for every text whose quoted form keeps to the memory's reach; nothing that was there turns.
-/
import Derived.WalkSpells
import Derived.WalkMore
import Derived.Laws.BytesArg
import Derived.Test.YtccllonkhklldabProg
import Derived.Test.YtccllonkhklldabMathX
import Derived.Test.YtccllonkhklldabLexQuote
namespace Go.Proofs.Ytccllonkhklldab
open Go.RowKit
set_option maxRecDepth 10000
set_option linter.unusedVariables false
set_option linter.unusedSimpArgs false

theorem refDigit6_any (c : Int) (w : World) (h0 : 0 ≤ c) (h1 : c < 16) :
    Calls Try.prog 71 #[.int .u8 c] w fun e w' => e = .returned (.int .u8 (hexD c)) ∧ w = w' := by
  by_cases a : c < 10
  · have H : Hid (hexD c = 48 + c) := by show _ = _; simp [hexD, a]
    go_enter Try.func71, Try.ntmps71
    go_wp2
    go_ret
    exact ⟨by rw [H.out]; exact ret_int (by omega), rfl⟩
  · have H : Hid (hexD c = 87 + c) := by show _ = _; simp [hexD, a]
    go_enter Try.func71, Try.ntmps71
    go_wp2
    go_ret
    exact ⟨by rw [H.out]; exact ret_int (by omega), rfl⟩

/-- A row of bytes of the call's own. -/
def RowB (B : Nat) (v : Value) (zs : List Int) (w : World) : Prop := w.ownsRow B 5 1 v zs.length (zs.map (Value.int .u8))
theorem rowB_push {B : Nat} {v : Value} {zs ys : List Int} {w : World} (h : w.ownsRow B 5 1 v (zs.length + ys.length) (zs.map (Value.int .u8) ++ ys.map (Value.int .u8))) : RowB B v (zs ++ ys) w := by
  unfold RowB; rw [List.length_append, List.map_append]; exact h
theorem one_cells {w : World} (ys : List Int) : ∀ j u, (ys.map (Value.int .u8))[j]? = some u → (w.alloc (.cells (ys.map (Value.int .u8)).toArray 5)).cell? ((⟨w.heap.size, 0, none⟩ : Addr).add j) = some u := by
  intro j u hj
  have := heap_alloc_new w (.cells (ys.map (Value.int .u8)).toArray 5)
  rw [Addr.add_lit, Nat.zero_add, Lib.cell_of_heap this]
  simpa using hj
theorem oneC_all (ys : List Int) : ∀ u ∈ ys.map (Value.int .u8), u.oneCell' = true := by
  intro u hu
  obtain ⟨z, _, rfl⟩ := List.mem_map.1 hu
  rfl

set_option maxHeartbeats 1000000 in
theorem refQuote_any (s : ByteArray) (w : World) (hs : s.size ≤ 1048576) :
    Calls Try.prog 49 #[.string s] w fun e w' => e = .returned (.string (strOfNums (quoteL (strI s)))) ∧ Below w.heap.size w w' := by
  obtain ⟨i0, hi, hz0, hz1, hz2⟩ := info_parts Bld.info
  have HLen := strI_len s
  have HS : Hid (∀ k, k < s.size → (34 :: ((strI s).take (k + 1)).flatMap escL) = (34 :: ((strI s).take k).flatMap escL) ++ escL (nth (strI s) k)) := fun k hk => by
    rw [flat_snoc _ k (by omega)]; rfl
  have HE : Hid ((34 :: ((strI s).take s.size).flatMap escL) ++ [34] = quoteL (strI s)) := by
    show _ = _
    rw [List.take_of_length_le (by omega)]; rfl
  have HL : Hid (∀ k, k ≤ s.size → (34 :: ((strI s).take k).flatMap escL).length ≤ 4 * k + 1) := fun k hk => by
    have := flat_len ((strI s).take k)
    rw [List.length_take] at this
    simp only [List.length_cons]; omega
  have HQ : Hid (∀ (v : Value) (wx : World), RowB w.heap.size v (quoteL (strI s)) wx → (convert 57 9 v).run Try.prog wx = .ok (.string (strOfNums (quoteL (strI s)))) wx) := fun v wx hr => by
    unfold RowB at hr
    obtain ⟨g, cap, rfl⟩ : ∃ g cap, v = .slice (some ⟨g, 0, none⟩) (quoteL (strI s)).length cap := by
      rcases hr.2 with ⟨_, h0⟩ | ⟨g, cap, cur, hv, _⟩
      · simp [quoteL] at h0
      · exact ⟨g, cap, hv⟩
    refine run_convert_bytes_arg wx _ _ Try.underlying57 Try.underlying5 g 0 _ cap (quoteL (strI s)) rfl (fun i hi => ?_) _ Try.underlying9
    obtain ⟨b', off', e, _, hcell⟩ := View.ofRow hr rfl i hi
    simp at e
    obtain ⟨rfl, rfl⟩ := e
    exact hcell
  clear HLen
  have h0 := (World.ownsRow_nil w w.heap.size 5 1).alloc (.cells #[.int .u8 34] 5)
  go_enter Try.func49, Try.ntmps49
  go_wp2_with (at_builtin; refine wpList_append_own _ rfl _ _ 57 rfl w.heap.size 5 i0 (.int .u8 0) 1 1 Try.underlying57 hi hz0 hz1 hz2 rfl (by decide) _ 0 [] rfl h0 ⟨w.heap.size, 0, none⟩ 1 1 ([34].map (Value.int .u8)) rfl rfl (one_cells [34]) (oneC_all _) (by unfold maxLen; omega) (by omega) (by simp) ?_)
  intro v1 w1 hown1 hgr1 _
  have hr1 : RowB w.heap.size v1 [34] w1 := rowB_push (zs := []) hown1
  have hb1 : Below w.heap.size w w1 := ((Below.refl _ w).alloc (Nat.le_refl _) _).grown hgr1 (by simp) (fun k e => by cases e)
  clear hown1 hgr1 h0
  go_wp2_with fail
  go_loopw [3, 4] (fun v i wr => ∃ k : Nat, k ≤ s.size ∧ i = .int .i64 k ∧ RowB w.heap.size v (34 :: ((strI s).take k).flatMap escL) wr ∧ Below w.heap.size w wr) (fun _ i _ => s.size - (intOf i).toNat)
  case atStart => exact ⟨0, Nat.zero_le _, rfl, hr1, hb1⟩
  case round =>
    obtain ⟨k, hk, rfl, hR, hbel⟩ := hrel
    have hl := HL.out k hk
    have hsz := hbel.size
    clear hr1 hb1
    by_cases hlt : k < s.size
    · have hc0 : (0 : Int) ≤ (s[k].toNat : Int) := by omega
      have hc1 : (s[k].toNat : Int) < 256 := by have := s[k].toNat_lt; omega
      have eS := HS.out k hlt
      rw [nth_strI s k hlt] at eS
      generalize 34 :: ((strI s).take k).flatMap escL = zs at hR hl eS
      have ES : Hid ((34 :: ((strI s).take (k + 1)).flatMap escL) = zs ++ escL (s[k].toNat : Int)) := eS
      clear eS
      cases hp : printB (s[k].toNat : Int)
      · have hq : ¬ ((s[k].toNat : Int) = 34 ∨ (s[k].toNat : Int) = 92) := fun h => by
          rcases h with h | h <;> (rw [h] at hp; exact absurd hp (by decide))
        rw [esc_hex hq hp] at ES
        have hd1 := fun wx => refDigit6_any ((s[k].toNat : Int) / 16) wx (by omega) (by omega)
        have hd2 := fun wx => refDigit6_any ((s[k].toNat : Int) % 16) wx (by omega) (by omega)
        generalize hexD ((s[k].toNat : Int) / 16) = d1 at *
        generalize hexD ((s[k].toNat : Int) % 16) = d2 at *
        have hra := World.ownsRow.alloc hR (.cells #[.int .u8 92, .int .u8 120, .int .u8 d1, .int .u8 d2] 5)
        have ew := hbel.alloc hsz (.cells #[.int .u8 92, .int .u8 120, .int .u8 d1, .int .u8 d2] 5)
        have hcond : (s[k].toNat : Int) < 32 ∨ (126 : Int) < (s[k].toNat : Int) := by
          simp [printB] at hp; omega
        have hnone : ∀ kk, u3.ownBlock = some kk → w.heap.size ≤ kk := fun kk e => (World.ownsRow.lt hR kk e).1
        clear hp hq hR
        rcases hcond with hcn | hcn
        · go_wp2_with fail
          refine (hd1 _).mono ?_
          rintro e w' ⟨rfl, rfl⟩
          go_wp2_with fail
          refine (hd2 _).mono ?_
          rintro e w' ⟨rfl, rfl⟩
          go_wp2_with (at_builtin; refine wpList_append_own _ rfl _ _ 57 rfl w.heap.size 5 i0 (.int .u8 0) 1 1 Try.underlying57 hi hz0 hz1 hz2 rfl (by decide) _ zs.length (zs.map (Value.int .u8)) rfl hra ⟨wr.heap.size, 0, none⟩ 4 4 ([92, 120, d1, d2].map (Value.int .u8)) rfl rfl (one_cells _) (oneC_all _) (by unfold maxLen; omega) (by omega) (by simp; omega) ?_)
          intro v2 w2 hown2 hgr2 _
          have hr2 : RowB w.heap.size v2 (zs ++ [92, 120, d1, d2]) w2 := rowB_push hown2
          have hb2 : Below w.heap.size w w2 := ew.grown hgr2 (by simp; omega) (fun kk e => hnone kk e)
          clear hown2 hgr2 hra ew
          go_wp2_with fail
          go_roundw
          case rel => exact ⟨k + 1, by omega, by go_num, by rw [ES.out]; exact hr2, hb2⟩
          case measure => simp [intOf]; omega
        · have hcn2 : ¬ (s[k].toNat : Int) < 32 := by omega
          go_wp2_with fail
          refine (hd1 _).mono ?_
          rintro e w' ⟨rfl, rfl⟩
          go_wp2_with fail
          refine (hd2 _).mono ?_
          rintro e w' ⟨rfl, rfl⟩
          go_wp2_with (at_builtin; refine wpList_append_own _ rfl _ _ 57 rfl w.heap.size 5 i0 (.int .u8 0) 1 1 Try.underlying57 hi hz0 hz1 hz2 rfl (by decide) _ zs.length (zs.map (Value.int .u8)) rfl hra ⟨wr.heap.size, 0, none⟩ 4 4 ([92, 120, d1, d2].map (Value.int .u8)) rfl rfl (one_cells _) (oneC_all _) (by unfold maxLen; omega) (by omega) (by simp; omega) ?_)
          intro v2 w2 hown2 hgr2 _
          have hr2 : RowB w.heap.size v2 (zs ++ [92, 120, d1, d2]) w2 := rowB_push hown2
          have hb2 : Below w.heap.size w w2 := ew.grown hgr2 (by simp; omega) (fun kk e => hnone kk e)
          clear hown2 hgr2 hra ew
          go_wp2_with fail
          go_roundw
          case rel => exact ⟨k + 1, by omega, by go_num, by rw [ES.out]; exact hr2, hb2⟩
          case measure => simp [intOf]; omega
      · have hpb := hp
        simp only [printB, decide_eq_true_eq] at hpb
        have n1 : ¬ (s[k].toNat : Int) < 32 := by omega
        have n2 : ¬ (126 : Int) < (s[k].toNat : Int) := by omega
        clear hpb
        by_cases hq : (s[k].toNat : Int) = 34 ∨ (s[k].toNat : Int) = 92
        · rw [esc_quote hq] at ES
          have hra := World.ownsRow.alloc hR (.cells #[.int .u8 92] 5)
          have ew := hbel.alloc hsz (.cells #[.int .u8 92] 5)
          have hnone : ∀ kk, u3.ownBlock = some kk → w.heap.size ≤ kk := fun kk e => (World.ownsRow.lt hR kk e).1
          clear hp hR
          rcases hq with hq | hq
          · have q1 : ((s[k].toNat : Int) == 34) = true := by simpa using hq
            clear hq
            go_wp2_with (at_builtin; refine wpList_append_own _ rfl _ _ 57 rfl w.heap.size 5 i0 (.int .u8 0) 1 1 Try.underlying57 hi hz0 hz1 hz2 rfl (by decide) _ zs.length (zs.map (Value.int .u8)) rfl hra ⟨wr.heap.size, 0, none⟩ 1 1 ([92].map (Value.int .u8)) rfl rfl (one_cells [92]) (oneC_all _) (by unfold maxLen; omega) (by omega) (by simp; omega) ?_)
            intro v2 w2 hown2 hgr2 _
            have hr2 : RowB w.heap.size v2 (zs ++ [92]) w2 := rowB_push hown2
            have hb2 : Below w.heap.size w w2 := ew.grown hgr2 (by simp; omega) (fun kk e => hnone kk e)
            have hsz2 := hb2.size
            have hra2 := World.ownsRow.alloc hr2 (.cells #[.int .u8 (s[k].toNat : Int)] 5)
            have ew2 := hb2.alloc hsz2 (.cells #[.int .u8 (s[k].toNat : Int)] 5)
            have hnone2 : ∀ kk, v2.ownBlock = some kk → w.heap.size ≤ kk := fun kk e => (World.ownsRow.lt hr2 kk e).1
            clear hown2 hgr2 hra ew hr2
            go_wp2_with (at_builtin; refine wpList_append_own _ rfl (.tmp 42) (.tmp 44) 57 rfl w.heap.size 5 i0 (.int .u8 0) 1 1 Try.underlying57 hi hz0 hz1 hz2 rfl (by decide) v2 (zs ++ [92]).length ((zs ++ [92]).map (Value.int .u8)) rfl hra2 ⟨w2.heap.size, 0, none⟩ 1 1 ([(s[k].toNat : Int)].map (Value.int .u8)) rfl rfl (one_cells _) (oneC_all _) ?c1 ?c2 ?c3 ?_)
            case c1 => unfold maxLen; rw [List.length_append]; simp only [List.length_cons, List.length_nil]; omega
            case c2 => rw [List.length_append]; simp only [List.length_cons, List.length_nil]; omega
            case c3 => simp; omega
            intro v3 w3 hown3 hgr3 _
            have hr3 : RowB w.heap.size v3 (zs ++ [92, (s[k].toNat : Int)]) w3 := rowB_push (ys := [92, (s[k].toNat : Int)]) hown3
            have hb3 : Below w.heap.size w w3 := ew2.grown hgr3 (by simp; omega) (fun kk e => hnone2 kk e)
            clear hown3 hgr3 hra2 ew2
            go_wp2_with fail
            go_roundw
            case rel => exact ⟨k + 1, by omega, by go_num, by rw [ES.out]; exact hr3, hb3⟩
            case measure => simp [intOf]; omega
          · have q1 : ((s[k].toNat : Int) == 34) = false := by rw [hq]; rfl
            have q2 : ((s[k].toNat : Int) == 92) = true := by simpa using hq
            clear hq
            go_wp2_with (at_builtin; refine wpList_append_own _ rfl _ _ 57 rfl w.heap.size 5 i0 (.int .u8 0) 1 1 Try.underlying57 hi hz0 hz1 hz2 rfl (by decide) _ zs.length (zs.map (Value.int .u8)) rfl hra ⟨wr.heap.size, 0, none⟩ 1 1 ([92].map (Value.int .u8)) rfl rfl (one_cells [92]) (oneC_all _) (by unfold maxLen; omega) (by omega) (by simp; omega) ?_)
            intro v2 w2 hown2 hgr2 _
            have hr2 : RowB w.heap.size v2 (zs ++ [92]) w2 := rowB_push hown2
            have hb2 : Below w.heap.size w w2 := ew.grown hgr2 (by simp; omega) (fun kk e => hnone kk e)
            have hsz2 := hb2.size
            have hra2 := World.ownsRow.alloc hr2 (.cells #[.int .u8 (s[k].toNat : Int)] 5)
            have ew2 := hb2.alloc hsz2 (.cells #[.int .u8 (s[k].toNat : Int)] 5)
            have hnone2 : ∀ kk, v2.ownBlock = some kk → w.heap.size ≤ kk := fun kk e => (World.ownsRow.lt hr2 kk e).1
            clear hown2 hgr2 hra ew hr2
            go_wp2_with (at_builtin; refine wpList_append_own _ rfl (.tmp 42) (.tmp 44) 57 rfl w.heap.size 5 i0 (.int .u8 0) 1 1 Try.underlying57 hi hz0 hz1 hz2 rfl (by decide) v2 (zs ++ [92]).length ((zs ++ [92]).map (Value.int .u8)) rfl hra2 ⟨w2.heap.size, 0, none⟩ 1 1 ([(s[k].toNat : Int)].map (Value.int .u8)) rfl rfl (one_cells _) (oneC_all _) ?c1 ?c2 ?c3 ?_)
            case c1 => unfold maxLen; rw [List.length_append]; simp only [List.length_cons, List.length_nil]; omega
            case c2 => rw [List.length_append]; simp only [List.length_cons, List.length_nil]; omega
            case c3 => simp; omega
            intro v3 w3 hown3 hgr3 _
            have hr3 : RowB w.heap.size v3 (zs ++ [92, (s[k].toNat : Int)]) w3 := rowB_push (ys := [92, (s[k].toNat : Int)]) hown3
            have hb3 : Below w.heap.size w w3 := ew2.grown hgr3 (by simp; omega) (fun kk e => hnone2 kk e)
            clear hown3 hgr3 hra2 ew2
            go_wp2_with fail
            go_roundw
            case rel => exact ⟨k + 1, by omega, by go_num, by rw [ES.out]; exact hr3, hb3⟩
            case measure => simp [intOf]; omega
        · rw [esc_print hq hp] at ES
          have q1 : ((s[k].toNat : Int) == 34) = false := by simpa using fun e => hq (.inl e)
          have q2 : ((s[k].toNat : Int) == 92) = false := by simpa using fun e => hq (.inr e)
          have hra := World.ownsRow.alloc hR (.cells #[.int .u8 (s[k].toNat : Int)] 5)
          have ew := hbel.alloc hsz (.cells #[.int .u8 (s[k].toNat : Int)] 5)
          have hnone : ∀ kk, u3.ownBlock = some kk → w.heap.size ≤ kk := fun kk e => (World.ownsRow.lt hR kk e).1
          clear hp hq hR
          go_wp2_with (at_builtin; refine wpList_append_own _ rfl _ _ 57 rfl w.heap.size 5 i0 (.int .u8 0) 1 1 Try.underlying57 hi hz0 hz1 hz2 rfl (by decide) _ zs.length (zs.map (Value.int .u8)) rfl hra ⟨wr.heap.size, 0, none⟩ 1 1 ([(s[k].toNat : Int)].map (Value.int .u8)) rfl rfl (one_cells _) (oneC_all _) (by unfold maxLen; omega) (by omega) (by simp; omega) ?_)
          intro v2 w2 hown2 hgr2 _
          have hr2 : RowB w.heap.size v2 (zs ++ [(s[k].toNat : Int)]) w2 := rowB_push hown2
          have hb2 : Below w.heap.size w w2 := ew.grown hgr2 (by simp; omega) (fun kk e => hnone kk e)
          clear hown2 hgr2 hra ew
          go_wp2_with fail
          go_roundw
          case rel => exact ⟨k + 1, by omega, by go_num, by rw [ES.out]; exact hr2, hb2⟩
          case measure => simp [intOf]; omega
    · obtain rfl : k = s.size := by omega
      have hE := HE.out
      have hra := World.ownsRow.alloc hR (.cells #[.int .u8 34] 5)
      have ew := hbel.alloc hsz (.cells #[.int .u8 34] 5)
      have hnone : ∀ kk, u3.ownBlock = some kk → w.heap.size ≤ kk := fun kk e => (World.ownsRow.lt hR kk e).1
      clear hR
      generalize 34 :: ((strI s).take s.size).flatMap escL = zs at *
      go_wp2_with (at_builtin; refine wpList_append_own _ rfl _ _ 57 rfl w.heap.size 5 i0 (.int .u8 0) 1 1 Try.underlying57 hi hz0 hz1 hz2 rfl (by decide) _ zs.length (zs.map (Value.int .u8)) rfl hra ⟨wr.heap.size, 0, none⟩ 1 1 ([34].map (Value.int .u8)) rfl rfl (one_cells [34]) (oneC_all _) (by unfold maxLen; omega) (by omega) (by simp; omega) ?_)
      intro v2 w2 hown2 hgr2 _
      have hr2 : RowB w.heap.size v2 (zs ++ [34]) w2 := rowB_push hown2
      have hb2 : Below w.heap.size w w2 := ew.grown hgr2 (by simp; omega) (fun kk e => hnone kk e)
      rw [hE] at hr2
      have hcv := HQ.out v2 w2 hr2
      clear hown2 hgr2 hra ew hr2 hE
      go_wp2_with fail
      go_ret
      exact ⟨rfl, hb2⟩

end Go.Proofs.Ytccllonkhklldab
