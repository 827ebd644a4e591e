/-
  What Tokens of the layer lex returns, for every line whose tokens keep to the memory's reach: the tokens in new memory, or what is wrong and where; nothing that was there turns.
-/
import Derived.Test.YteckmcgihbicfabLexTok1
import Derived.WalkSpells
import Derived.WalkMore
import Derived.BigRegion
import Derived.Deep.RegionWith
import Derived.Test.YteckmcgihbicfabProg
import Derived.Test.YteckmcgihbicfabToks
import Derived.Test.YteckmcgihbicfabJumps
import Derived.Test.YteckmcgihbicfabLexWords
import Derived.Test.YteckmcgihbicfabLexQuoted
import Derived.Test.YteckmcgihbicfabStringsClone
import Derived.Test.YteckmcgihbicfabSlots
namespace Go.Proofs.Yteckmcgihbicfab
open Go.RowKit
set_option maxRecDepth 100000
set_option linter.unusedVariables false
set_option linter.unusedSimpArgs false
attribute [local go_sem] jumps_normal jumps_exit jumps_ret jumps_panic jumps_goto onNormal_normal

set_option maxHeartbeats 4000000 in
theorem scanTokens_any (b p : Nat) (s : ByteArray) (w : World) (h : Scn b s p w) (hp : p ≤ s.size) (hs : 32 * s.size + 64 ≤ 140737488351232) :
    Calls Try.prog 63 #[.pointer (some ⟨b, 0, none⟩)] w fun e w' => ∃ v, e = .returned (.tuple #[v, .agg #[.int .i64 (toksP (strI s) p).2.1, .int .i64 (toksP (strI s) p).2.2]]) ∧ w'.ownsRow w.heap.size 77 3 v (toksP (strI s) p).1.length ((toksP (strI s) p).1.flatMap tokC) ∧ w.grownBy w' (some b) := by
  have hblt : b < w.heap.size := (Array.getElem?_eq_some_iff.1 h).1
  obtain ⟨R, hR⟩ : ∃ R, R = toksP (strI s) p := ⟨_, rfl⟩
  rw [← hR]
  have HR : Hid (R = joinR [] (toksP (strI s) p)) := by show _ = _; rw [join_nil]; exact hR
  have HRET : Hid (TokQ b s w R (bodyPost Try.prog Try.f63 fun e w' => ∃ v, e = .returned (.tuple #[v, .agg #[.int .i64 R.2.1, .int .i64 R.2.2]]) ∧ w'.ownsRow w.heap.size 77 3 v R.1.length (R.1.flatMap tokC) ∧ w.grownBy w' (some b))) := by
    intro a' w' v q2 q3 q4 q5 q6 q7
    have c0 : w'.cell? ⟨w.heap.size, 0, none⟩ = some (.int .i64 R.2.1) := by rw [Lib.cell_of_heap q5]; rfl
    have c1 : w'.cell? ⟨w.heap.size, 1, none⟩ = some (.int .i64 R.2.2) := by rw [Lib.cell_of_heap q5]; rfl
    refine bodyPost_ret (v := .tuple #[v, .agg #[.int .i64 R.2.1, .int .i64 R.2.2]]) ?_ q4 ⟨v, rfl, ?_, q7⟩
    · simp only [results, Try.results63]
      have q2' : a'.tmps[2]?.getD undef = v := by rw [← Array.getD_eq_getD_getElem?]; exact q2
      have q3' : a'.tmps[3]?.getD undef = .pointer (some ⟨w.heap.size, 0, none⟩) := by rw [← Array.getD_eq_getD_getElem?]; exact q3
      simp [go_sem, q2', q3', c0, c1]
    · refine ⟨q6.1, ?_⟩
      rcases q6.2 with hn | ⟨g, cap, cur, e1, e2, rest⟩
      · exact .inl hn
      · exact .inr ⟨g, cap, cur, e1, by omega, rest⟩
  have HS : Hid (TokS b s w p [] (.slice none 0 0) ((w.alloc (.cells #[.int .i64 0, .int .i64 0] 28)).alloc (.cells #[.int .u8 0, .string ⟨#[]⟩, .int .i64 0] 77))) := by
    refine ⟨?_, ?_, World.ownsRow_nil _ _ _ _, grown_trans (World.grownBy_alloc _ _ _) (World.grownBy_alloc _ _ _), by simp, hp⟩
    · show ((w.alloc _).alloc _).heap[b]? = _
      rw [Below.heap_alloc _ _ _ (by simp; omega), Below.heap_alloc _ _ _ hblt]; exact h
    · rw [Below.heap_alloc _ _ _ (by simp)]; exact heap_alloc_new w _
  have HB : Hid (BoxT w ((w.alloc (.cells #[.int .i64 0, .int .i64 0] 28)).alloc (.cells #[.int .u8 0, .string ⟨#[]⟩, .int .i64 0] 77)) (.int .u8 0) (.string ⟨#[]⟩) (.int .i64 0)) := by
    have e : (w.alloc (.cells #[.int .i64 0, .int .i64 0] 28)).heap.size = w.heap.size + 1 := by simp
    show (World.alloc _ _).heap[w.heap.size + 1]? = _
    rw [← e]; exact heap_alloc_new _ _
  clear h hR
  go_enter Try.func63, Try.ntmps63
  go_wp2_with fail
  refine wp_scope_ranked (TokJ b s w R) (TokM b s w) (fun l => if l = 2 then 0 else if l = 3 then 1 else if l = 1 then 2 else 3) ?hf ?pass ?first
  case hf =>
    intro l a w1 hJ
    match l, hJ with
    | 0, _ => rfl
    | 1, _ => rfl
    | 2, _ => rfl
    | 3, _ => rfl
  case first =>
    intro hP
    go_wp2_with fail
    refine wp_label ?_
    rename_i Kx hKx
    exact hKx _ _ (hP 0 _ _ ⟨p, [], .slice none 0 0, _, _, _, ⟨_, rfl, rfl, rfl, rfl, rfl, rfl⟩, HS.out, HB.out, HR.out, Nat.zero_le _⟩)
  case pass =>
    intro l hprev N a w1 hJ hN
    match l, hJ with
    | 0, hJ => exact tok_between b s w R _ hblt hs HRET.out N a w1 hJ hN
    | 1, hJ => exact tok_run b s w R _ hblt hs (hprev 3 (by decide)) N a w1 hJ hN
    | 2, hJ => exact tok_taken b s w R _ hblt hs N a w1 hJ hN
    | 3, hJ => exact tok_whole b s w R _ hblt hs HRET.out (hprev 2 (by decide)) N a w1 hJ hN

theorem tokens_any (s : ByteArray) (w : World) (hs : 32 * s.size + 64 ≤ 140737488351232) :
    Calls Try.prog 42 #[.string s] w fun e w' => ∃ v, e = .returned (.tuple #[v, .agg #[.int .i64 (toksP (strI s) 0).2.1, .int .i64 (toksP (strI s) 0).2.2]]) ∧ w'.ownsRow w.heap.size 77 3 v (toksP (strI s) 0).1.length ((toksP (strI s) 0).1.flatMap tokC) ∧ Below w.heap.size w w' := by
  have e : (w.alloc (.cells #[.int .i64 0, .int .i64 0] 28)).heap.size = w.heap.size + 1 := by simp
  have hcell : ((w.alloc (.cells #[.int .i64 0, .int .i64 0] 28)).alloc (.cells #[.string s, .int .i64 0, .int .u8 0, .int .u8 0] 113)).heap[w.heap.size + 1]? = some (scnC s 0 (.int .u8 0) (.int .u8 0)) := by
    rw [← e]; exact heap_alloc_new _ _
  have hspot : ((w.alloc (.cells #[.int .i64 0, .int .i64 0] 28)).alloc (.cells #[.string s, .int .i64 0, .int .u8 0, .int .u8 0] 113)).heap[w.heap.size]? = some (.cells #[.int .i64 0, .int .i64 0] 28 (0, 0)) := by
    rw [Below.heap_alloc _ _ _ (by simp)]; exact heap_alloc_new w _
  have hbel : Below w.heap.size w ((w.alloc (.cells #[.int .i64 0, .int .i64 0] 28)).alloc (.cells #[.string s, .int .i64 0, .int .u8 0, .int .u8 0] 113)) := ((Below.refl _ w).alloc (Nat.le_refl _) _).alloc (by simp) _
  have hsz : w.heap.size + 2 ≤ ((w.alloc (.cells #[.int .i64 0, .int .i64 0] 28)).alloc (.cells #[.string s, .int .i64 0, .int .u8 0, .int .u8 0] 113)).heap.size := by simp
  have hLK := look_any (w.heap.size + 1) 0 s _ _ _ hcell (by omega) (by omega)
  clear e hcell
  go_enter Try.func42, Try.ntmps42
  go_wp2_with fail
  generalize (w.alloc (.cells #[.int .i64 0, .int .i64 0] 28)).alloc (.cells #[.string s, .int .i64 0, .int .u8 0, .int .u8 0] 113) = W0 at *
  refine hLK.mono ?_
  rintro e w1 ⟨rfl, hS1, hg1⟩
  have hTK := scanTokens_any (w.heap.size + 1) 0 s w1 hS1 (Nat.zero_le _) hs
  clear hLK
  go_wp2_with fail
  refine hTK.mono ?_
  rintro e w2 ⟨v, rfl, hrow, hg2⟩
  have hs1 := hg1.size
  have hs2 := hg2.size
  have hsp2 : w2.heap[w.heap.size]? = some (.cells #[.int .i64 0, .int .i64 0] 28 (0, 0)) := (hg2.block _ (by omega) (by simp)).trans ((hg1.block _ (by omega) (by simp)).trans hspot)
  have hb2 : Below w.heap.size w w2 := (hbel.grown hg1 (by omega) (fun k e => by simp at e; omega)).grown hg2 (by omega) (fun k e => by simp at e; omega)
  have hrow2 : w2.ownsRow (w.heap.size + 1) 77 3 v (toksP (strI s) 0).1.length ((toksP (strI s) 0).1.flatMap tokC) := by
    refine ⟨hrow.1, ?_⟩
    rcases hrow.2 with hn | ⟨g, cap, cur, e1, e2, rest⟩
    · exact .inl hn
    · exact .inr ⟨g, cap, cur, e1, by omega, rest⟩
  generalize her : (toksP (strI s) 0).2.1 = er at *
  generalize hat : (toksP (strI s) 0).2.2 = at_ at *
  have HER := hide her
  have HAT := hide hat
  clear her hat
  have z0 : w2.cell? ⟨w.heap.size, 0, none⟩ = some (.int .i64 0) := by rw [Lib.cell_of_heap hsp2]; rfl
  have z1 : w2.cell? ⟨w.heap.size, 1, none⟩ = some (.int .i64 0) := by rw [Lib.cell_of_heap hsp2]; rfl
  have f0 : w2.frozen? ⟨w.heap.size, 0, none⟩ = false := Lib.frozen_of_heap hsp2 0
  have f1 : w2.frozen? ⟨w.heap.size, 1, none⟩ = false := Lib.frozen_of_heap hsp2 1
  have hsp3 := spot_put hsp2 (.int .i64 er) (.int .i64 at_)
  have hrow3 := ownsRow_setCell_below (ownsRow_setCell_below hrow2 (a := ⟨w.heap.size, 0, none⟩) (by simp) (.int .i64 er)) (a := ⟨w.heap.size, 1, none⟩) (by simp) (.int .i64 at_)
  have hb3 := (hb2.setCell (p := ⟨w.heap.size, 0, none⟩) (Nat.le_refl _) (.int .i64 er)).setCell (p := ⟨w.heap.size, 1, none⟩) (Nat.le_refl _) (.int .i64 at_)
  have HSP := hide hsp3
  have HROW := hide hrow3
  have HB3 := hide hb3
  clear hTK hrow hrow2 hsp2 hsp3 hrow3 hb3 hb2 hspot hbel hg1 hg2 hS1
  go_wp2_with fail
  generalize (w2.setCell ⟨w.heap.size, 0, none⟩ (.int .i64 er)).setCell ⟨w.heap.size, 1, none⟩ (.int .i64 at_) = w3 at *
  have c0 : w3.cell? ⟨w.heap.size, 0, none⟩ = some (.int .i64 er) := by rw [Lib.cell_of_heap HSP.out]; rfl
  have c1 : w3.cell? ⟨w.heap.size, 1, none⟩ = some (.int .i64 at_) := by rw [Lib.cell_of_heap HSP.out]; rfl
  refine bodyPost_ret (v := .tuple #[v, .agg #[.int .i64 er, .int .i64 at_]]) ?_ rfl ⟨v, by rw [HER.out, HAT.out], ?_, HB3.out⟩
  · simp only [results, Try.results42]
    simp [go_sem, c0, c1]
  · refine ⟨HROW.out.1, ?_⟩
    rcases HROW.out.2 with hn | ⟨g, cap, cur, e1, e2, rest⟩
    · exact .inl hn
    · exact .inr ⟨g, cap, cur, e1, by omega, rest⟩

end Go.Proofs.Yteckmcgihbicfab
