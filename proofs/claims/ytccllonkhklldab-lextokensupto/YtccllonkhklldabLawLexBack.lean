/-
  The law LexBack, for a line whose tokens keep to the memory's reach: a walk of its body with the contracts of what it calls.
-/
import Derived.WalkSpells
import Derived.WalkMore
import Derived.BigRegion
import Derived.Test.YtccllonkhklldabProg
import Derived.Test.YtccllonkhklldabMathY
import Derived.Test.YtccllonkhklldabLexWrite
import Derived.Test.YtccllonkhklldabLexTokens
import Derived.Test.YtccllonkhklldabLaw06Awake
import Derived.Test.YtccllonkhklldabLaw06Same
namespace Go.Proofs.Ytccllonkhklldab
open Go.RowKit
set_option maxRecDepth 10000
set_option linter.unusedVariables false
set_option linter.unusedSimpArgs false

theorem toks_own {w : World} {B : Nat} {v : Value} {l : List TokT} (h : w.ownsRow B 30 3 v l.length (l.flatMap tokC)) : ∃ a c, v = .slice a l.length c ∧ ToksV w a l := by
  rcases h.2 with ⟨rfl, h0⟩ | ⟨g, cap, cur, rfl, rest⟩
  · have : l = [] := List.length_eq_zero_iff.1 h0
    subst this
    exact ⟨none, 0, rfl, toksV_nil⟩
  · exact ⟨_, cap, rfl, ToksV.ofRow h rfl⟩

set_option maxHeartbeats 4000000 in
theorem lexBack_law (w : World) (s : ByteArray) (hs0 : s.size ≤ 140737488351232) (hs : s.size ≤ 1048576) :
    Calls Try.prog 6 #[.string s] w fun e w' => e = .returned (.bool true) ∧ Below w.heap.size w w' := by
  have hT := tokens_any s w (by omega)
  obtain ⟨g1, g2, g3, g4, g5⟩ := toks_good (strI_within s) 0
  have gs := toksP_shape (strI s) 0
  rw [strI_len] at g2 g3 g4 g5
  obtain ⟨R, hR⟩ : ∃ R, R = toksP (strI s) 0 := ⟨_, rfl⟩
  rw [← hR] at hT g1 g2 g3 g4 g5 gs
  clear hR
  obtain ⟨l, er, at_⟩ := R
  simp only at hT g1 g2 g3 g4 g5 gs
  by_cases h0 : er = 0
  · subst h0
    have hat := gs.1 rfl
    subst hat
    have hIn := toksIn_of hs0 g4
    have hwl := wAll_len l
    have hW1 := fun a n c wx (hv : ToksV wx a l) (hl : l.length = n) => write_any a n c l wx hv hl hIn (by omega)
    rw [show wErr l = 0 by simp [wErr, g1]] at hW1
    have hol := wOut_len l
    have hT2 := fun wx => tokens_any (strOfNums (wOut l)) wx (by rw [strOfNums_size]; omega)
    rw [toks_wOut g1] at hT2
    have hpi := placed_in hIn (by omega)
    have hpl := placed_len l 0
    have hpb := placed_bulk l 0
    have hW2 := fun a n c wx (hv : ToksV wx a (placed 0 l)) (hl : (placed 0 l).length = n) => write_any a n c (placed 0 l) wx hv hl hpi (by omega)
    rw [(placed_wOut l).1, (placed_wOut l).2, show wErr l = 0 by simp [wErr, g1]] at hW2
    have hAL := fun a a' n c c' wx (hl : (placed 0 l).length = n) (hm : l.length = n) (hv : ToksV wx a (placed 0 l)) (hv' : ToksV wx a' l) => alikeTokens_any (placed 0 l) l n a a' c c' wx hl hm (by omega) hv hv' (fun k hk => alike_placed (by omega))
    have hA := fun wx => awake6_true wx
    have HN : Hid (l.length ≤ s.size) := by show _ ≤ _; omega
    clear hIn hwl g1 g2 g4 g5 gs hol hpi hpb
    generalize strOfNums (wOut l) = q at *
    go_enter Try.func6, Try.ntmps6
    go_wp2_with fail
    refine hT.mono ?_
    rintro e w1 ⟨v1, rfl, hrow1, hb1⟩
    obtain ⟨a1, c1, rfl, hv1⟩ := toks_own hrow1
    have hba1 := (Below.refl w1.heap.size w1).alloc (Nat.le_refl _) (.cells #[.int .i64 0, .int .i64 0] 25)
    have hw1 := hb1.trans (hba1.mono hb1.size)
    have hvv1 := hv1.below hba1
    have HW := hW1 a1 _ c1 _ hvv1 rfl
    clear hT hrow1 hv1 hb1 hba1 hW1
    go_wp2_with fail
    generalize w1.alloc (.cells #[.int .i64 0, .int .i64 0] 25) = W1 at *
    refine HW.mono ?_
    rintro e w2 ⟨rfl, hb2⟩
    have hw2 := hw1.trans (hb2.mono hw1.size)
    have hvv2 := hvv1.below hb2
    clear HW hvv1 hw1
    go_wp2_with fail
    refine (hT2 _).mono ?_
    rintro e w3 ⟨v3, rfl, hrow3, hb3⟩
    obtain ⟨a3, c3, rfl, hv3⟩ := toks_own hrow3
    have hba3 := (Below.refl w3.heap.size w3).alloc (Nat.le_refl _) (.cells #[.int .i64 0, .int .i64 0] 25)
    have hw3 := (hw2.trans (hb3.mono hw2.size)).trans (hba3.mono (Nat.le_trans hw2.size hb3.size))
    have hvx := hv3.below hba3
    have hvl := (hvv2.below hb3).below hba3
    have hbox := heap_alloc_new w3 (.cells #[.int .i64 0, .int .i64 0] 25)
    have hlx : w3.heap.size < (w3.alloc (.cells #[.int .i64 0, .int .i64 0] 25)).heap.size := by simp
    clear hrow3 hv3 hvv2 hb3 hba3 hw2 hT2
    rw [hpl]
    have HW := hW2 a3 _ c3 _ hvx hpl
    clear hW2
    go_wp2_with fail
    generalize w3.alloc (.cells #[.int .i64 0, .int .i64 0] 25) = W3 at *
    refine HW.mono ?_
    rintro e w4 ⟨rfl, hb4⟩
    have hw4 := hw3.trans (hb4.mono hw3.size)
    have hvx4 := hvx.below hb4
    have hvl4 := hvl.below hb4
    have hbx4 := (hb4.block _ hlx).trans hbox
    have d0 : w4.cell? ⟨w3.heap.size, 0, none⟩ = some (.int .i64 0) := by rw [Lib.cell_of_heap hbx4]; rfl
    clear HW hvx hvl hb4 hw3 hbox hlx hbx4
    have HAL := hAL a3 a1 _ c3 c1 w4 hpl rfl hvx4 hvl4
    clear hAL
    go_wp2_with fail
    refine HAL.mono ?_
    rintro e w5 ⟨rfl, qd, rfl⟩
    clear HAL hvx4 hvl4
    go_wp2_with fail
    refine (hA _).mono ?_
    rintro e w6 ⟨rfl, hb6⟩
    go_wp2_with fail
    go_ret
    exact ⟨rfl, (bel_drewN hw4 qd).trans (hb6.mono (bel_drewN hw4 qd).size)⟩
  · have hl : l = [] := gs.2 h0
    subst hl
    obtain ⟨e1, e2, e3⟩ := g5.resolve_left h0
    have hA := fun wx => awake6_true wx
    have hne : (er == 0) = false := by simpa using h0
    have b1 : decide ((0 : Int) ≤ at_) = true := decide_eq_true e2
    clear g1 g2 g3 g4 g5 gs h0
    go_enter Try.func6, Try.ntmps6
    go_wp2_with fail
    refine hT.mono ?_
    rintro e w1 ⟨v1, rfl, hrow1, hb1⟩
    obtain ⟨a1, c1, rfl, hv1⟩ := toks_own hrow1
    have hba1 := hb1.alloc hb1.size (.cells #[.int .i64 er, .int .i64 at_] 25)
    simp only [List.length_nil]
    clear hT hrow1 hv1
    rcases e1 with rfl | rfl | rfl
    · go_wp2_with (go_at_call 12; refine (hA _).mono ?_; rintro e w2 ⟨rfl, hb2⟩)
      go_ret
      exact ⟨rfl, hba1.trans (hb2.mono hba1.size)⟩
    · go_wp2_with (go_at_call 12; refine (hA _).mono ?_; rintro e w2 ⟨rfl, hb2⟩)
      go_ret
      exact ⟨rfl, hba1.trans (hb2.mono hba1.size)⟩
    · go_wp2_with (go_at_call 12; refine (hA _).mono ?_; rintro e w2 ⟨rfl, hb2⟩)
      go_ret
      exact ⟨rfl, hba1.trans (hb2.mono hba1.size)⟩

end Go.Proofs.Ytccllonkhklldab
