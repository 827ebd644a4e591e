/-
  Texts laid together in one: Ref04Inst3, LawCodeInst.
-/
import Derived.Test.YtccllonkhklldacB22
import Derived.Test.YtccllonkhklldacB23
import Derived.Test.YtccllonkhklldacB24
import Derived.Test.YtccllonkhklldacB25
import Derived.WalkKit
import Derived.OwnWalkIn
import Derived.TacticsInMore
import Derived.WalkSpells
import Derived.WalkMore
import Derived.Test.YtccllonkhklldacB20
import Derived.Test.YtccllonkhklldacB03
import Derived.Test.YtccllonkhklldacB16
import Derived.Test.YtccllonkhklldacB02
import Derived.Test.YtccllonkhklldacB19
/-
  What Inst of the document's answer returns, for all words and every bound.
-/
namespace Go.Proofs.Ytccllonkhklldac
open Go.RowKit Go.Shelf
set_option linter.unusedVariables false
set_option linter.unusedSimpArgs false

theorem headTy_ok {zs : List Int} {b : Int} (h : ¬ (headTy true zs b).2 ≠ 0) : 1 ≤ zs.length ∧ (headTy true zs b).1 = nth zs 0 := by
  unfold headTy at *
  rw [if_pos rfl] at *
  by_cases hz : zs.length ≤ 0
  · rw [if_pos hz] at h; exact absurd (by decide) h
  · rw [if_neg hz]; exact ⟨by omega, rfl⟩
theorem headRes_ok {zs : List Int} {b : Int} {p : Nat} (h : ¬ (headRes true zs b p).2 ≠ 0) : p + 1 ≤ zs.length ∧ (headRes true zs b p).1 = nth zs p := by
  unfold headRes at *
  rw [if_pos rfl] at *
  by_cases hz : zs.length ≤ p
  · rw [if_pos hz] at h; exact absurd (by decide) h
  · rw [if_neg hz]; exact ⟨by omega, rfl⟩

theorem refInst_any (op b : Int) (a : Option Addr) (n cap : Nat) (zs : List Int) (w : World) (ha : View .u32 w a zs) (hl : zs.length = n) (hw : Within 4294967296 zs) (hn : 4 * n ≤ 140737488351232) (b0 : 0 ≤ b) (b1 : b < 4294967296) (hcap : n ≤ cap) (hnil : a = none → cap = 0) :
    Calls Try.prog 22 #[.agg #[.int .u16 op, .slice a n cap], .int .u32 b] w fun e w' => RefR w (instI op zs b) e w' := by
  unfold instI
  by_cases hbig : 65535 ≤ zs.length
  · rw [if_pos hbig]; exact refInst_large op b a n cap w (by omega)
  · rw [if_neg hbig]
    cases h2 : (lookF refT op).2 with
    | false => rw [if_pos rfl]; exact refInst_none op b a n cap w (by omega) h2
    | true =>
      rw [if_neg (by simp)]
      obtain ⟨f, hf⟩ : ∃ f, lookF refT op = (f, true) := ⟨(lookF refT op).1, Prod.ext rfl h2⟩
      rw [hf]
      have hE := heads_eq f.2.1 f.2.2.1 zs b
      have hG := refInst_heads op b a n cap zs w f hf ha hl hw hn b0 b1 (by omega)
      unfold instF
      dsimp only
      by_cases h1 : (headTy f.2.1 zs b).2 ≠ 0
      · rw [if_pos h1] at hE ⊢
        rw [hE] at hG
        exact hG h1
      · rw [if_neg h1] at hE ⊢
        by_cases h3 : (headRes f.2.2.1 zs b f.2.1.toNat).2 ≠ 0
        · rw [if_pos h3] at hE ⊢
          rw [hE] at hG
          exact hG h3
        · rw [if_neg h3] at hE ⊢
          clear hG
          obtain ⟨f1, ty, re, f4, f5, f6, f7⟩ := f
          dsimp only at *
          rw [ite_not, hl]
          cases ty <;> cases re
          · exact refInst_ff op b a n cap zs w f1 f4 f5 f6 f7 hf ha hl hw hn b0 b1 (by omega) hcap hnil hE (Nat.zero_le _) _ rfl
          · obtain ⟨r1, r2⟩ := headRes_ok h3
            rw [r2]
            exact refInst_ft op b a n cap zs w f1 f4 f5 f6 f7 hf ha hl hw hn b0 b1 (by omega) hcap hnil hE (by rw [← hl]; exact r1) _ rfl
          · obtain ⟨r1, r2⟩ := headTy_ok h1
            rw [r2]
            exact refInst_tf op b a n cap zs w f1 f4 f5 f6 f7 hf ha hl hw hn b0 b1 (by omega) hcap hnil hE (by rw [← hl]; exact r1) _ rfl
          · obtain ⟨r1, r2⟩ := headTy_ok h1
            obtain ⟨s1, s2⟩ := headRes_ok h3
            rw [r2, s2]
            exact refInst_tt op b a n cap zs w f1 f4 f5 f6 f7 hf ha hl hw hn b0 b1 (by omega) hcap hnil hE (by rw [← hl]; exact s1) _ rfl

end Go.Proofs.Ytccllonkhklldac

/-
  The law CodeInst answers true, for all words and every bound.
-/
namespace Go.Proofs.Ytccllonkhklldac
open Go.RowKit Go.Shelf
attribute [local go_sem] Oper.semAt_some
set_option linter.unusedVariables false
set_option linter.unusedSimpArgs false

set_option maxRecDepth 100000 in
set_option maxHeartbeats 8000000 in
theorem codeInst_true (w : World) (op : Int) (a : Option Addr) (n cap : Nat) (zs : List Int) (ho0 : 0 ≤ op) (ho1 : op < 65536) (hl : zs.length = n) (hv : View .u32 w a zs) (hw : Within 4294967296 zs) (hr : 4 * n ≤ 140737488351232) (hc : n ≤ cap) (hnil : a = none → cap = 0) (bnd : Int) (b0 : 0 ≤ bnd) (b1 : bnd < 4294967296) :
    Calls Try.prog 8 #[.agg #[.int .u16 op, .slice a n cap], .int .u32 bnd] w fun e w' => e = .returned (.bool true) ∧ Below w.heap.size w w' := by
  have hCw := fun wx (hb : Below w.heap.size w wx) => copyWords_any a n cap zs wx (hv.below hb) hl hr
  have hRf := fun wx (hb : Below w.heap.size w wx) => refInst_any op bnd a n cap zs wx (hv.below hb) hl hw hr b0 b1 hc hnil
  have hIn := fun wx g (h : View .u32 wx (some ⟨g, 0, none⟩) zs) => inst_any op bnd ⟨g, 0, none⟩ n n zs wx h hl hw hr
  have hIok : InstOk (instI op zs bnd).1 := instI_ok ho0 ho1 hw
  have hWd := fun wx ax ay c (h1 : View .u32 wx ax zs) (h2 : View .u32 wx ay zs) => words_true ax ay n c cap zs wx h1 h2 hl (by omega)
  generalize instI op zs bnd = I at *
  have hNi := fun wx ax ay m c d (h : ArgsV wx ax I.1.2.2.2) (h2 : ArgsV wx ay I.1.2.2.2) (hm : I.1.2.2.2.length = m) => kitInst_any I.1 I.1 ax ay m m c d wx h h2 hm hm (by have := hIok.2.2.2.2.2.2.2; omega) (by have := hIok.2.2.2.2.2.2.2; omega)
  have hAw := fun w => awake4_true w
  have HL : Hid (zs.length = n) := hl
  have HV : Hid (View .u32 w a zs) := hv
  have hmix : Try.prog.follows .mixedOrders = true := by kernel_rfl
  obtain ⟨⟨io, it, ir, il⟩, ie⟩ := I
  rw [show decide ((io, it, ir, il) = ((io, it, ir, il) : InstT)) = true from decide_eq_true rfl] at hNi
  unfold InstR at hIn
  unfold RefR at hRf
  unfold instV at *
  simp only at *
  clear hIok hv hl
  refine (callsIn_wide (n := 0)).1 ?_
  refine callsIn_of_wp_marks Try.func8 rfl trivial ?_ rfl
  simp only [Try.ntmps8, List.size_toArray, List.length_cons, List.length_nil, Nat.reduceAdd, Nat.reduceSub, Array.replicate_succ, Array.replicate_zero, List.push_toArray, List.append_toArray, List.nil_append, List.cons_append]
  have hB0 : Below w.heap.size w (w.alloc (.cells #[.int .u16 op, .slice a n cap] 62)) := (Below.refl _ w).alloc (Nat.le_refl _) _
  have k0 := alloc_new w #[.int .u16 op, .slice a n cap] 62
  obtain ⟨q0, q1, _⟩ := cell_of_two k0
  have HK0 : Hid _ := k0
  clear k0
  gi_wp2_with fail
  have k0 := HK0.out
  have hR1 := hRf _ hB0
  generalize w.alloc (.cells #[.int .u16 op, .slice a n cap] 62) = W0 at *
  have l0 := (Array.getElem?_eq_some_iff.1 k0).1
  refine ⟨trivial, rfl, (callsIn_wide.2 hR1).mono ?_⟩
  rintro e w1 ⟨hb1, aR, mR, cR, rfl, hmR, hAR⟩
  have hB1 := hB0.trans (hb1.mono hB0.size)
  have k1 := (hb1.block _ l0).trans k0
  clear q0 q1 hRf hR1 HK0
  gi_wp2_with fail
  have kI := alloc_new w1 #[.int .u16 io, .int .u32 it, .int .u32 ir, .slice aR mR cR] 58
  have hbI : Below w1.heap.size w1 (w1.alloc (.cells #[.int .u16 io, .int .u32 it, .int .u32 ir, .slice aR mR cR] 58)) := (Below.refl _ w1).alloc (Nat.le_refl _) _
  have hAI := hAR.below hbI
  have hB2 := hB1.trans (hbI.mono hB1.size)
  have k2 := (hbI.block _ (Array.getElem?_eq_some_iff.1 k1).1).trans k1
  clear hAR k1 k0 hB1 hb1 hB0 l0
  generalize w1.alloc (.cells #[.int .u16 io, .int .u32 it, .int .u32 ir, .slice aR mR cR] 58) = W at *
  clear hbI
  generalize w1.heap.size = BI at *
  have l2 := (Array.getElem?_eq_some_iff.1 k2).1
  have lI := (Array.getElem?_eq_some_iff.1 kI).1
  rename_i K0 hK0
  have KEY : ∀ (Bc G L : Nat) (X : World), Below W.heap.size W X → X.heap[Bc]? = some (.cells #[.int .u16 op, .slice (some ⟨G, 0, none⟩) n n] 62 (0, 0)) → X.ownsRow L 22 1 (.slice (some ⟨G, 0, none⟩) n n) n (zs.map (Value.int .u32)) → W.heap.size ≤ L → W.heap.size ≤ Bc → Bc ≠ G →
      K0 { tmps := #[.agg #[.int .u16 op, .slice a n cap], .int .u32 bnd, .pointer (some ⟨w.heap.size, 0, none⟩), undef, .bool false, .pointer (some ⟨BI, 0, none⟩), .int .i64 ie, .pointer (some ⟨Bc, 0, none⟩), undef, undef, .tuple #[.agg #[.int .u16 io, .int .u32 it, .int .u32 ir, .slice aR mR cR], .int .i64 ie], .agg #[.int .u16 op, .slice a n cap], .int .u32 bnd, .tuple #[.agg #[.int .u16 io, .int .u32 it, .int .u32 ir, .slice aR mR cR], .int .i64 ie], .agg #[.int .u16 io, .int .u32 it, .int .u32 ir, .slice aR mR cR], .int .i64 ie, .pointer (some ⟨w.heap.size, 0, none⟩), .int .u16 op, .pointer (some ⟨w.heap.size, 1, none⟩), .slice a n cap, .slice (some ⟨G, 0, none⟩) n n, .agg #[.int .u16 op, .slice (some ⟨G, 0, none⟩) n n], undef, undef, undef, undef, undef, undef, undef, undef, undef, undef, undef, undef, undef, undef, undef, undef, undef, undef, undef, undef, undef, undef, undef, undef, undef, undef, undef, undef, undef, undef, undef, undef], defers := [] } X := by
    intro Bc G L X hbX kX hown hL hBc hne
    refine hK0 _ _ ?_
    have lX := (Array.getElem?_eq_some_iff.1 kX).1
    have hBX := hB2.trans (hbX.mono hB2.size)
    have kRX := (hbX.block _ l2).trans k2
    have kIX := (hbX.block _ lI).trans kI
    have hAX := hAI.below hbX
    obtain ⟨x0, x1, _⟩ := cell_of_two kX
    have hVX := View.ofOwn hown HL.out
    have hC1 := hIn X G hVX
    clear hK0 hCw
    gi_wp2_with fail
    refine ⟨trivial, rfl, (callsIn_wide.2 hC1).mono ?_⟩
    rintro e w4 ⟨hb4, a5, m5, c5, rfl, hm5, hown5⟩
    obtain rfl : mR = m5 := by rw [← hmR, hm5]
    have hb5 : Below X.heap.size X (w4.alloc (.cells #[.int .u16 io, .int .u32 it, .int .u32 ir, .slice a5 mR c5] 58)) := hb4.alloc hb4.size _
    have kx5 := alloc_new w4 #[.int .u16 io, .int .u32 it, .int .u32 ir, .slice a5 mR c5] 58
    have lIX := (Array.getElem?_eq_some_iff.1 kIX).1
    have kI5 := (hb5.block _ lIX).trans kIX
    have kX5 := (hb5.block _ lX).trans kX
    have lRX := (Array.getElem?_eq_some_iff.1 kRX).1
    have kR5 := (hb5.block _ lRX).trans kRX
    have hown5' := own_below hown5 ((Below.refl _ w4).alloc (Nat.le_refl _) (.cells #[.int .u16 io, .int .u32 it, .int .u32 ir, .slice a5 mR c5] 58))
    have hownG := own_below hown hb5
    have hB5 := hBX.trans (hb5.mono hBX.size)
    have hbW5 := hbX.trans (hb5.mono hbX.size)
    have l45 : w4.heap.size < (w4.alloc (.cells #[.int .u16 io, .int .u32 it, .int .u32 ir, .slice a5 mR c5] 58)).heap.size := by simp
    have hXw4 := hb4.size
    have lGX := (hown.lt G rfl).2
    have lLG := (hown.lt G rfl).1
    obtain ⟨y0, y1, y2, y3⟩ := four_cells kx5
    obtain ⟨i0, i1, i2, i3⟩ := four_cells kI5
    have HKX : Hid ((w4.alloc (.cells #[.int .u16 io, .int .u32 it, .int .u32 ir, .slice a5 mR c5] 58)).heap[w4.heap.size]? = some (.cells #[.int .u16 io, .int .u32 it, .int .u32 ir, .slice a5 mR c5] 58 (0, 0))) := kx5
    have HKI : Hid _ := kI5
    have HKC : Hid _ := kX5
    have HKR : Hid _ := kR5
    have HOA : Hid ((w4.alloc (.cells #[.int .u16 io, .int .u32 it, .int .u32 ir, .slice a5 mR c5] 58)).ownsRow X.heap.size 54 3 (.slice a5 mR c5) mR (il.flatMap argC)) := hown5'
    have HOG : Hid ((w4.alloc (.cells #[.int .u16 io, .int .u32 it, .int .u32 ir, .slice a5 mR c5] 58)).ownsRow L 22 1 (.slice (some ⟨G, 0, none⟩) n n) n (zs.map (Value.int .u32))) := hownG
    have HB5 : Hid (Below w.heap.size w (w4.alloc (.cells #[.int .u16 io, .int .u32 it, .int .u32 ir, .slice a5 mR c5] 58))) := hB5
    have HBW5 : Hid (Below W.heap.size W (w4.alloc (.cells #[.int .u16 io, .int .u32 it, .int .u32 ir, .slice a5 mR c5] 58))) := hbW5
    clear hC1 hIn x0 x1 kx5 kI5 kX5 kR5 hown5' hownG hB5 hbW5 hb5 hb4 hown5 hown kX kRX kIX hAX hbX hBX hVX
    gi_wp2_with fail
    generalize w4.alloc (.cells #[.int .u16 io, .int .u32 it, .int .u32 ir, .slice a5 mR c5] 58) = Y at *
    generalize w4.heap.size = Bx at *
    have hC2 := hNi Y a5 aR mR c5 cR (argsV_own HOA.out hm5) (hAI.below HBW5.out) hm5
    refine ⟨trivial, rfl, (callsIn_wide.2 hC2).mono ?_⟩
    rintro e w6 ⟨rfl, hb6⟩
    have lCY := (Array.getElem?_eq_some_iff.1 HKC.out).1
    have lRY := (Array.getElem?_eq_some_iff.1 HKR.out).1
    have hOG6 := own_below HOG.out hb6
    have hB6 := HB5.out.trans (hb6.mono HB5.out.size)
    have hC3 := hWd w6 (some ⟨G, 0, none⟩) a n (View.ofOwn hOG6 HL.out) (HV.out.below hB6)
    obtain ⟨c0, c1, _⟩ := cell_of_two ((hb6.block _ lCY).trans HKC.out)
    obtain ⟨r0, r1, _⟩ := cell_of_two ((hb6.block _ lRY).trans HKR.out)
    have HB6 : Hid (Below Y.heap.size Y w6) := hb6
    clear hC2 hOG6 hB6 hb6 hWd y0 y1 y2 y3 i0 i1 i2 i3
    gi_wp2_with fail
    refine ⟨trivial, rfl, (callsIn_wide.2 hC3).mono ?_⟩
    rintro e w7 ⟨rfl, q, hq⟩
    have hb7 : Below w6.heap.size w6 w7 := by rw [hq]; exact bel_drewN (Below.refl _ _) q
    have hY7 : Below Y.heap.size Y w7 := HB6.out.trans (hb7.mono HB6.out.size)
    have hC4 := spoil_keep G n n L zs w7 (own_below HOG.out hY7) HL.out hr
    obtain ⟨c0, c1, _⟩ := cell_of_two ((hY7.block _ lCY).trans HKC.out)
    have HY7 : Hid (Below Y.heap.size Y w7) := hY7
    clear hC3 hb7 hY7 hq HB6 r0 r1
    gi_wp2_with fail
    refine ⟨trivial, rfl, (callsIn_wide.2 hC4).mono ?_⟩
    rintro e w8 ⟨rfl, hg8, _⟩
    have hY7 := HY7.out
    have sY7 := hY7.size
    have keep : ∀ k o, k ≠ G → Y.heap[k]? = some o → w8.heap[k]? = some o := fun k o hk hko => by
      have lk := (Array.getElem?_eq_some_iff.1 hko).1
      exact (hg8.block k (by omega) (fun e => hk (by cases e; rfl))).trans ((hY7.block _ lk).trans hko)
    have hOA8 := own_grown (own_below HOA.out hY7) hg8 (fun g e e2 => by
      have := (HOA.out.lt g e2).1
      cases e
      omega)
    have hbW7 := HBW5.out.trans (hY7.mono HBW5.out.size)
    have hb07 := HB5.out.trans (hY7.mono HB5.out.size)
    have sWw := hB2.size
    have hBW8 : Below W.heap.size W w8 := hbW7.grown hg8 hbW7.size (fun k e => by cases e; omega)
    have hB8 : Below w.heap.size w w8 := hb07.grown hg8 hb07.size (fun k e => by cases e; omega)
    obtain ⟨y0, y1, y2, y3⟩ := four_cells (keep Bx _ (by omega) HKX.out)
    obtain ⟨i0, i1, i2, i3⟩ := four_cells (keep BI _ (by omega) HKI.out)
    have hC5 := hNi w8 a5 aR mR c5 cR (argsV_own hOA8 hm5) (hAI.below hBW8) hm5
    have HB8 : Hid (Below w.heap.size w w8) := hB8
    clear hC4 keep hOA8 hbW7 hb07 hBW8 hB8 hg8 hY7 c0 c1 hNi hAI
    gi_wp2_with fail
    refine ⟨trivial, rfl, (callsIn_wide.2 hC5).mono ?_⟩
    rintro e w9 ⟨rfl, hb9⟩
    have hB9 := HB8.out.trans (hb9.mono HB8.out.size)
    clear hC5 hb9 y0 y1 y2 y3 i0 i1 i2 i3
    gi_wp2_with fail
    refine ⟨trivial, rfl, (callsIn_wide.2 (hAw _)).mono ?_⟩
    rintro e w10 ⟨rfl, hb10⟩
    have HB10 : Hid _ := hB9.trans (hb10.mono hB9.size)
    clear hB9 hb10
    gi_wp2_with fail
    exact ⟨.bool true, by simp [results, Try.results8, go_sem], rfl, HB10.out⟩
  clear hK0
  have hC0 : Below W.heap.size W W.drew := below_drew W
  have L0 : Hid (∀ w', Below W.heap.size W w' → w'.cell? ⟨w.heap.size, 0, none⟩ = some (.int .u16 op)) := fun w' hC => (one_block ((hC.block _ l2).trans k2)).1 0
  have L1 : Hid (∀ w', Below W.heap.size W w' → w'.cell? ⟨w.heap.size, 1, none⟩ = some (.slice a n cap)) := fun w' hC => (one_block ((hC.block _ l2).trans k2)).1 1
  refine wpIn_normal (wpIn_region_any hmix (wpAnyC_sound (C := Below W.heap.size W) _ _ _ _ ?_))
  change wpAnyC _ _ _ _ _ _ _ _ _ _ (World.drew _)
  refine wpAnyC_takeD (i := 0) (some 16) (v := .pointer (some ⟨w.heap.size, 0, none⟩)) (fun _ => trivial) (by kernel_rfl) rfl rfl (by kernel_rfl) (by kernel_rfl) (by kernel_rfl) (fun _ _ _ h => by cases h.1) hC0 (Or.inl ⟨by kernel_rfl, fun w' hC => by clear hC; go_simp⟩) ?_
  simp only [Act.put, List.setIfInBounds_toArray, List.set_cons_succ, List.set_cons_zero]
  refine wpAnyC_takeD (i := 1) (some 17) (v := .int .u16 op) (fun _ => trivial) (by kernel_rfl) rfl rfl (by kernel_rfl) (by kernel_rfl) (by kernel_rfl) (fun _ _ _ h => by cases h.1) hC0 (Or.inl ⟨by kernel_rfl, fun w' hC => by have e := L0.out w' hC; clear hC; go_simp⟩) ?_
  simp only [Act.put, List.setIfInBounds_toArray, List.set_cons_succ, List.set_cons_zero]
  refine wpAnyC_takeD (i := 2) (some 18) (v := .pointer (some ⟨w.heap.size, 1, none⟩)) (fun _ => trivial) (by kernel_rfl) rfl rfl (by kernel_rfl) (by kernel_rfl) (by kernel_rfl) (fun _ _ _ h => by cases h.1) hC0 (Or.inl ⟨by kernel_rfl, fun w' hC => by clear hC; go_simp⟩) ?_
  simp only [Act.put, List.setIfInBounds_toArray, List.set_cons_succ, List.set_cons_zero]
  refine wpAnyC_takeD (i := 3) (some 19) (v := .slice a n cap) (fun _ => trivial) (by kernel_rfl) rfl rfl (by kernel_rfl) (by kernel_rfl) (by kernel_rfl) (fun _ _ _ h => by cases h.1) hC0 (Or.inl ⟨by kernel_rfl, fun w' hC => by have e := L1.out w' hC; clear hC; go_simp⟩) ?_
  simp only [Act.put, List.setIfInBounds_toArray, List.set_cons_succ, List.set_cons_zero]
  refine wpAnyC_ready (rs := [4, 6]) (by kernel_rfl) (by simp) ?_
  refine AllC.cons rfl (fun K hK => ?_) (AllC.cons rfl (fun K hK => ?_) AllC.nil)
  · go_simp
    refine ⟨trivial, rfl, (callsIn_wide.2 (hCw _ (hB2.trans (hC0.mono hB2.size)))).mono ?_⟩
    rintro e w3 ⟨rfl, hown3, hb3⟩
    dsimp only
    have hC3 : Below W.heap.size W w3 := hC0.trans (hb3.mono hC0.size)
    refine hK _ _ hC3 ?_
    clear hK K
    refine wpAnyC_takeD (i := 5) (some 21) (v := .agg #[.int .u16 op, .slice (some ⟨W.heap.size, 0, none⟩) n n]) (fun _ => trivial) (by kernel_rfl) rfl rfl (by kernel_rfl) (by kernel_rfl) (by kernel_rfl) (fun _ _ _ h => by cases h.1) hC3 (Or.inl ⟨by kernel_rfl, fun w' hC => by clear hC; go_simp⟩) ?_
    simp only [Act.put, List.setIfInBounds_toArray, List.set_cons_succ, List.set_cons_zero]
    refine wpAnyC_ready (rs := [6]) (by kernel_rfl) (by simp) ?_
    refine AllC.cons rfl (fun K hK => ?_) AllC.nil
    go_simp
    have hC4 : Below W.heap.size W (w3.alloc (.cells #[.int .u16 0, .slice none 0 0] 62)) := hC3.alloc hC3.size _
    refine hK _ _ hC4 ?_
    clear hK K
    refine wpAnyC_ready (rs := [7]) (by kernel_rfl) (by simp) ?_
    refine AllC.cons rfl (fun K hK => ?_) AllC.nil
    go_simp
    have hC5 : Below W.heap.size W (w3.alloc (.cells #[.int .u16 op, .slice (some ⟨W.heap.size, 0, none⟩) n n] 62)) := hC3.alloc hC3.size _
    refine hK _ _ hC5 ?_
    clear hK K
    exact wpAnyC_done (by kernel_rfl) ⟨rfl, KEY w3.heap.size W.heap.size W.heap.size _ hC5 (alloc_new w3 _ _) (own_below hown3 ((Below.refl _ w3).alloc (Nat.le_refl _) _)) (Nat.le_refl _) hC3.size (by have := (hown3.lt W.heap.size rfl).2; omega)⟩ _
  · go_simp
    have hC3 : Below W.heap.size W (W.alloc (.cells #[.int .u16 0, .slice none 0 0] 62)).drew := ((Below.refl _ W).alloc (Nat.le_refl _) _).drew
    refine hK _ _ hC3 ?_
    clear hK K
    have kZ : (W.alloc (.cells #[.int .u16 0, .slice none 0 0] 62)).drew.heap[W.heap.size]? = some (.cells #[.int .u16 0, .slice none 0 0] 62 (0, 0)) := alloc_new W _ _
    have lB : W.heap.size < (W.alloc (.cells #[.int .u16 0, .slice none 0 0] 62)).drew.heap.size := by show _ < (W.alloc _).heap.size; simp
    generalize (W.alloc (.cells #[.int .u16 0, .slice none 0 0] 62)).drew = W3 at *
    refine wpAnyC_ready (rs := [4]) (by kernel_rfl) (by simp) ?_
    refine AllC.cons rfl (fun K hK => ?_) AllC.nil
    go_simp
    refine ⟨trivial, rfl, (callsIn_wide.2 (hCw _ (hB2.trans (hC3.mono hB2.size)))).mono ?_⟩
    rintro e w4 ⟨rfl, hown4, hb4⟩
    dsimp only
    have hC4 : Below W.heap.size W w4 := hC3.trans (hb4.mono hC3.size)
    refine hK _ _ hC4 ?_
    clear hK K
    refine wpAnyC_takeD (i := 5) (some 21) (v := .agg #[.int .u16 op, .slice (some ⟨W3.heap.size, 0, none⟩) n n]) (fun _ => trivial) (by kernel_rfl) rfl rfl (by kernel_rfl) (by kernel_rfl) (by kernel_rfl) (fun _ _ _ h => by cases h.1) hC4 (Or.inl ⟨by kernel_rfl, fun w' hC => by clear hC; go_simp⟩) ?_
    simp only [Act.put, List.setIfInBounds_toArray, List.set_cons_succ, List.set_cons_zero]
    have kZ2 := (hb4.block _ lB).trans kZ
    refine wpAnyC_ready (rs := [7]) (by kernel_rfl) (by simp) ?_
    refine AllC.cons rfl (fun K hK => ?_) AllC.nil
    obtain ⟨zc, zf⟩ := one_block kZ2
    have z0 := zc 0
    have y0 := zf 0
    have z1 := zc 1
    have y1 := zf 1
    go_simp
    have hC5 : Below W.heap.size W ((w4.setCell ⟨W.heap.size, 0, none⟩ (.int .u16 op)).setCell ⟨W.heap.size, 1, none⟩ (.slice (some ⟨W3.heap.size, 0, none⟩) n n)) := (hC4.setCell (Nat.le_refl _) _).setCell (Nat.le_refl _) _
    refine hK _ _ hC5 ?_
    clear hK K
    exact wpAnyC_done (by kernel_rfl) ⟨rfl, KEY W.heap.size W3.heap.size W3.heap.size _ hC5 (by simp [World.setCell, Array.getElem?_modify, kZ2]) (ownFar (ownFar hown4 lB _ _) lB _ _) hC3.size (Nat.le_refl _) (Nat.ne_of_lt lB)⟩ _

theorem codeInst_law (w : World) (op : Int) (a : Option Addr) (n cap : Nat) (zs : List Int) (ho0 : 0 ≤ op) (ho1 : op < 65536) (hl : zs.length = n) (hv : View .u32 w a zs) (hw : Within 4294967296 zs) (hr : 4 * n ≤ 140737488351232) (hc : n ≤ cap ∧ (a = none → cap = 0)) (bnd : Int) (hbw : (Lit.int .u32 bnd).wf = true) :
    Calls Try.prog 8 #[.agg #[.int .u16 op, .slice a n cap], .int .u32 bnd] w fun e w' => e = .returned (.bool true) ∧ Below w.heap.size w w' := by
  have hb := bounds_u32 hbw
  exact codeInst_true w op a n cap zs ho0 ho1 hl hv hw hr hc.1 hc.2 bnd (by omega) (by omega)

end Go.Proofs.Ytccllonkhklldac
