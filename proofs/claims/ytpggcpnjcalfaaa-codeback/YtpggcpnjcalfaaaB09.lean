/-
  Texts laid together in one: CodeRaw, Math2, MathR, MathC, MathRL, MathRW, CodeRaws.
-/
import Derived.WalkSpells
import Derived.WalkMore
import Derived.Test.YtpggcpnjcalfaaaB08
import Derived.Test.YtpggcpnjcalfaaaB06
import Derived.Test.YtpggcpnjcalfaaaB01
import Derived.Test.YtpggcpnjcalfaaaB04
import Derived.Test.YtpggcpnjcalfaaaB03
import Derived.Laws.AppendOwn
import Derived.BigRegion
/-
  What Raw of the package code answers, for every instruction and bound.
-/
namespace Go.Proofs.Ytpggcpnjcalfaaa
open Go.RowKit
set_option linter.unusedVariables false
set_option linter.unusedSimpArgs false
set_option maxRecDepth 10000

/-- The operation that Raw answers. -/
def rawO (x : InstT) (b : Int) : Int := if rawE x b = 0 then x.1 else 0

theorem two_put2 {w : World} {B T : Nat} {z0 z1 : Value} (h : w.heap[B]? = some (.cells #[z0, z1] T (0, 0))) (u0 u1 : Value) :
    ((w.setCell ⟨B, 0, none⟩ u0).setCell ⟨B, 1, none⟩ u1).heap[B]? = some (.cells #[u0, u1] T (0, 0)) := by
  simp only [World.setCell, Array.getElem?_modify, h]; simp
theorem two_below (w : World) (B : Nat) (u0 u1 : Value) : Below B w ((w.setCell ⟨B, 0, none⟩ u0).setCell ⟨B, 1, none⟩ u1) :=
  ((Below.refl B w).setCell (Nat.le_refl _) _).setCell (Nat.le_refl _) _

theorem own_lo {w : World} {lo lo' e size n : Nat} {v : Value} {xs : List Value} (h : w.ownsRow lo e size v n xs) (hl : lo' ≤ lo) : w.ownsRow lo' e size v n xs := by
  refine ⟨h.1, ?_⟩
  rcases h.2 with hn | ⟨g, cap, cur, e1, hb, rest⟩
  · exact .inl hn
  · exact .inr ⟨g, cap, cur, e1, Nat.le_trans hl hb, rest⟩

set_option maxHeartbeats 2000000 in
theorem raw_any (x : InstT) (b : Int) (ax : Option Addr) (n cx : Nat) (w : World) (hv : ArgsV w ax x.2.2.2) (hok : InstOk x) (hl : x.2.2.2.length = n) :
    Calls Try.prog 57 #[instV x ax n cx, .int .u32 b] w fun e w' => Below w.heap.size w w' ∧ ∃ a m c, e = .returned (.tuple #[.agg #[.int .u16 (rawO x b), .slice a m c], .int .i64 (rawE x b)]) ∧ (rawWs x b).length = m ∧
      w'.ownsRow w.heap.size 26 1 (.slice a m c) m ((rawWs x b).map (Value.int .u32)) := by
  have hOf := fun w => of_any x.1 w
  obtain ⟨f, hf⟩ : ∃ f, f = (lookF refT x.1).1 := ⟨_, rfl⟩
  by_cases h0 : (lookF refT x.1).2 = true
  · have hff : lookF refT x.1 = (f, true) := by rw [hf, ← h0]
    have hE : rawE x b = faultI f x b := by rw [rawE, if_pos h0, ← hf]
    have eV : ofV x.1 = formV x.1 f := by unfold ofV; rw [if_pos h0, ← hf]
    rw [hff, eV] at hOf
    have hI := fun (B : Nat) wx (hW : Wrt wx B x.1 f b [] 1) (h : ArgsL wx B ax x.2.2.2) => winst_any B f b x ax n cx wx hW hff hok h hl
    rw [← hE] at hI
    have hRW : rawE x b = 0 → rawWs x b = rawL f x ∧ rawO x b = x.1 := fun h => ⟨by rw [rawWs, if_pos h, ← hf], by rw [rawO, if_pos h]⟩
    have hRN : rawE x b ≠ 0 → rawWs x b = [] ∧ rawO x b = 0 := fun h => ⟨by rw [rawWs, if_neg h], by rw [rawO, if_neg h]⟩
    generalize rawE x b = r at *
    generalize rawWs x b = ws at *
    generalize rawO x b = ro at *
    clear hff hE eV h0 hf hok
    obtain ⟨xo, xt, xr, xl⟩ := x
    unfold instV at hI ⊢
    unfold formV at hOf
    obtain ⟨f1, f2, f3, f4, f5, f6, f7⟩ := f
    simp only at *
    go_enter Try.func57, Try.ntmps57
    go_wp2_with fail
    have hB0 : Below w.heap.size w ((w.alloc (.cells #[.int .u16 xo, .int .u32 xt, .int .u32 xr, .slice ax n cx] 29)).alloc (.cells #[.int .u16 0, .slice none 0 0] 25)) := ((Below.refl _ w).alloc (Nat.le_refl _) _).alloc (by simp) _
    have kI : ((w.alloc (.cells #[.int .u16 xo, .int .u32 xt, .int .u32 xr, .slice ax n cx] 29)).alloc (.cells #[.int .u16 0, .slice none 0 0] 25)).heap[w.heap.size]? = some (.cells #[.int .u16 xo, .int .u32 xt, .int .u32 xr, .slice ax n cx] 29 (0, 0)) := (Below.heap_alloc _ _ _ (by simp)).trans (alloc_new w _ _)
    have kR : ((w.alloc (.cells #[.int .u16 xo, .int .u32 xt, .int .u32 xr, .slice ax n cx] 29)).alloc (.cells #[.int .u16 0, .slice none 0 0] 25)).heap[w.heap.size + 1]? = some (.cells #[.int .u16 0, .slice none 0 0] 25 (0, 0)) := by simpa using alloc_new (w.alloc (.cells #[.int .u16 xo, .int .u32 xt, .int .u32 xr, .slice ax n cx] 29)) #[.int .u16 0, .slice none 0 0] 25
    generalize (w.alloc (.cells #[.int .u16 xo, .int .u32 xt, .int .u32 xr, .slice ax n cx] 29)).alloc (.cells #[.int .u16 0, .slice none 0 0] 25) = W0 at *
    have l0 := (Array.getElem?_eq_some_iff.1 kR).1
    refine (hOf _).mono ?_
    rintro e w1 ⟨rfl, hb1⟩
    have s1 := hb1.size
    have kI1 := (hb1.block _ (by omega)).trans kI
    have kR1 := (hb1.block _ l0).trans kR
    have hb01 := hB0.trans (hb1.mono (by omega))
    clear hb1 kI kR hB0 hOf
    have hb2 : Below w1.heap.size w1 (w1.alloc (.cells #[.int .u16 xo, .string f1, .bool f2, .bool f3, .string f4, .string f5, .int .i64 f6, .int .u8 f7] 59)) := (Below.refl _ _).alloc (Nat.le_refl _) _
    have kI2 := (hb2.block _ (by omega)).trans kI1
    have kR2 := (hb2.block _ (by omega)).trans kR1
    have hl2 : w1.heap.size < (w1.alloc (.cells #[.int .u16 xo, .string f1, .bool f2, .bool f3, .string f4, .string f5, .int .i64 f6, .int .u8 f7] 59)).heap.size := by simp
    have hb02 := hb01.trans (hb2.mono (by omega))
    have s02 := hb02.size
    have hW3b : Below (w1.heap.size + 1) (w1.alloc (.cells #[.int .u16 xo, .string f1, .bool f2, .bool f3, .string f4, .string f5, .int .i64 f6, .int .u8 f7] 59)) ((w1.alloc (.cells #[.int .u16 xo, .string f1, .bool f2, .bool f3, .string f4, .string f5, .int .i64 f6, .int .u8 f7] 59)).alloc (.cells (wrtC xo (f1, f2, f3, f4, f5, f6, f7) b (.slice none 0 0) 1) 141)) := (Below.refl _ _).alloc (by simp) _
    obtain ⟨i0, i1, i2, i3⟩ := four_cells ((hW3b.block _ (by omega)).trans kI2)
    have kW := alloc_new (w1.alloc (.cells #[.int .u16 xo, .string f1, .bool f2, .bool f3, .string f4, .string f5, .int .i64 f6, .int .u8 f7] 59)) (wrtC xo (f1, f2, f3, f4, f5, f6, f7) b (.slice none 0 0) 1) 141
    rw [World.size_alloc] at kW
    have kI3 := (hW3b.block _ (by omega)).trans kI2
    have kR3 := (hW3b.block _ (by omega)).trans kR2
    have hb03 := hb02.trans (hW3b.mono (by omega))
    have hlW : w1.heap.size + 1 < ((w1.alloc (.cells #[.int .u16 xo, .string f1, .bool f2, .bool f3, .string f4, .string f5, .int .i64 f6, .int .u8 f7] 59)).alloc (.cells (wrtC xo (f1, f2, f3, f4, f5, f6, f7) b (.slice none 0 0) 1) 141)).heap.size := by simp
    have hWr : Wrt ((w1.alloc (.cells #[.int .u16 xo, .string f1, .bool f2, .bool f3, .string f4, .string f5, .int .i64 f6, .int .u8 f7] 59)).alloc (.cells (wrtC xo (f1, f2, f3, f4, f5, f6, f7) b (.slice none 0 0) 1) 141)) (w1.heap.size + 1) xo (f1, f2, f3, f4, f5, f6, f7) b [] 1 := ⟨⟨_, kW, World.ownsRow_nil _ _ _ _⟩, by simp, by simp⟩
    have hAr := ((ArgsL.of hv).below hb03).mono (show w.heap.size ≤ w1.heap.size + 1 by omega)
    have hC := hI (w1.heap.size + 1) _ hWr hAr
    clear hWr hAr hI kW kI2 kR2 hb02 hW3b hb2 kI1 kR1 hb01 hv
    unfold wrtC at *
    simp only at *
    go_wp2_with fail
    generalize (w1.alloc (.cells #[.int .u16 xo, .string f1, .bool f2, .bool f3, .string f4, .string f5, .int .i64 f6, .int .u8 f7] 59)).alloc (.cells #[.int .u16 xo, .string f1, .bool f2, .bool f3, .string f4, .string f5, .int .i64 f6, .int .u8 f7, .int .u32 b, .slice none 0 0, .int .i64 1] 141) = W3 at *
    refine hC.mono ?_
    rintro e w4 ⟨rfl, hk4, hy4⟩
    have kI4 := hk4.keep _ _ _ _ kI3 (by omega) (by decide)
    have kR4 := hk4.keep _ _ _ _ kR3 (by omega) (by decide)
    have hb04 := hb03.trans (hk4.below.mono (by omega))
    obtain ⟨hcR, hfR⟩ := one_block kR4
    have r0 := hcR 0
    have r1 := hcR 1
    obtain ⟨j0, j1, j2, j3⟩ := four_cells kI4
    clear hC kI3 kR3 hb03 i0 i1 i2 i3 kI4 hcR
    by_cases hr : r = 0
    · subst hr
      obtain ⟨c, hW4⟩ := hy4 rfl
      obtain ⟨⟨v, hbx, hown⟩, _⟩ := hW4
      obtain ⟨e1, e2⟩ := hRW rfl
      rw [← e1] at hown
      obtain ⟨a', cap', rfl, _, hwl⟩ := View.ofOwned hown
      have hown' := own_lo hown (show w.heap.size + 2 ≤ w1.heap.size + 1 + 1 by omega)
      obtain ⟨hcW, _⟩ := one_block hbx
      have k9 := hcW 9
      change w4.cell? ⟨w1.heap.size + 1, 9, none⟩ = some (.slice a' ws.length cap') at k9
      have HO : Hid _ := hown
      subst e2
      have HO2 : Hid _ := hown'
      clear hRW hRN e1 hbx hcW hy4 hk4 hown hwl hown' HO
      generalize ws.length = m at *
      go_wp2
      have hB3 := two_put2 kR4 (.int .u16 ro) (.slice a' m cap')
      have hBel := hb04.trans ((two_below w4 (w.heap.size + 1) (.int .u16 ro) (.slice a' m cap')).mono (by omega))
      have hO3 := own_lo (ownFar (ownFar HO2.out (show w.heap.size + 1 < w.heap.size + 2 by omega) 0 (.int .u16 ro)) (show w.heap.size + 1 < w.heap.size + 2 by omega) 1 (.slice a' m cap')) (show w.heap.size ≤ w.heap.size + 2 by omega)
      clear hb04 kR4 r0 r1 hfR k9 HO2 j0 j1 j2 j3
      generalize (w4.setCell _ _).setCell _ _ = W at hB3 hBel hO3 ⊢
      obtain ⟨hd, _⟩ := one_block hB3
      have d0 := hd 0
      have d1 := hd 1
      refine bodyPost_ret (v := .tuple #[.agg #[.int .u16 ro, .slice a' m cap'], .int .i64 0]) ?_ rfl ⟨hBel, a', m, cap', rfl, ?_, hO3⟩
      · simp [results, Try.results57, go_sem, d0, d1]
      · have := hO3.1
        simpa using this
    · obtain ⟨e1, e2⟩ := hRN hr
      subst e1 e2
      clear hRW hRN hy4 hk4 j0 j1 j2 j3
      go_wp2
      have hB3 := two_put2 kR4 (.int .u16 0) (.slice none 0 0)
      have hBel := hb04.trans ((two_below w4 (w.heap.size + 1) (.int .u16 0) (.slice none 0 0)).mono (by omega))
      clear hb04 kR4 r0 r1 hfR
      generalize (w4.setCell _ _).setCell _ _ = W at hB3 hBel ⊢
      obtain ⟨hd, _⟩ := one_block hB3
      have d0 := hd 0
      have d1 := hd 1
      refine bodyPost_ret (v := .tuple #[.agg #[.int .u16 0, .slice none 0 0], .int .i64 r]) ?_ rfl ⟨hBel, none, 0, 0, rfl, rfl, World.ownsRow_nil _ _ _ _⟩
      simp [results, Try.results57, go_sem, d0, d1]
  · have hE : rawE x b = 30 := by rw [rawE, if_neg h0]
    have hE2 : rawWs x b = [] := by rw [rawWs, hE]; rfl
    have hE3 : rawO x b = 0 := by rw [rawO, hE]; rfl
    rw [hE, hE2, hE3]
    have h0' : (lookF refT x.1).2 = false := by simpa using h0
    have eV : ofV x.1 = formV 0 noFrm := by unfold ofV; rw [if_neg h0]
    rw [h0', eV] at hOf
    unfold formV noFrm at hOf
    clear hE hE2 hE3 h0 h0' eV hf
    obtain ⟨xo, xt, xr, xl⟩ := x
    unfold instV
    simp only at *
    go_enter Try.func57, Try.ntmps57
    go_wp2_with fail
    have hB0 : Below w.heap.size w ((w.alloc (.cells #[.int .u16 xo, .int .u32 xt, .int .u32 xr, .slice ax n cx] 29)).alloc (.cells #[.int .u16 0, .slice none 0 0] 25)) := ((Below.refl _ w).alloc (Nat.le_refl _) _).alloc (by simp) _
    have kI : ((w.alloc (.cells #[.int .u16 xo, .int .u32 xt, .int .u32 xr, .slice ax n cx] 29)).alloc (.cells #[.int .u16 0, .slice none 0 0] 25)).heap[w.heap.size]? = some (.cells #[.int .u16 xo, .int .u32 xt, .int .u32 xr, .slice ax n cx] 29 (0, 0)) := (Below.heap_alloc _ _ _ (by simp)).trans (alloc_new w _ _)
    have kR : ((w.alloc (.cells #[.int .u16 xo, .int .u32 xt, .int .u32 xr, .slice ax n cx] 29)).alloc (.cells #[.int .u16 0, .slice none 0 0] 25)).heap[w.heap.size + 1]? = some (.cells #[.int .u16 0, .slice none 0 0] 25 (0, 0)) := by simpa using alloc_new (w.alloc (.cells #[.int .u16 xo, .int .u32 xt, .int .u32 xr, .slice ax n cx] 29)) #[.int .u16 0, .slice none 0 0] 25
    generalize (w.alloc (.cells #[.int .u16 xo, .int .u32 xt, .int .u32 xr, .slice ax n cx] 29)).alloc (.cells #[.int .u16 0, .slice none 0 0] 25) = W0 at *
    have l0 := (Array.getElem?_eq_some_iff.1 kR).1
    refine (hOf _).mono ?_
    rintro e w1 ⟨rfl, hb1⟩
    have s1 := hb1.size
    have kI1 := (hb1.block _ (by omega)).trans kI
    have kR1 := (hb1.block _ l0).trans kR
    have hb01 := hB0.trans (hb1.mono (by omega))
    clear hb1 kI kR hB0 hOf
    have hb2 : Below w1.heap.size w1 (w1.alloc (.cells #[.int .u16 0, .string ⟨#[]⟩, .bool false, .bool false, .string ⟨#[]⟩, .string ⟨#[]⟩, .int .i64 0, .int .u8 0] 59)) := (Below.refl _ _).alloc (Nat.le_refl _) _
    have kR2 := (hb2.block _ (by omega)).trans kR1
    obtain ⟨hcR, hfR⟩ := one_block kR2
    have r0 := hcR 0
    have r1 := hcR 1
    have hb02 := hb01.trans (hb2.mono (by omega))
    clear hb2 kI1 kR1 hcR hb01
    go_wp2
    have hB3 := two_put2 kR2 (.int .u16 0) (.slice none 0 0)
    have hBel := hb02.trans ((two_below _ (w.heap.size + 1) (.int .u16 0) (.slice none 0 0)).mono (by omega))
    clear hb02 kR2 r0 r1 hfR
    generalize ((w1.alloc _).setCell _ _).setCell _ _ = W at hB3 hBel ⊢
    obtain ⟨hd, _⟩ := one_block hB3
    have d0 := hd 0
    have d1 := hd 1
    refine bodyPost_ret (v := .tuple #[.agg #[.int .u16 0, .slice none 0 0], .int .i64 30]) ?_ rfl ⟨hBel, none, 0, 0, rfl, rfl, World.ownsRow_nil _ _ _ _⟩
    simp [results, Try.results57, go_sem, d0, d1]

end Go.Proofs.Ytpggcpnjcalfaaa

/-
  Plain arithmetic for the layer of words: bytes to words and back is the bytes, words to bytes and back is the words.
-/
namespace Go.Proofs.Ytpggcpnjcalfaaa
open Go.RowKit

theorem nth_ext {xs ys : List Int} (hl : xs.length = ys.length) (h : ∀ k, k < xs.length → nth xs k = nth ys k) : xs = ys := by
  apply List.ext_getElem hl
  intro k h1 h2
  have := h k h1
  simpa [nth, List.getD, h1, h2] using this

theorem byt_four (a b c d : Int) (a0 : 0 ≤ a) (a1 : a < 256) (b0 : 0 ≤ b) (b1 : b < 256) (c0 : 0 ≤ c) (c1 : c < 256) (d0 : 0 ≤ d) (d1 : d < 256) :
    byt (a + b * 256 + c * 65536 + d * 16777216) 0 = a ∧ byt (a + b * 256 + c * 65536 + d * 16777216) 1 = b ∧ byt (a + b * 256 + c * 65536 + d * 16777216) 2 = c ∧ byt (a + b * 256 + c * 65536 + d * 16777216) 3 = d := by
  rw [byt0, byt1, byt2, byt3]
  refine ⟨?_, ?_, ?_, ?_⟩ <;> omega

/-- Bytes to words and back. -/
theorem join_split (zs : List Int) (h : zs.length % 4 = 0) (hw : Within 256 zs) : joinL (splitL zs) = zs := by
  apply nth_ext
  · rw [joinL_len, splitL_len]; omega
  intro k hk
  rw [joinL_len, splitL_len] at hk
  rw [joinL_getD _ _ (by rw [splitL_len]; exact hk), nth_splitL _ _ (by omega)]
  have x0 := hw.at (k := 4 * (k / 4)) (by omega)
  have x1 := hw.at (k := 4 * (k / 4) + 1) (by omega)
  have x2 := hw.at (k := 4 * (k / 4) + 2) (by omega)
  have x3 := hw.at (k := 4 * (k / 4) + 3) (by omega)
  have hb := byt_four _ _ _ _ x0.1 x0.2 x1.1 x1.2 x2.1 x2.2 x3.1 x3.2
  unfold wordAt
  rcases (show k % 4 = 0 ∨ k % 4 = 1 ∨ k % 4 = 2 ∨ k % 4 = 3 by omega) with e | e | e | e
  · rw [e, hb.1, show 4 * (k / 4) = k by omega]
  · rw [e, hb.2.1, show 4 * (k / 4) + 1 = k by omega]
  · rw [e, hb.2.2.1, show 4 * (k / 4) + 2 = k by omega]
  · rw [e, hb.2.2.2, show 4 * (k / 4) + 3 = k by omega]

/-- Words to bytes and back. -/
theorem split_join (ys : List Int) (hw : Within 4294967296 ys) : splitL (joinL ys) = ys := by
  have hl : (splitL (joinL ys)).length = ys.length := by rw [splitL_len, joinL_len]; omega
  apply nth_ext hl
  intro k hk
  rw [hl] at hk
  rw [nth_splitL _ _ (by rw [joinL_len]; omega)]
  unfold wordAt
  rw [joinL_getD _ _ (by omega), joinL_getD _ _ (by omega), joinL_getD _ _ (by omega), joinL_getD _ _ (by omega)]
  rw [show 4 * k / 4 = k by omega, show (4 * k + 1) / 4 = k by omega, show (4 * k + 2) / 4 = k by omega, show (4 * k + 3) / 4 = k by omega,
    show 4 * k % 4 = 0 by omega, show (4 * k + 1) % 4 = 1 by omega, show (4 * k + 2) % 4 = 2 by omega, show (4 * k + 3) % 4 = 3 by omega]
  have := hw.at hk
  exact of_byt _ this.1 this.2

theorem joinL_within (zs : List Int) : Within 256 (joinL zs) := by
  intro z hz
  simp only [joinL, List.mem_flatMap] at hz
  obtain ⟨x, _, hz⟩ := hz
  simp only [four, List.mem_cons, List.not_mem_nil, or_false] at hz
  rcases hz with rfl | rfl | rfl | rfl <;> exact ⟨byt_lo _ _, byt_hi _ _⟩

theorem splitL_within (zs : List Int) (hw : Within 256 zs) : Within 4294967296 (splitL zs) := by
  intro z hz
  simp only [splitL, List.mem_map, List.mem_range] at hz
  obtain ⟨k, hk, rfl⟩ := hz
  exact wordAt_bounds zs k hw (by omega)

end Go.Proofs.Ytpggcpnjcalfaaa

/-
  Plain facts: a text's words, with whatever words behind them, are read as the text.
-/
namespace Go.Proofs.Ytpggcpnjcalfaaa
open Go.RowKit

theorem joinL_append (xs ys : List Int) : joinL (xs ++ ys) = joinL xs ++ joinL ys := by simp [joinL]
theorem joinL_textW (s : ByteArray) : joinL (textW s) = padI s := join_split (padI s) (by rw [padI_len]; omega) (padI_within s)
theorem joinL_text_lo (s : ByteArray) (ys : List Int) (i : Nat) (h : i < 4 * (s.size / 4 + 1)) : nth (joinL (textW s ++ ys)) i = nth (padI s) i := by
  rw [joinL_append, joinL_textW, getD_left _ _ _ (by rw [padI_len]; exact h)]
theorem text_take (s : ByteArray) (ys : List Int) : (joinL (textW s ++ ys)).take s.size = strI s := by
  rw [joinL_append, joinL_textW, List.take_append_of_le_length (by rw [padI_len]; omega), padI, filled]
  have e : (strI s).take s.size = strI s := List.take_of_length_le (by rw [strI_len]; omega)
  rw [e, List.take_append_of_le_length (by rw [strI_len]; omega), e]
theorem textW_within (s : ByteArray) : Within 4294967296 (textW s) := splitL_within (padI s) (padI_within s)
theorem within_append {m : Int} {xs ys : List Int} (hx : Within m xs) (hy : Within m ys) : Within m (xs ++ ys) := by
  intro z hz
  rcases List.mem_append.1 hz with h | h
  · exact hx z h
  · exact hy z h
/-- Behind the text's end its word holds nothing. -/
theorem text_rest (s : ByteArray) (ys : List Int) : nth (textW s ++ ys) (s.size / 4) / 256 ^ (s.size % 4) = 0 := by
  have hL : s.size / 4 < (textW s).length := by rw [textW_len]; omega
  have hw := (textW_within s).at hL
  rw [getD_left _ _ _ hL]
  rw [rest_zero _ _ (by omega) hw.1 hw.2]
  intro q hq1 hq2
  have := joinL_getD (textW s) (4 * (s.size / 4) + q) (by rw [textW_len]; omega)
  rw [joinL_textW, show (4 * (s.size / 4) + q) / 4 = s.size / 4 by omega, show (4 * (s.size / 4) + q) % 4 = q by omega] at this
  rw [← this, padI_hi s _ (by omega)]

/-- Is there a byte 0 among the first k? -/
def nulB (s : ByteArray) (k : Nat) : Bool := (List.range k).any fun i => nth (strI s) i == 0
theorem nulB_succ (s : ByteArray) (k : Nat) (h : k < s.size) : nulB s (k + 1) = (nulB s k || ((s[k].toNat : Int) == 0)) := by
  rw [← nth_strI s k h]
  simp [nulB, List.range_succ]
theorem nulB_none (s : ByteArray) (h : NoNul s) : nulB s s.size = false := by
  rw [nulB, List.any_eq_false]
  intro k hk
  have := h k (List.mem_range.1 hk)
  simpa using this
theorem nulB_some (s : ByteArray) (k : Nat) (hk : k < s.size) (h : nth (strI s) k = 0) : nulB s s.size = true := by
  rw [nulB, List.any_eq_true]
  exact ⟨k, List.mem_range.2 hk, by simpa using h⟩

end Go.Proofs.Ytpggcpnjcalfaaa

/-
  Plain facts on modules as words: the first instruction that is wrong, and all instructions' words.
-/
namespace Go.Proofs.Ytpggcpnjcalfaaa
open Go.RowKit
set_option linter.unusedVariables false

/-- The first instruction that is wrong, or that has too many words. -/
def shapeF (b : Int) : Nat → Nat → List InstT → Int × Nat
  | _, _, [] => (0, 0)
  | k, c, x :: l => if rawE x b ≠ 0 then (rawE x b, k) else if 1048576 < c + 1 + (rawWs x b).length then (4, k) else shapeF b (k + 1) (c + 1 + (rawWs x b).length) l
def shapeE (b : Int) (l : List InstT) : Int × Nat := if b = 0 ∨ 65536 < b then (24, 0) else shapeF b 0 5 l
/-- A module's instructions as words. -/
def rawsL (b : Int) (l : List InstT) : List (Int × List Int) := l.map fun x => (x.1, rawWs x b)
/-- What raws answers. -/
def rawsR (b : Int) (l : List InstT) : List (Int × List Int) := if (shapeE b l).1 = 0 then rawsL b l else []

theorem rawsL_len (b : Int) (l : List InstT) : (rawsL b l).length = l.length := by simp [rawsL]
theorem nthR_raws (b : Int) (l : List InstT) (k : Nat) (h : k < l.length) : nthR (rawsL b l) k = ((nthI l k).1, rawWs (nthI l k) b) := by
  rw [nthI_lt _ _ h]; simp [nthR, rawsL, List.getD, h]
theorem rawsL_take (b : Int) (l : List InstT) (k : Nat) (h : k < l.length) : rawsL b (l.take (k + 1)) = rawsL b (l.take k) ++ [((nthI l k).1, rawWs (nthI l k) b)] := by
  unfold rawsL
  rw [List.take_add_one, List.getElem?_eq_getElem h, nthI_lt _ _ h, List.map_append]; rfl
theorem dropI (l : List InstT) (k : Nat) (h : k < l.length) : l.drop k = nthI l k :: l.drop (k + 1) := by
  rw [nthI_lt _ _ h]; exact List.drop_eq_getElem_cons h

theorem shape_end (b : Int) (l : List InstT) (k c : Nat) (h : l.length ≤ k) : shapeF b k c (l.drop k) = (0, 0) := by
  rw [List.drop_eq_nil_of_le h]; rfl
theorem shape_step (b : Int) (l : List InstT) (k : Nat) (h : k < l.length) : shapeF b k (sizeTo (rawsL b l) k) (l.drop k) = if rawE (nthI l k) b ≠ 0 then (rawE (nthI l k) b, k) else if 1048576 < sizeTo (rawsL b l) (k + 1) then (4, k) else shapeF b (k + 1) (sizeTo (rawsL b l) (k + 1)) (l.drop (k + 1)) := by
  rw [dropI l k h, shapeF, sizeTo_succ (rawsL b l) k (by rw [rawsL_len]; exact h), nthR_raws b l k h]
theorem shape_any (b : Int) : ∀ (l : List InstT) (k c : Nat), shapeF b k c l = (0, 0) ∨ (shapeF b k c l).1 ≠ 0
  | [], _, _ => .inl rfl
  | x :: l, k, c => by
    rw [shapeF]
    by_cases h1 : rawE x b ≠ 0
    · rw [if_pos h1]; exact .inr h1
    · rw [if_neg h1]
      split
      · exact .inr (by simp)
      · exact shape_any b l _ _
theorem shapeE_any (b : Int) (l : List InstT) : shapeE b l = (0, 0) ∨ (shapeE b l).1 ≠ 0 := by
  unfold shapeE
  split
  · exact .inr (by decide)
  · exact shape_any b l 0 5

theorem rawWs_ok {x : InstT} {b : Int} (h : rawE x b = 0) : (lookF refT x.1).2 = true ∧ faultI (lookF refT x.1).1 x b = 0 ∧ rawWs x b = rawL (lookF refT x.1).1 x := by
  have h1 := h
  unfold rawE at h1
  by_cases h2 : (lookF refT x.1).2 = true
  · rw [if_pos h2] at h1
    exact ⟨h2, h1, by unfold rawWs; rw [if_pos h]⟩
  · rw [if_neg h2] at h1; cases h1
theorem faultI_zero {f : Frm} {x : InstT} {b : Int} (h : faultI f x b = 0) : idE f.2.1 x.2.1 b 40 = 0 ∧ idE f.2.2.1 x.2.2.1 b 41 = 0 ∧ wrongL f b 0 x.2.2.2 = 0 ∧ wholeN f x.2.2.2.length = true ∧ 1 + (rawL f x).length ≤ 65535 := by
  unfold faultI at h
  by_cases h1 : idE f.2.1 x.2.1 b 40 = 0
  · rw [if_neg (by simp [h1])] at h
    by_cases h2 : idE f.2.2.1 x.2.2.1 b 41 = 0
    · rw [if_neg (by simp [h2])] at h
      by_cases h3 : wrongL f b 0 x.2.2.2 = 0
      · rw [if_neg (by simp [h3])] at h
        by_cases h4 : wholeN f x.2.2.2.length = true
        · rw [if_neg (by simp [h4])] at h
          by_cases h5 : 65535 < 1 + (rawL f x).length
          · rw [if_pos h5] at h; cases h
          · exact ⟨h1, h2, h3, h4, by omega⟩
        · rw [if_pos (by simpa using h4)] at h; cases h
      · rw [if_pos h3] at h; exact absurd h h3
    · rw [if_pos h2] at h; exact absurd h h2
  · rw [if_pos h1] at h; exact absurd h h1
theorem rawWs_len (x : InstT) (b : Int) : (rawWs x b).length < 65535 := by
  by_cases h : rawE x b = 0
  · obtain ⟨_, h2, h3⟩ := rawWs_ok h
    have := (faultI_zero h2).2.2.2.2
    rw [h3]; omega
  · rw [rawWs, if_neg h]; simp

theorem wordsL_within {l : List ArgT} (h : ArgsOk l) : Within 4294967296 (wordsL l) := by
  intro z hz
  obtain ⟨x, hx, hzx⟩ := List.mem_flatMap.1 hz
  obtain ⟨k, hk, rfl⟩ := List.mem_iff_getElem.1 hx
  have ho := h k hk
  rw [nthA_lt _ _ hk] at ho
  unfold wordsA at hzx
  split at hzx
  · exact textW_within _ z hzx
  · rw [List.mem_singleton] at hzx; subst hzx
    exact ⟨ho.2.2.1, ho.2.2.2.1⟩
theorem rawWs_within {x : InstT} (b : Int) (h : InstOk x) : Within 4294967296 (rawWs x b) := by
  unfold rawWs
  split
  · refine within_append ?_ (wordsL_within h.2.2.2.2.2.2.1)
    unfold headW
    refine within_append ?_ ?_
    · split
      · exact within_one h.2.2.1 h.2.2.2.1
      · exact within_nil
    · split
      · exact within_one h.2.2.2.2.1 h.2.2.2.2.2.1
      · exact within_nil
  · exact within_nil
theorem rawsL_ok (b : Int) {l : List InstT} (h : InstsOk l) : RawsOk (rawsL b l) := by
  intro j hj
  rw [rawsL_len] at hj
  rw [nthR_raws b l j hj]
  have ho := h j hj
  refine ⟨ho.1, ho.2.1, rawWs_within b ho, ?_⟩
  have := rawWs_len (nthI l j) b
  simp only
  omega
theorem rawsR_ok (b : Int) {l : List InstT} (h : InstsOk l) : RawsOk (rawsR b l) := by
  unfold rawsR
  split
  · exact rawsL_ok b h
  · intro j hj; simp at hj

theorem fault_shapeF (b : Int) (l : List InstT) : ∀ d k, l.length - k = d → (shapeF b k (sizeTo (rawsL b l) k) (l.drop k)).1 = 0 → fault (rawsL b l) k = (0, 0)
  | 0, k, hd, _ => fault_end _ _ (by rw [rawsL_len]; omega)
  | d + 1, k, hd, h => by
    have hk : k < l.length := by omega
    rw [shape_step b l k hk] at h
    rw [fault_step _ _ (by rw [rawsL_len]; exact hk), nthR_raws b l k hk]
    have hs := rawWs_len (nthI l k) b
    rw [if_neg (by simp only; omega)]
    by_cases h1 : rawE (nthI l k) b ≠ 0
    · rw [if_pos h1] at h; exact absurd h h1
    · rw [if_neg h1] at h
      by_cases h2 : 1048576 < sizeTo (rawsL b l) (k + 1)
      · rw [if_pos h2] at h; cases h
      · rw [if_neg h2] at h ⊢
        exact fault_shapeF b l d (k + 1) (by omega) h
theorem fault_shape {b : Int} {l : List InstT} (h : (shapeE b l).1 = 0) : fault (rawsL b l) 0 = (0, 0) := by
  unfold shapeE at h
  by_cases h1 : b = 0 ∨ 65536 < b
  · rw [if_pos h1] at h; cases h
  · rw [if_neg h1] at h
    exact fault_shapeF b l _ 0 rfl h
theorem shape_bound {b : Int} {l : List InstT} (h : (shapeE b l).1 = 0) : ¬ b = 0 ∧ ¬ 65536 < b := by
  unfold shapeE at h
  by_cases h1 : b = 0 ∨ 65536 < b
  · rw [if_pos h1] at h; cases h
  · exact ⟨fun h => h1 (.inl h), fun h => h1 (.inr h)⟩
theorem shape_each {b : Int} {l : List InstT} (h : (shapeE b l).1 = 0) (k : Nat) (hk : k < l.length) : rawE (nthI l k) b = 0 := by
  have key : ∀ (l : List InstT) (i c k : Nat), (shapeF b i c l).1 = 0 → k < l.length → rawE (nthI l k) b = 0 := by
    intro l
    induction l with
    | nil => intro i c k _ hk; simp at hk
    | cons x l ih =>
      intro i c k h hk
      rw [shapeF] at h
      by_cases h1 : rawE x b ≠ 0
      · rw [if_pos h1] at h; exact absurd h h1
      · rw [if_neg h1] at h
        cases k with
        | zero => exact Classical.not_not.1 h1
        | succ k =>
          split at h
          · cases h
          · exact ih _ _ k h (by simpa using hk)
  unfold shapeE at h
  by_cases h1 : b = 0 ∨ 65536 < b
  · rw [if_pos h1] at h; cases h
  · rw [if_neg h1] at h
    exact key l 0 5 k h hk
theorem sizeTo_ge (rs : List (Int × List Int)) : ∀ k, k ≤ rs.length → 5 + k ≤ sizeTo rs k
  | 0, _ => by rw [sizeTo_zero]; omega
  | k + 1, h => by rw [sizeTo_succ rs k (by omega)]; have := sizeTo_ge rs k (by omega); omega
/-- A module of good shape has few instructions. -/
theorem shape_few {b : Int} {l : List InstT} (h : (shapeE b l).1 = 0) : l.length ≤ 1048576 ∧ sizeTo (rawsL b l) l.length ≤ 1048576 := by
  have h1 := fault_none (rawsL b l) (by rw [fault_shape h]) l.length (by rw [rawsL_len]; exact Nat.le_refl _)
  have := sizeTo_ge (rawsL b l) l.length (by rw [rawsL_len]; exact Nat.le_refl _)
  omega

end Go.Proofs.Ytpggcpnjcalfaaa

/-
  What Read answers lies within its bounds.
-/
namespace Go.Proofs.Ytpggcpnjcalfaaa
open Go.RowKit

theorem nthR_map (l : List Nat) (f : Nat → Int × List Int) (j : Nat) (h : j < l.length) : nthR (l.map f) j = f (l.getD j 0) := by
  simp [nthR, List.getD, h]

theorem readL_small (zs : List Int) (h : readL zs ≠ []) : zs.length ≤ 1048576 := by
  by_cases h1 : 1048576 < zs.length
  · exfalso; apply h; unfold readL readE; rw [if_pos h1]; simp
  · omega

theorem readR_each (zs : List Int) (hw : Within 4294967296 zs) (j : Nat) (hj : j < (readR zs).length) : 0 ≤ (nthR (readR zs) j).1 ∧ (nthR (readR zs) j).1 < 65536 ∧ Within 4294967296 (nthR (readR zs) j).2 ∧ (nthR (readR zs) j).2.length ≤ zs.length := by
  have hj' : j < (rest zs 5).length := by simpa [readR] using hj
  unfold readR
  rw [nthR_map _ _ _ hj']
  obtain ⟨_, h2, h3⟩ := rest_mem zs 5 ((rest zs 5).getD j 0) (by simp [List.getD, hj'])
  refine ⟨opI_lo _ _, opI_hi _ _, fun z hz => hw z ?_, ?_⟩
  · exact List.mem_of_mem_drop (List.mem_of_mem_take hz)
  · show (midL _ _ _).length ≤ _
    unfold midL
    rw [List.length_take, List.length_drop]; omega

theorem readL_each (zs : List Int) (hw : Within 4294967296 zs) (j : Nat) (hj : j < (readL zs).length) : 0 ≤ (nthR (readL zs) j).1 ∧ (nthR (readL zs) j).1 < 65536 ∧ Within 4294967296 (nthR (readL zs) j).2 ∧ (nthR (readL zs) j).2.length ≤ zs.length := by
  unfold readL at hj ⊢
  by_cases h : (readE zs).1 = 0
  · rw [if_pos h] at hj ⊢; exact readR_each zs hw j hj
  · rw [if_neg h] at hj; simp at hj

theorem readL_ok (zs : List Int) (hw : Within 4294967296 zs) (hn : 4 * zs.length ≤ 140737488351232) : RawsOk (readL zs) := fun j hj => by
  obtain ⟨h1, h2, h3, h4⟩ := readL_each zs hw j hj
  exact ⟨h1, h2, h3, by omega⟩
theorem readL_sm (zs : List Int) (hw : Within 4294967296 zs) (j : Nat) (hj : j < (readL zs).length) : (nthR (readL zs) j).2.length ≤ 1048576 := by
  have h := readL_small zs (fun e => by rw [e] at hj; simp at hj)
  have := (readL_each zs hw j hj).2.2.2
  omega
theorem readL_len (zs : List Int) : (readL zs).length ≤ zs.length := by
  unfold readL
  split
  · have := rest_len zs 5; simp [readR]; omega
  · simp

end Go.Proofs.Ytpggcpnjcalfaaa

/-
  What is written is read as it was, and what is read is written as it was: on lists.
-/
namespace Go.Proofs.Ytpggcpnjcalfaaa
open Go.RowKit

theorem nth_app_lo (xs ys : List Int) (k : Nat) (h : k < xs.length) : nth (xs ++ ys) k = nth xs k := getD_left xs ys k h
theorem nth_app_hi (xs ys : List Int) (k : Nat) : nth (xs ++ ys) (xs.length + k) = nth ys k := by
  rw [getD_right _ _ _ (by omega)]; congr 1; omega

/-- The words from the k-th instruction on. -/
theorem writeTo_split (gen bound : Int) (rs : List (Int × List Int)) (k : Nat) : writeTo gen bound rs rs.length = writeTo gen bound rs k ++ (rs.drop k).flatMap rawW := by
  unfold writeTo
  rw [List.take_length, List.append_assoc, ← List.flatMap_append, List.take_append_drop]

theorem drop_cons (rs : List (Int × List Int)) (k : Nat) (h : k < rs.length) : rs.drop k = nthR rs k :: rs.drop (k + 1) := by
  rw [List.drop_eq_getElem_cons h]; simp [nthR, List.getD, h]

theorem rest_write (gen bound : Int) (rs : List (Int × List Int)) (hok : RawsOk rs) (hsm : ∀ j, j < rs.length → (nthR rs j).2.length < 65535) :
    ∀ d k, rs.length - k = d → k ≤ rs.length → (rest (writeTo gen bound rs rs.length) (sizeTo rs k)).map (rawAt (writeTo gen bound rs rs.length)) = rs.drop k ∧ stop (writeTo gen bound rs rs.length) (sizeTo rs k) = (writeTo gen bound rs rs.length).length := by
  intro d
  induction d with
  | zero =>
    intro k hd hk
    obtain rfl : k = rs.length := by omega
    have hl := writeTo_len gen bound rs rs.length (Nat.le_refl _)
    rw [rest_end _ _ (by omega), stop_end _ _ (by omega), List.drop_length]
    exact ⟨rfl, hl.symm⟩
  | succ d ih =>
    intro k hd hk
    have hkl : k < rs.length := by omega
    obtain ⟨o1, o2, o3, _⟩ := hok k hkl
    have hs := hsm k hkl
    have hlk := writeTo_len gen bound rs k hk
    have hln := writeTo_len gen bound rs rs.length (Nat.le_refl _)
    have hsp := writeTo_split gen bound rs k
    rw [drop_cons rs k hkl, List.flatMap_cons] at hsp
    generalize hw : writeTo gen bound rs rs.length = ws at *
    have hzl : ws.length = sizeTo rs k + (1 + (nthR rs k).2.length + ((rs.drop (k + 1)).flatMap rawW).length) := by
      rw [hsp, List.length_append, List.length_append, hlk]; simp [rawW]; omega
    have hx : nth ws (sizeTo rs k) = ((nthR rs k).2.length + 1 : Int) * 65536 + (nthR rs k).1 := by
      have h0 := nth_app_hi (writeTo gen bound rs k) (rawW (nthR rs k) ++ (rs.drop (k + 1)).flatMap rawW) 0
      rw [← hsp, hlk] at h0
      exact h0
    have hc : cntN ws (sizeTo rs k) = (nthR rs k).2.length + 1 := by unfold cntN; rw [hx]; omega
    have ho : opI ws (sizeTo rs k) = (nthR rs k).1 := by unfold opI; rw [hx]; omega
    have hb : badB ws (sizeTo rs k) = false := badB_false (fun h => by
      unfold badAt at h
      rw [hc] at h
      omega)
    have hm : midL ws (sizeTo rs k + 1) (cntN ws (sizeTo rs k) - 1) = (nthR rs k).2 := by
      rw [hc, hsp, midL, ← hlk]
      have : (writeTo gen bound rs k ++ (rawW (nthR rs k) ++ (rs.drop (k + 1)).flatMap rawW)) = (writeTo gen bound rs k ++ [((nthR rs k).2.length + 1 : Int) * 65536 + (nthR rs k).1]) ++ ((nthR rs k).2 ++ (rs.drop (k + 1)).flatMap rawW) := by simp [rawW]
      rw [this, List.drop_left' (by simp), Nat.add_sub_cancel, List.take_left' rfl]
    have hnx : sizeTo rs k + cntN ws (sizeTo rs k) = sizeTo rs (k + 1) := by rw [hc, sizeTo_succ rs k hkl]; omega
    obtain ⟨i1, i2⟩ := ih (k + 1) (by omega) (by omega)
    rw [rest_go ws _ (by omega) hb, stop_go ws _ (by omega) hb, hnx, List.map_cons, i1, i2, drop_cons rs k hkl]
    refine ⟨?_, rfl⟩
    congr 1
    unfold rawAt
    rw [ho, hm]

theorem headE_write (gen bound : Int) (ys : List Int) (hb1 : ¬ bound = 0) (hb2 : ¬ 65536 < bound) : headE ([119734787, 65536, gen, bound, 0] ++ ys) 0 = (0, 0) := by
  have hl : 5 ≤ ([119734787, 65536, gen, bound, 0] ++ ys).length := by simp
  rw [headE_step _ 0 (by omega), if_neg (by omega), if_neg (by simp [nth, wrongE]), headE_step _ 1 (by omega), if_neg (by omega), if_neg (by simp [nth, wrongE]), headE_step _ 2 (by omega), if_neg (by omega), if_neg (by simp [wrongE]),
    headE_step _ 3 (by omega), if_neg (by omega), if_neg (by simp [nth, wrongE, hb1, hb2]), headE_step _ 4 (by omega), if_neg (by omega), if_neg (by simp [nth, wrongE])]
  exact headE_end _

theorem writeTo_within (gen bound : Int) (hg0 : 0 ≤ gen) (hg1 : gen < 4294967296) (hb0 : 0 ≤ bound) (hb1 : bound < 4294967296) (rs : List (Int × List Int)) (hok : RawsOk rs) (hsm : ∀ j, j < rs.length → (nthR rs j).2.length < 65535) : Within 4294967296 (writeTo gen bound rs rs.length) := by
  intro z hz
  unfold writeTo at hz
  rw [List.take_length, List.mem_append] at hz
  rcases hz with hz | hz
  · simp at hz; omega
  · obtain ⟨r, hr, hz⟩ := List.mem_flatMap.1 hz
    obtain ⟨j, hj, rfl⟩ := List.mem_iff_getElem.1 hr
    have e : nthR rs j = rs[j] := by simp [nthR, List.getD, hj]
    obtain ⟨o1, o2, o3, _⟩ := hok j hj
    have h1 := hsm j hj
    rw [e] at o1 o2 o3 h1
    simp only [rawW, List.mem_cons] at hz
    rcases hz with rfl | hz
    · constructor <;> omega
    · exact o3 z hz

/-- Read of what Write answers. -/
theorem read_write (gen bound : Int) (rs : List (Int × List Int)) (hok : RawsOk rs) (hz : fault rs 0 = (0, 0)) (hb1 : ¬ bound = 0) (hb2 : ¬ 65536 < bound) :
    readE (writeTo gen bound rs rs.length) = (0, 0) ∧ readL (writeTo gen bound rs rs.length) = rs ∧ readAt (writeTo gen bound rs rs.length) 2 = gen ∧ readAt (writeTo gen bound rs rs.length) 3 = bound := by
  have hn := fault_none rs (by rw [hz])
  have hlen := writeTo_len gen bound rs rs.length (Nat.le_refl _)
  obtain ⟨h1, h2⟩ := rest_write gen bound rs hok (fun j hj => (hn rs.length (Nat.le_refl _)).2 j hj) rs.length 0 rfl (by omega)
  rw [sizeTo_zero] at h1 h2
  rw [List.drop_zero] at h1
  have hh : headE (writeTo gen bound rs rs.length) 0 = (0, 0) := headE_write gen bound _ hb1 hb2
  have he : readE (writeTo gen bound rs rs.length) = (0, 0) := by
    unfold readE
    rw [if_neg (by have := (hn rs.length (Nat.le_refl _)).1; omega), hh, if_neg (by simp), if_neg (by omega)]
  refine ⟨he, ?_, ?_, ?_⟩
  · unfold readL; rw [he, if_pos rfl]; exact h1
  · unfold readAt; rw [he, if_pos rfl]; rfl
  · unfold readAt; rw [he, if_pos rfl]; rfl

end Go.Proofs.Ytpggcpnjcalfaaa

/-
  What raws of the package code answers: a module's instructions as words, or the first that is wrong.
-/
namespace Go.Proofs.Ytpggcpnjcalfaaa
open Go.RowKit
set_option linter.unusedVariables false
set_option linter.unusedSimpArgs false
set_option maxRecDepth 10000

set_option maxHeartbeats 2000000 in
/-- Of a bound that may not be. -/
theorem raws_bad (gen bound : Int) (a : Option Addr) (n cap : Nat) (l : List InstT) (w : World) (hg0 : 0 ≤ gen) (hg1 : gen < 4294967296) (hb0 : 0 ≤ bound) (hb1 : bound < 4294967296) (hv : InstsV w a l) (hok : InstsOk l) (hl : l.length = n) (hn : 40 * n ≤ 140737488351232) (h1 : bound = 0 ∨ 65536 < bound) :
    Calls Try.prog 36 #[modV gen bound a n cap] w fun e w' => Below w.heap.size w w' ∧ ∃ ax cx m, e = .returned (.tuple #[.slice ax m cx, .agg #[.int .i64 (shapeE bound l).1, .int .i64 (shapeE bound l).2]]) ∧ (rawsR bound l).length = m ∧ m ≤ cx ∧ RawsV w' ax (rawsR bound l) := by
  have hH := fun w => headOf_any gen bound a n cap w
  have hW := fun w => writeC gen bound none 0 0 [] w hg0 hg1 hb0 hb1 rawsV_nil (fun j hj => by simp at hj) rfl (by omega) (by omega)
  unfold modV at hH ⊢
  have HL : Hid (l.length = n) := hl
  have e1 : writeE bound [] = (24, 0) := by unfold writeE; rw [if_pos h1]
  have e2 : shapeE bound l = (24, 0) := by unfold shapeE; rw [if_pos h1]
  have e3 : rawsR bound l = [] := by unfold rawsR; rw [e2]; rfl
  rw [e1] at hW
  rw [e2, e3]
  clear e1 e2 e3 h1 hv hok hl
  go_enter Try.func36, Try.ntmps36
  go_wp2_with fail
  have hB0 : Below w.heap.size w ((w.alloc (.cells #[.int .u32 gen, .int .u32 bound, .slice a n cap] 45)).alloc (.cells #[.int .i64 0, .int .i64 0] 47)) := ((Below.refl _ w).alloc (Nat.le_refl _) _).alloc (by simp) _
  have kX : ((w.alloc (.cells #[.int .u32 gen, .int .u32 bound, .slice a n cap] 45)).alloc (.cells #[.int .i64 0, .int .i64 0] 47)).heap[w.heap.size + 1]? = some (.cells #[.int .i64 0, .int .i64 0] 47 (0, 0)) := by simpa using alloc_new (w.alloc (.cells #[.int .u32 gen, .int .u32 bound, .slice a n cap] 45)) #[.int .i64 0, .int .i64 0] 47
  generalize (w.alloc (.cells #[.int .u32 gen, .int .u32 bound, .slice a n cap] 45)).alloc (.cells #[.int .i64 0, .int .i64 0] 47) = W0 at *
  have l0 := (Array.getElem?_eq_some_iff.1 kX).1
  refine (hH _).mono ?_
  rintro e w1 ⟨rfl, hb1'⟩
  have s1 := hb1'.size
  go_wp2_with fail
  refine (hW _).mono ?_
  rintro e w2 ⟨hb2, ax, cx, m, rfl, hm, hown⟩
  have s2 := hb2.size
  have hb3 : Below w2.heap.size w2 (w2.alloc (.cells #[.int .i64 24, .int .i64 0] 47)) := (Below.refl _ _).alloc (Nat.le_refl _) _
  have hbA := hb1'.trans ((hb2.trans (hb3.mono s2)).mono s1)
  have kX3 := (hbA.block _ l0).trans kX
  have kS := alloc_new w2 #[.int .i64 24, .int .i64 0] 47
  have hbW := hB0.trans (hbA.mono hB0.size)
  obtain ⟨c0, c1, _⟩ := cell_of_two kX3
  have f0 := (one_block kX3).2 0
  have f1 := (one_block kX3).2 1
  obtain ⟨d0, d1, _⟩ := cell_of_two kS
  have hne : w2.heap.size ≠ w.heap.size + 1 := by omega
  clear hb1' hb2 hb3 hbA hown hm hH hW
  have hz : ((0 : Nat) : Int) = 0 := rfl
  go_wp2
  go_region
  go_wp2
  have hB := two_put2 kX3 (.int .i64 24) (.int .i64 0)
  have hBel := (hbW.trans ((two_below (w2.alloc (.cells #[.int .i64 24, .int .i64 0] 47)) (w.heap.size + 1) (.int .i64 24) (.int .i64 0)).mono (by omega))).drew
  have hB' : ((((w2.alloc (.cells #[.int .i64 24, .int .i64 0] 47)).setCell ⟨w.heap.size + 1, 0, none⟩ (.int .i64 24)).setCell ⟨w.heap.size + 1, 1, none⟩ (.int .i64 0)).drew).heap[w.heap.size + 1]? = some (.cells #[.int .i64 24, .int .i64 0] 47 (0, 0)) := hB
  clear c0 c1 f0 f1 d0 d1 kX3 kS hB
  generalize (((w2.alloc (.cells #[.int .i64 24, .int .i64 0] 47)).setCell ⟨w.heap.size + 1, 0, none⟩ (.int .i64 24)).setCell ⟨w.heap.size + 1, 1, none⟩ (.int .i64 0)).drew = WF at hB' hBel ⊢
  obtain ⟨g0, g1, _⟩ := cell_of_two hB'
  refine bodyPost_ret (v := .tuple #[.slice none 0 0, .agg #[.int .i64 24, .int .i64 0]]) ?_ rfl ⟨hBel, none, 0, 0, rfl, rfl, Nat.le_refl _, rawsV_nil⟩
  simp [results, Try.results36, go_sem, g0, g1]

theorem Raws.info : (Try.prog.info? 25).map (fun i => (i.zero, i.size, i.bytes)) = some (some (.agg #[.int .u16 0, .slice none 0 0]), 2, 32) := by kernel_rfl

/-- A module's words while they are gathered. -/
structure RawsS (w wr : World) (gen bound : Int) (a : Option Addr) (n cap : Nat) (v : Value) (rs : List (Int × List Int)) : Prop where
  row : ∃ cs, wr.ownsRow (w.heap.size + 2) 25 2 v rs.length cs ∧ RowO wr (w.heap.size + 2) v.ownBlock rs cs
  mbox : wr.heap[w.heap.size]? = some (.cells #[.int .u32 gen, .int .u32 bound, .slice a n cap] 45 (0, 0))
  sbox : wr.heap[w.heap.size + 1]? = some (.cells #[.int .i64 0, .int .i64 0] 47 (0, 0))
  bel : Below w.heap.size w wr

theorem RawsS.below {w wr wr' : World} {gen bound : Int} {a : Option Addr} {n cap : Nat} {v : Value} {rs : List (Int × List Int)} (h : RawsS w wr gen bound a n cap v rs) (hb : Below wr.heap.size wr wr') : RawsS w wr' gen bound a n cap v rs := by
  obtain ⟨cs, h1, h2⟩ := h.row
  exact ⟨⟨cs, own_below h1 hb, h2.below hb⟩, (hb.block _ (Array.getElem?_eq_some_iff.1 h.mbox).1).trans h.mbox, (hb.block _ (Array.getElem?_eq_some_iff.1 h.sbox).1).trans h.sbox, h.bel.trans (hb.mono h.bel.size)⟩
theorem RawsS.push {w wr W w6 : World} {gen bound : Int} {a : Option Addr} {n cap : Nat} {v v' : Value} {rs : List (Int × List Int)} {cs : List Value} {op : Int} {ms : List Int} {aj : Option Addr} {nj cj g' : Nat} (h : RawsS w wr gen bound a n cap v rs) (h1 : wr.ownsRow (w.heap.size + 2) 25 2 v rs.length cs) (h2 : RowO wr (w.heap.size + 2) v.ownBlock rs cs)
    (hb : Below wr.heap.size wr W) (hs : W.ownsRow wr.heap.size 26 1 (.slice aj nj cj) nj (ms.map (Value.int .u32))) (hl : ms.length = nj) (hg : W.grownBy w6 v.ownBlock) (hat : v.ownBlock = some g' ∨ g' = W.heap.size) (hv' : v'.ownBlock = some g')
    (hown : w6.ownsRow (w.heap.size + 2) 25 2 v' (rs.length + 1) (cs ++ [.int .u16 op, .slice aj nj cj])) : RawsS w w6 gen bound a n cap v' (rs ++ [(op, ms)]) := by
  have hlo : ∀ g, v.ownBlock = some g → w.heap.size + 2 ≤ g ∧ g < wr.heap.size := fun g e => h1.lt g e
  have hl1 := (Array.getElem?_eq_some_iff.1 h.sbox).1
  have hS := h.below hb
  have hl2 := (Array.getElem?_eq_some_iff.1 hS.sbox).1
  refine ⟨⟨_, by rw [List.length_append]; exact hown, by rw [hv']; exact h2.push hb hs hl (fun b e => (hlo b e).2) (by omega) hg hat⟩, ?_, ?_, ?_⟩
  · exact (hg.block _ (by omega) (fun e => by have := (hlo _ e.symm).1; omega)).trans hS.mbox
  · exact (hg.block _ hl2 (fun e => by have := (hlo _ e.symm).1; omega)).trans hS.sbox
  · exact hS.bel.grown hg hS.bel.size (fun k e => by have := (hlo k e).1; omega)

theorem spot_store {w wr : World} {gen bound : Int} {a : Option Addr} {n cap : Nat} {v : Value} {rs : List (Int × List Int)} (h : RawsS w wr gen bound a n cap v rs) : wr.cell? ⟨w.heap.size + 1, 0, none⟩ = some (.int .i64 0) ∧ wr.cell? ⟨w.heap.size + 1, 1, none⟩ = some (.int .i64 0) ∧ wr.frozen? ⟨w.heap.size + 1, 0, none⟩ = false ∧ wr.frozen? ⟨w.heap.size + 1, 1, none⟩ = false := by
  obtain ⟨hc, hf⟩ := one_block h.sbox
  exact ⟨hc 0, hc 1, hf 0, hf 1⟩

set_option maxHeartbeats 4000000 in
/-- Of a bound that may be. -/
theorem raws_ok (gen bound : Int) (a : Option Addr) (n cap : Nat) (l : List InstT) (w : World) (hg0 : 0 ≤ gen) (hg1 : gen < 4294967296) (hb0 : 0 ≤ bound) (hb1 : bound < 4294967296) (hv : InstsV w a l) (hok : InstsOk l) (hl : l.length = n) (hn : 40 * n ≤ 140737488351232) (h1 : ¬ (bound = 0 ∨ 65536 < bound)) :
    Calls Try.prog 36 #[modV gen bound a n cap] w fun e w' => Below w.heap.size w w' ∧ ∃ ax cx m, e = .returned (.tuple #[.slice ax m cx, .agg #[.int .i64 (shapeE bound l).1, .int .i64 (shapeE bound l).2]]) ∧ (rawsR bound l).length = m ∧ m ≤ cx ∧ RawsV w' ax (rawsR bound l) := by
  obtain ⟨i0, hi, hz0, hz1, hz2⟩ := info_parts Raws.info
  have HI : Hid (Try.prog.info? 25 = some i0 ∧ i0.zero = some (.agg #[.int .u16 0, .slice none 0 0]) ∧ i0.size = 2 ∧ i0.bytes = 32) := ⟨hi, hz0, hz1, hz2⟩
  clear hi hz0 hz1 hz2
  have hH := fun w => headOf_any gen bound a n cap w
  have hW := fun w => writeC gen bound none 0 0 [] w hg0 hg1 hb0 hb1 rawsV_nil (fun j hj => by simp at hj) rfl (by omega) (by omega)
  unfold modV at hH ⊢
  have HL : Hid (l.length = n) := hl
  have e1 : writeE bound [] = (0, 0) := by unfold writeE; rw [if_neg h1]; rfl
  have e2 : writeL gen bound [] = [119734787, 65536, gen, bound, 0] := by unfold writeL; rw [e1]; rfl
  rw [e1, e2] at hW
  have HE : Hid (shapeE bound l = shapeF bound 0 5 l) := by show _ = _; unfold shapeE; rw [if_neg h1]
  have HV : Hid (InstsV w a l) := hv
  have HOK : Hid (InstsOk l) := hok
  clear e1 e2 h1 hv hok hl
  obtain ⟨E, hE⟩ : ∃ E, E = shapeE bound l := ⟨_, rfl⟩
  obtain ⟨RR, hRR⟩ : ∃ RR, RR = rawsR bound l := ⟨_, rfl⟩
  rw [← hE, ← hRR]
  have HEE : Hid (E = shapeE bound l) := hE
  have HRR : Hid (RR = rawsR bound l) := hRR
  clear hE hRR
  go_enter Try.func36, Try.ntmps36
  go_wp2_with fail
  have hB0 : Below w.heap.size w ((w.alloc (.cells #[.int .u32 gen, .int .u32 bound, .slice a n cap] 45)).alloc (.cells #[.int .i64 0, .int .i64 0] 47)) := ((Below.refl _ w).alloc (Nat.le_refl _) _).alloc (by simp) _
  have hS0 : RawsS w ((w.alloc (.cells #[.int .u32 gen, .int .u32 bound, .slice a n cap] 45)).alloc (.cells #[.int .i64 0, .int .i64 0] 47)) gen bound a n cap (.slice none 0 0) [] :=
    ⟨⟨[], World.ownsRow_nil _ _ _ _, rowO_nil⟩, (Below.heap_alloc _ _ _ (by simp)).trans (alloc_new w _ _), by simpa using alloc_new (w.alloc (.cells #[.int .u32 gen, .int .u32 bound, .slice a n cap] 45)) #[.int .i64 0, .int .i64 0] 47, hB0⟩
  clear hB0
  generalize (w.alloc (.cells #[.int .u32 gen, .int .u32 bound, .slice a n cap] 45)).alloc (.cells #[.int .i64 0, .int .i64 0] 47) = W0 at *
  refine (hH _).mono ?_
  rintro e w1 ⟨rfl, hb1'⟩
  have hS1 := hS0.below hb1'
  clear hS0 hb1' hH
  go_wp2_with fail
  refine (hW _).mono ?_
  rintro e w2 ⟨hb2, ax, cx, m, rfl, hm, hown⟩
  obtain rfl : 5 = m := hm
  have hS2 := hS1.below hb2
  have hS3 := hS2.below ((Below.refl _ w2).alloc (Nat.le_refl _) (.cells #[.int .i64 0, .int .i64 0] 47))
  obtain ⟨d0, d1, _⟩ := cell_of_two (alloc_new w2 #[.int .i64 0, .int .i64 0] 47)
  have m2 := (one_block hS3.mbox).1 2
  have HS3 : Hid _ := hS3
  clear hS1 hb2 hS2 hS3 hown hW
  go_wp2
  go_loopw [6, 7, 27] (fun c v i wr => ∃ k : Nat, k ≤ n ∧ i = .int .i64 k ∧ c = .int .i64 (sizeTo (rawsL bound l) k) ∧ sizeTo (rawsL bound l) k ≤ 1048576 ∧ E = shapeF bound k (sizeTo (rawsL bound l) k) (l.drop k) ∧ RawsS w wr gen bound a n cap v (rawsL bound (l.take k))) (fun _ _ i _ => n - (intOf i).toNat)
  case atStart => exact ⟨0, Nat.zero_le _, rfl, rfl, by rw [sizeTo_zero]; decide, by rw [HEE.out, HE.out, sizeTo_zero]; rfl, HS3.out⟩
  case round =>
    obtain ⟨k, hk, rfl, rfl, hsz, hEk, hS⟩ := hrel
    clear HS3 d0 d1 m2 HE
    have HEK : Hid (E = shapeF bound k (sizeTo (rawsL bound l) k) (l.drop k)) := hEk
    clear hEk
    have hA := HV.out.below hS.bel
    obtain ⟨a', cap', rfl⟩ : ∃ a cap, u7 = .slice a (rawsL bound (l.take k)).length cap := by
      obtain ⟨cs, h1, _⟩ := hS.row
      rcases h1.2 with ⟨rfl, h0⟩ | ⟨g, cap, cur, rfl, _⟩
      · exact ⟨none, 0, by rw [h0]⟩
      · exact ⟨_, _, rfl⟩
    have hlk : (rawsL bound (l.take k)).length = k := by rw [rawsL_len, List.length_take, HL.out]; omega
    rw [hlk] at hS ⊢
    by_cases hlt : k < n
    · have hkl : k < l.length := by rw [HL.out]; exact hlt
      obtain ⟨b1, o1, aj, cj, nj, rfl, hbl, p1, p2, p3, p4, p5, p6, p7⟩ := hA k hkl
      have hEs := shape_step bound l k hkl
      have hss := sizeTo_succ (rawsL bound l) k (by rw [rawsL_len]; exact hkl)
      rw [nthR_raws bound l k hkl] at hss
      have htk := rawsL_take bound l k hkl
      have hRn := HRR.out
      have hox := HOK.out k hkl
      have hRaw := fun wx (hx : Below wr.heap.size wr wx) => raw_any (nthI l k) bound aj nj cj wx (p6.below hx) hox p5
      have hEk := HEK.out
      rw [hEs] at hEk
      have HEK2 : Hid _ := hEk
      have HSS : Hid _ := hss
      have HTK : Hid _ := htk
      have hro : rawE (nthI l k) bound = 0 → rawO (nthI l k) bound = (nthI l k).1 := fun h => by unfold rawO; rw [if_pos h]
      clear hEs hss htk HEK hEk hRn hA p6 hox
      generalize hx : nthI l k = x at *
      have hki : (k : Int) < (n : Int) := by omega
      have hk0 : (0 : Int) ≤ (k : Int) := by omega
      obtain ⟨xo, xt, xr, xl⟩ := x
      unfold instV at hRaw
      simp only at *
      have mb := (one_block (hS.below ((Below.refl _ wr).alloc (Nat.le_refl _) (.cells #[.int .u16 xo, .int .u32 xt, .int .u32 xr, .slice aj nj cj] 29))).mbox).1 1
      have hbA : Below wr.heap.size wr (wr.alloc (.cells #[.int .u16 xo, .int .u32 xt, .int .u32 xr, .slice aj nj cj] 29)) := (Below.refl _ wr).alloc (Nat.le_refl _) _
      have hC := hRaw _ hbA
      go_wp2_with fail
      generalize wr.alloc (.cells #[.int .u16 xo, .int .u32 xt, .int .u32 xr, .slice aj nj cj] 29) = WA at *
      refine hC.mono ?_
      rintro e w5 ⟨hb5, a5, m5, c5, rfl, hm5, hown5⟩
      have hbB : Below wr.heap.size wr w5 := hbA.trans (hb5.mono hbA.size)
      have hS5 := hS.below hbB
      have hown5' := own_lo hown5 hbA.size
      clear hC hRaw hb5 hbA mb p1 p2 p3 p4 hown5
      have HM5 : Hid _ := hm5
      by_cases hr : rawE (xo, xt, xr, xl) bound = 0
      · have hro' := hro hr
        rw [hr, hro']
        have hEk := HEK2.out
        rw [if_neg (by simp [hr])] at hEk
        have HEK3 : Hid _ := hEk
        clear hro hro' hEk HEK2
        have hbC : Below wr.heap.size wr (w5.alloc (.cells #[.int .u16 xo, .slice a5 m5 c5] 25)) := hbB.alloc hbB.size _
        obtain ⟨q0, q1, _⟩ := cell_of_two (alloc_new w5 #[.int .u16 xo, .slice a5 m5 c5] 25)
        have hss : (sizeTo (rawsL bound l) (k + 1) : Nat) = sizeTo (rawsL bound l) k + 1 + m5 := by rw [HSS.out, HM5.out]
        have hm5b : m5 < 65535 := by rw [← HM5.out]; exact rawWs_len _ _
        by_cases hbig : 1048576 < sizeTo (rawsL bound l) (k + 1)
        · have hE4 : E = (4, k) := by rw [HEK3.out, if_pos hbig]
          have hbig' : (1048576 : Int) < (sizeTo (rawsL bound l) k : Int) + (1 + (m5 : Int)) := by omega
          generalize sizeTo (rawsL bound l) k = sz at *
          clear hbC hbig hss HEK3 HSS HTK hr HM5 hm5
          have hR : RR = [] := by rw [HRR.out, rawsR, ← HEE.out, hE4, if_neg (by first | exact hr | simp)]
          subst hR hE4
          have hS6 := hS5.below ((Below.refl _ w5).alloc (Nat.le_refl _) (.cells #[.int .u16 xo, .slice a5 m5 c5] 25))
          obtain ⟨s0, s1, f0, f1⟩ := spot_store hS6
          have hB3 := two_put2 hS6.sbox (.int .i64 4) (.int .i64 (k : Int))
          have hBel := hS6.bel.trans ((two_below (w5.alloc (.cells #[.int .u16 xo, .slice a5 m5 c5] 25)) (w.heap.size + 1) (.int .i64 4) (.int .i64 (k : Int))).mono (by omega))
          have HB3 : Hid _ := hB3
          have HBel : Hid _ := hBel
          clear hS6 hS5 hS hbB hown5' hB3 hBel HRR HEE HV HOK
          go_wp2
          have hB3 := HB3.out
          have hBel := HBel.out
          clear HB3 HBel s0 s1 f0 f1
          generalize ((w5.alloc _).setCell _ _).setCell _ _ = W at hB3 hBel ⊢
          obtain ⟨hd, _⟩ := one_block hB3
          have d0 := hd 0
          have d1 := hd 1
          refine bodyPost_ret (v := .tuple #[.slice none 0 0, .agg #[.int .i64 4, .int .i64 (k : Int)]]) ?_ rfl ⟨hBel, none, 0, 0, rfl, rfl, Nat.le_refl _, rawsV_nil⟩
          simp [results, Try.results36, go_sem, d0, d1]
        · have hE5 : E = shapeF bound (k + 1) (sizeTo (rawsL bound l) (k + 1)) (l.drop (k + 1)) := by rw [HEK3.out, if_neg hbig]
          have HE5 : Hid _ := hE5
          have hbig' : ¬ (1048576 : Int) < (sizeTo (rawsL bound l) k : Int) + (1 + (m5 : Int)) := by omega
          have HBG : Hid (sizeTo (rawsL bound l) (k + 1) ≤ 1048576) := by show _ ≤ _; omega
          have HSK : Hid ((sizeTo (rawsL bound l) k : Int) + (1 + (m5 : Int)) = (sizeTo (rawsL bound l) (k + 1) : Nat)) := by show _ = _; omega
          obtain ⟨cs, hc1, hc2⟩ := hS.row
          have N0 : Below wr.heap.size wr ((w5.alloc (.cells #[.int .u16 xo, .slice a5 m5 c5] 25)).alloc (.cells #[.int .u16 xo, .slice a5 m5 c5] 25)) := hbC.alloc hbC.size _
          have N1 : Hid (((w5.alloc (.cells #[.int .u16 xo, .slice a5 m5 c5] 25)).alloc (.cells #[.int .u16 xo, .slice a5 m5 c5] 25)).ownsRow (w.heap.size + 2) 25 2 (.slice a' k cap') k cs) := own_below (by rw [hlk] at hc1; exact hc1) N0
          have N2 : Hid (∀ (j : Nat) (u : Value), [Value.int .u16 xo, .slice a5 m5 c5][j]? = some u → ((w5.alloc (.cells #[.int .u16 xo, .slice a5 m5 c5] 25)).alloc (.cells #[.int .u16 xo, .slice a5 m5 c5] 25)).cell? ((⟨w5.heap.size + 1, 0, none⟩ : Addr).add j) = some u) := World.news_of_block (cs := #[.int .u16 xo, .slice a5 m5 c5]) (t := 25) (fr := (0, 0)) (by first | exact alloc_new _ _ _ | simpa using alloc_new (w5.alloc (.cells #[.int .u16 xo, .slice a5 m5 c5] 25)) #[.int .u16 xo, .slice a5 m5 c5] 25)
          have N3 : Hid (∀ u : Value, u ∈ [Value.int .u16 xo, .slice a5 m5 c5] → u.oneCell' = true) := by intro u hu; simp at hu; rcases hu with rfl | rfl <;> rfl
          have N4 : k + 1 ≤ maxLen := by unfold maxLen; omega
          have N5 : (k + 1) * 32 ≤ 140737488355328 := by omega
          have hl1 := (Array.getElem?_eq_some_iff.1 hS.sbox).1
          have N6 : Hid (w.heap.size + 2 ≤ ((w5.alloc (.cells #[.int .u16 xo, .slice a5 m5 c5] 25)).alloc (.cells #[.int .u16 xo, .slice a5 m5 c5] 25)).heap.size) := by show _ ≤ _; have := N0.size; omega
          have N7 : Hid (((w5.alloc (.cells #[.int .u16 xo, .slice a5 m5 c5] 25)).alloc (.cells #[.int .u16 xo, .slice a5 m5 c5] 25)).ownsRow wr.heap.size 26 1 (.slice a5 m5 c5) m5 ((rawWs (xo, xt, xr, xl) bound).map (Value.int .u32))) := own_below (own_below hown5' ((Below.refl _ w5).alloc (Nat.le_refl _) _)) ((Below.refl _ _).alloc (Nat.le_refl _) _)
          have HN0 : Hid _ := N0
          have HS : Hid _ := hS
          have HC1 : Hid _ := hc1
          have HC2 : Hid _ := hc2
          have HLK : Hid _ := hlk
          clear hS hS5 hbB hbC hown5' N0 hc1 hc2 hss hbig hr HEK3 hE5 hm5 hlk hl1
          generalize sizeTo (rawsL bound l) k = sz at *
          go_wp2_with (at_builtin; refine wpList_append_lies _ rfl (.tmp 54) (.tmp 56) 83 rfl (w.heap.size + 2) 25 i0 (.agg #[.int .u16 0, .slice none 0 0]) 2 32 Try.underlying83 HI.out.1 HI.out.2.1 HI.out.2.2.1 HI.out.2.2.2 rfl (by decide) (.slice a' k cap') k cs rfl N1.out ⟨w5.heap.size + 1, 0, none⟩ 1 1 [.int .u16 xo, .slice a5 m5 c5] rfl rfl N2.out N3.out (by decide) N4 N5 N6.out _ rfl ?_)
          intro g6 cap6 w6 hown6 hgr6 hat6 hlt6
          have hS6 := HS.out.push (v' := .slice (some ⟨g6, 0, none⟩) (k + 1) cap6) HC1.out HC2.out HN0.out N7.out HM5.out hgr6 (by simpa using hat6) rfl (by rw [HLK.out]; exact hown6)
          rw [← HTK.out] at hS6
          have HS6 : Hid _ := hS6
          clear hS6 hown6 hgr6 hat6 N1 N2 N3 N6 N7 HN0 HS HC1 HC2 q0 q1
          go_wp2
          go_roundw
          case rel => exact ⟨k + 1, by omega, by go_num, by first | exact congrArg (Value.int .i64) HSK.out | (rw [← HSK.out]), HBG.out, HE5.out, HS6.out⟩
          case measure => simp [intOf]; omega
      · have hE4 : E = (rawE (xo, xt, xr, xl) bound, k) := by rw [HEK2.out, if_pos hr]
        generalize rawE (xo, xt, xr, xl) bound = er at *
        generalize rawO (xo, xt, xr, xl) bound = ro at *
        generalize sizeTo (rawsL bound l) k = sz at *
        clear HEK2 HSS HTK HM5 hm5 hro
        have hR : RR = [] := by rw [HRR.out, rawsR, ← HEE.out, hE4, if_neg (by first | exact hr | simp)]
        subst hR hE4
        have hS6 := hS5.below ((Below.refl _ w5).alloc (Nat.le_refl _) (.cells #[.int .u16 ro, .slice a5 m5 c5] 25))
        obtain ⟨s0, s1, f0, f1⟩ := spot_store hS6
        have hB3 := two_put2 hS6.sbox (.int .i64 er) (.int .i64 (k : Int))
        have hBel := hS6.bel.trans ((two_below (w5.alloc (.cells #[.int .u16 ro, .slice a5 m5 c5] 25)) (w.heap.size + 1) (.int .i64 er) (.int .i64 (k : Int))).mono (by omega))
        have HB3 : Hid _ := hB3
        have HBel : Hid _ := hBel
        clear hS6 hS5 hS hbB hown5' hB3 hBel HRR HEE HV HOK
        go_wp2
        have hB3 := HB3.out
        have hBel := HBel.out
        clear HB3 HBel s0 s1 f0 f1
        generalize ((w5.alloc _).setCell _ _).setCell _ _ = W at hB3 hBel ⊢
        obtain ⟨hd, _⟩ := one_block hB3
        have d0 := hd 0
        have d1 := hd 1
        refine bodyPost_ret (v := .tuple #[.slice none 0 0, .agg #[.int .i64 er, .int .i64 (k : Int)]]) ?_ rfl ⟨hBel, none, 0, 0, rfl, rfl, Nat.le_refl _, rawsV_nil⟩
        simp [results, Try.results36, go_sem, d0, d1]
    · obtain rfl : k = n := by omega
      have hR : RR = rawsL bound (l.take k) := by
        rw [HRR.out, rawsR, ← HEE.out, HEK.out, shape_end bound l k _ (by rw [HL.out]; exact Nat.le_refl _), if_pos rfl, List.take_of_length_le (by rw [HL.out]; exact Nat.le_refl _)]
      have hE0 : E = (0, 0) := by rw [HEK.out, shape_end bound l k _ (by rw [HL.out]; exact Nat.le_refl _)]
      subst hR hE0
      obtain ⟨s0, s1, f0, f1⟩ := spot_store hS
      obtain ⟨cs, hown, hrow⟩ := hS.row
      rw [hlk] at hown
      have hcap : k ≤ cap' := by
        rcases hown.2 with ⟨h1, h2⟩ | ⟨g, c', cur, h1, _, _, h4, _⟩
        · omega
        · cases h1; exact h4
      have hB3 := two_put2 hS.sbox (.int .i64 0) (.int .i64 0)
      have hBel := hS.bel.trans ((two_below wr (w.heap.size + 1) (.int .i64 0) (.int .i64 0)).mono (by omega))
      have hV3 : RawsV ((wr.setCell ⟨w.heap.size + 1, 0, none⟩ (.int .i64 0)).setCell ⟨w.heap.size + 1, 1, none⟩ (.int .i64 0)) a' (rawsL bound (l.take k)) := by
        refine ((hrow.grown ((grown_setCell wr (w.heap.size + 1) 0 _).trans (grown_setCell _ (w.heap.size + 1) 1 _)) (fun g e => .inl (by cases e; omega))).own (own_apartly hown ((grown_setCell wr (w.heap.size + 1) 0 _).trans (grown_setCell _ (w.heap.size + 1) 1 _)) (fun g e => .inl (by cases e; omega))) hlk).view
      have HV3 : Hid _ := hV3
      clear hown hrow hV3 HOK HV HRR HEE HEK hA
      go_wp2
      generalize (wr.setCell ⟨w.heap.size + 1, 0, none⟩ (.int .i64 0)).setCell ⟨w.heap.size + 1, 1, none⟩ (.int .i64 0) = W at hB3 hBel HV3 ⊢
      obtain ⟨hd, _⟩ := one_block hB3
      have d0 := hd 0
      have d1 := hd 1
      refine bodyPost_ret (v := .tuple #[.slice a' k cap', .agg #[.int .i64 0, .int .i64 0]]) ?_ rfl ⟨hBel, a', cap', k, rfl, by first | exact hlk | rfl, hcap, HV3.out⟩
      simp [results, Try.results36, go_sem, d0, d1]

theorem raws_any (gen bound : Int) (a : Option Addr) (n cap : Nat) (l : List InstT) (w : World) (hg0 : 0 ≤ gen) (hg1 : gen < 4294967296) (hb0 : 0 ≤ bound) (hb1 : bound < 4294967296) (hv : InstsV w a l) (hok : InstsOk l) (hl : l.length = n) (hn : 40 * n ≤ 140737488351232) :
    Calls Try.prog 36 #[modV gen bound a n cap] w fun e w' => Below w.heap.size w w' ∧ ∃ ax cx m, e = .returned (.tuple #[.slice ax m cx, .agg #[.int .i64 (shapeE bound l).1, .int .i64 (shapeE bound l).2]]) ∧ (rawsR bound l).length = m ∧ m ≤ cx ∧ RawsV w' ax (rawsR bound l) := by
  by_cases h1 : bound = 0 ∨ 65536 < bound
  · exact raws_bad gen bound a n cap l w hg0 hg1 hb0 hb1 hv hok hl hn h1
  · exact raws_ok gen bound a n cap l w hg0 hg1 hb0 hb1 hv hok hl hn h1

end Go.Proofs.Ytpggcpnjcalfaaa
