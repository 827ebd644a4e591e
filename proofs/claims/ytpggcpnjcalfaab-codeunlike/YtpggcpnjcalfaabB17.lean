/-
  Texts laid together in one: CodeRinst, WordsNew, CodeInst, WordsSplit, CodeDecode.
-/
import Derived.WalkSpells
import Derived.WalkMore
import Derived.Test.YtpggcpnjcalfaabB13
import Derived.Test.YtpggcpnjcalfaabB02
import Derived.Test.YtpggcpnjcalfaabB12
import Derived.Deep.RegionHeld2
import Derived.Test.YtpggcpnjcalfaabB06
import Derived.BigRegion
import Derived.Deep.RegionWith
import Derived.Deep.DrawnRows
import Derived.Test.YtpggcpnjcalfaabProg
import Derived.Test.YtpggcpnjcalfaabB01
import Derived.Test.YtpggcpnjcalfaabB08
import Derived.Test.YtpggcpnjcalfaabB15
import Derived.Test.YtpggcpnjcalfaabB11
import Derived.Test.YtpggcpnjcalfaabB10
/-
  What the method inst of the package code's reader answers.
-/
namespace Go.Proofs.Ytpggcpnjcalfaab
open Go.RowKit
set_option linter.unusedVariables false
set_option linter.unusedSimpArgs false
set_option maxRecDepth 10000

theorem ownI_ty (has : Bool) (zs : List Int) (b : Int) : ownI has 40 zs b 0 = headTy has zs b := rfl
theorem ownI_res (has : Bool) (zs : List Int) (b : Int) (p : Nat) : ownI has 41 zs b p = headRes has zs b p := rfl

theorem set4 {w : World} {B T : Nat} {z0 z1 z2 z3 : Value} (h : w.heap[B]? = some (.cells #[z0, z1, z2, z3] T (0, 0))) (i : Nat) (u : Value) : (w.setCell ⟨B, i, none⟩ u).heap[B]? = some (.cells (#[z0, z1, z2, z3].setIfInBounds i u) T (0, 0)) := by
  simp [World.setCell, Array.getElem?_modify, h]
theorem four_put {w : World} {B T : Nat} {z0 z1 z2 z3 : Value} (h : w.heap[B]? = some (.cells #[z0, z1, z2, z3] T (0, 0))) (u0 u1 u2 u3 : Value) :
    ((((w.setCell ⟨B, 0, none⟩ u0).setCell ⟨B, 1, none⟩ u1).setCell ⟨B, 2, none⟩ u2).setCell ⟨B, 3, none⟩ u3).heap[B]? = some (.cells #[u0, u1, u2, u3] T (0, 0)) := by
  simp only [World.setCell, Array.getElem?_modify, h]; simp
theorem four_keep (w : World) (B : Nat) (u0 u1 u2 u3 : Value) : Below B w ((((w.setCell ⟨B, 0, none⟩ u0).setCell ⟨B, 1, none⟩ u1).setCell ⟨B, 2, none⟩ u2).setCell ⟨B, 3, none⟩ u3) :=
  ((((Below.refl B w).setCell (Nat.le_refl _) _).setCell (Nat.le_refl _) _).setCell (Nat.le_refl _) _).setCell (Nat.le_refl _) _
theorem cells4 {w : World} {G T : Nat} {a b c d : Value} (h : w.heap[G]? = some (.cells #[a, b, c, d] T (0, 0))) : w.cell? ⟨G, 0, none⟩ = some a ∧ w.cell? ⟨G, 1, none⟩ = some b ∧ w.cell? ⟨G, 2, none⟩ = some c ∧ w.cell? ⟨G, 3, none⟩ = some d ∧ ∀ i, w.frozen? ⟨G, i, none⟩ = false := by
  obtain ⟨hc, hf⟩ := one_block h
  exact ⟨hc 0, hc 1, hc 2, hc 3, hf⟩
theorem grown_block {w w' : World} {g k : Nat} {o : Obj} (hg : w.grownBy w' (some g)) (h : w.heap[k]? = some o) (hne : k ≠ g) : w'.heap[k]? = some o :=
  (hg.block k (Array.getElem?_eq_some_iff.1 h).1 (fun e => hne (by cases e; rfl))).trans h

theorem ownFar2 {w : World} {lo e size n B : Nat} {v : Value} {xs : List Value} (h : w.ownsRow lo e size v n xs) (hB : B < lo) (i : Nat) (u : Value) : (w.setCell ⟨B, i, none⟩ u).ownsRow lo e size v n xs := by
  refine ⟨h.1, ?_⟩
  rcases h.2 with hn | ⟨g, cap, cur, rfl, hb, hgg, rest⟩
  · exact .inl hn
  · refine .inr ⟨g, cap, cur, rfl, hb, ?_, rest⟩
    exact (Below.heap_setCell _ _ _ _ (by simp; omega)).trans hgg
theorem own_lo' {w : World} {lo lo' e size n : Nat} {v : Value} {xs : List Value} (h : w.ownsRow lo e size v n xs) (hl : lo' ≤ lo) : w.ownsRow lo' e size v n xs := by
  refine ⟨h.1, ?_⟩
  rcases h.2 with hn | ⟨g, cap, cur, e1, hb, rest⟩
  · exact .inl hn
  · exact .inr ⟨g, cap, cur, e1, Nat.le_trans hl hb, rest⟩

set_option maxHeartbeats 2000000 in
theorem rinst_any (w : World) (R : Nat) (o : Int) (f : Frm) (b : Int) (gr ga n cw : Nat) (zs : List Int) (h : RdS w R o f b gr ga n cw 0 zs) (hf : lookF refT o = (f, true)) (hn : n ≤ 65535) :
    Calls Try.prog 40 #[.pointer (some ⟨R, 0, none⟩)] w fun e w' => w.grownBy w' (some gr) ∧ ∃ a m c, e = .returned (.tuple #[instV (instF f o zs b).1 a m c, .int .i64 (instF f o zs b).2]) ∧ (instF f o zs b).1.2.2.2.length = m ∧
      w'.ownsRow w.heap.size 90 3 (.slice a m c) m ((instF f o zs b).1.2.2.2.flatMap argC) := by
  have hlt := h.lt
  have hga : 0 < n → ga < w.heap.size := fun hn0 => h.ga hn0
  have hlen := h.rd.len
  have hO1 := fun wx hx => ownIdR_any wx R o f b gr ga n cw 0 zs f.2.1 40 hx (by decide)
  have hO2 := fun wx hx => ownIdR_any wx R o f b gr ga n cw (0 + f.2.1.toNat) zs f.2.2.1 41 hx (by decide)
  have hAr := fun wx hx hK => rargs_any wx R o f b gr ga n cw (0 + f.2.1.toNat + f.2.2.1.toNat) zs (zs.length + 1) hx hf hn hK
  rw [Nat.zero_add] at hO2 hAr
  rw [ownI_ty] at hO1
  rw [ownI_res] at hO2
  obtain ⟨T, hT⟩ : ∃ t, t = headTy f.2.1 zs b := ⟨_, rfl⟩
  obtain ⟨S, hS⟩ : ∃ t, t = headRes f.2.2.1 zs b f.2.1.toNat := ⟨_, rfl⟩
  obtain ⟨A, hA⟩ : ∃ t, t = argsI f b (zs.length + 1) (zs.drop (f.2.1.toNat + f.2.2.1.toNat)) [] := ⟨_, rfl⟩
  have HI : Hid (instF f o zs b = if T.2 ≠ 0 then (noInst, T.2) else if S.2 ≠ 0 then (noInst, S.2) else if A.2 ≠ 0 then (noInst, A.2) else ((o, T.1, S.1, A.1), 0)) := by
    show _ = _
    unfold instF
    rw [← hT, ← hS, ← hA]
  rw [← hT] at hO1
  rw [← hS] at hO2
  rw [← hA] at hAr
  clear hT hS hA
  generalize instF f o zs b = I at HI ⊢
  obtain ⟨T1, T2⟩ := T
  obtain ⟨S1, S2⟩ := S
  obtain ⟨A1, A2⟩ := A
  simp only at *
  unfold instV
  have c0 := h.cells.1
  have hb1 : Below w.heap.size w ((w.alloc (.cells #[.int .u16 0, .int .u32 0, .int .u32 0, .slice none 0 0] 43)).alloc (.cells #[.int .u16 o, .int .u32 0, .int .u32 0, .slice none 0 0] 43)) := ((Below.refl _ w).alloc (Nat.le_refl _) _).alloc (by simp) _
  have kX : ((w.alloc (.cells #[.int .u16 0, .int .u32 0, .int .u32 0, .slice none 0 0] 43)).alloc (.cells #[.int .u16 o, .int .u32 0, .int .u32 0, .slice none 0 0] 43)).heap[w.heap.size]? = some (.cells #[.int .u16 0, .int .u32 0, .int .u32 0, .slice none 0 0] 43 (0, 0)) := (Below.heap_alloc _ _ _ (by simp)).trans (alloc_new w _ _)
  have kI : ((w.alloc (.cells #[.int .u16 0, .int .u32 0, .int .u32 0, .slice none 0 0] 43)).alloc (.cells #[.int .u16 o, .int .u32 0, .int .u32 0, .slice none 0 0] 43)).heap[w.heap.size + 1]? = some (.cells #[.int .u16 o, .int .u32 0, .int .u32 0, .slice none 0 0] 43 (0, 0)) := alloc_newAt _ _ (by simp)
  have hS0 := h.below hb1
  have c2 := hS0.cells.2.1
  go_enter Try.func40, Try.ntmps40
  go_wp2_with fail
  generalize (w.alloc (.cells #[.int .u16 0, .int .u32 0, .int .u32 0, .slice none 0 0] 43)).alloc (.cells #[.int .u16 o, .int .u32 0, .int .u32 0, .slice none 0 0] 43) = W at *
  refine (hO1 W hS0).mono ?_
  rintro e w2 ⟨rfl, hg2, hy2⟩
  have kX2 := grown_block hg2 kX (by omega)
  have kI2 := grown_block hg2 kI (by omega)
  have hgw2 := below_then hb1 hg2
  obtain ⟨i0, i1, i2, i3, if_⟩ := cells4 kI2
  clear hO1 kX kI hb1 hg2 c2
  have kI3 := set4 kI2 1 (.int .u32 T1)
  have kX3 := (Below.heap_setCell w2 ⟨w.heap.size + 1, 1, none⟩ (.int .u32 T1) w.heap.size (by simp)).trans kX2
  have hB3 : Below w.heap.size w2 (w2.setCell ⟨w.heap.size + 1, 1, none⟩ (.int .u32 T1)) := (Below.refl _ _).setCell (by simp) _
  have hgw3 := grown_then hgw2 hB3
  by_cases z1 : T2 = 0
  · subst z1
    have hS3 := (hy2 rfl).keep hB3 hlt.1 hlt.2 hga
    rw [Nat.zero_add] at hS3
    have c3 := hS3.cells.2.2.1
    clear hy2 kX2 kI2 hgw2 hB3
    go_wp2_with fail
    generalize (w2.setCell ⟨w.heap.size + 1, 1, none⟩ (.int .u32 T1)) = W3 at *
    refine (hO2 W3 hS3).mono ?_
    rintro e w4 ⟨rfl, hg4, hy4⟩
    have kX4 := grown_block hg4 kX3 (by omega)
    have kI4 := grown_block hg4 kI3 (by omega)
    have hgw4 := hgw3.trans hg4
    obtain ⟨j0, j1, j2, j3, jf⟩ := cells4 kI4
    clear hO2 kX3 kI3 hg4 c3 i0 i1 i2 i3 if_ hgw3
    have kI5 := set4 kI4 2 (.int .u32 S1)
    have kX5 := (Below.heap_setCell w4 ⟨w.heap.size + 1, 2, none⟩ (.int .u32 S1) w.heap.size (by simp)).trans kX4
    have hB5 : Below w.heap.size w4 (w4.setCell ⟨w.heap.size + 1, 2, none⟩ (.int .u32 S1)) := (Below.refl _ _).setCell (by simp) _
    have hgw5 := grown_then hgw4 hB5
    by_cases z2 : S2 = 0
    · subst z2
      have hS5 := (hy4 rfl).keep hB5 hlt.1 hlt.2 hga
      clear hy4 kX4 kI4 hgw4 hB5
      go_wp2_with fail
      generalize (w4.setCell ⟨w.heap.size + 1, 2, none⟩ (.int .u32 S1)) = W5 at *
      refine (hAr W5 hS5 (by omega)).mono ?_
      rintro e w6 ⟨hg6, a', m', cap', rfl, hm6, hown6⟩
      have kX6 := grown_block hg6 kX5 (by omega)
      have kI6 := grown_block hg6 kI5 (by omega)
      have hgw6 := hgw5.trans hg6
      obtain ⟨l0, l1, l2, l3, lf⟩ := cells4 kI6
      have sz5 := hgw5.size
      have hlW : w.heap.size + 1 < W5.heap.size := (Array.getElem?_eq_some_iff.1 kI5).1
      clear hAr kX5 kI5 hg6 j0 j1 j2 j3 jf hgw5 hS5
      have kI7 := set4 kI6 3 (.slice a' m' cap')
      have kX7 := (Below.heap_setCell w6 ⟨w.heap.size + 1, 3, none⟩ (.slice a' m' cap') w.heap.size (by simp)).trans kX6
      have hB7 : Below w.heap.size w6 (w6.setCell ⟨w.heap.size + 1, 3, none⟩ (.slice a' m' cap')) := (Below.refl _ _).setCell (by simp) _
      have hgw7 := grown_then hgw6 hB7
      have hown7 := ownFar2 hown6 hlW 3 (.slice a' m' cap')
      obtain ⟨n0, n1, n2, n3, nf⟩ := cells4 kI7
      obtain ⟨x0, x1, x2, x3, xf⟩ := cells4 kX7
      by_cases z3 : A2 = 0
      · subst z3
        have hI : I = ((o, T1, S1, A1), 0) := by rw [HI.out]; simp
        subst hI
        clear kX6 kI6 hB7 hgw6 HI
        go_wp2
        have hB4 := four_put kX7 (.int .u16 o) (.int .u32 T1) (.int .u32 S1) (.slice a' m' cap')
        have hBel := four_keep (w6.setCell ⟨w.heap.size + 1, 3, none⟩ (.slice a' m' cap')) w.heap.size (.int .u16 o) (.int .u32 T1) (.int .u32 S1) (.slice a' m' cap')
        have hgf := grown_then hgw7 hBel
        have hown8 := own_lo' (ownFar2 (ownFar2 (ownFar2 (ownFar2 hown7 (show w.heap.size < W5.heap.size by omega) 0 (.int .u16 o)) (show w.heap.size < W5.heap.size by omega) 1 (.int .u32 T1)) (show w.heap.size < W5.heap.size by omega) 2 (.int .u32 S1)) (show w.heap.size < W5.heap.size by omega) 3 (.slice a' m' cap')) (show w.heap.size ≤ W5.heap.size by omega)
        clear x0 x1 x2 x3 xf n0 n1 n2 n3 nf kX7 kI7 hown7 hown6 l0 l1 l2 l3 lf
        generalize ((((w6.setCell ⟨w.heap.size + 1, 3, none⟩ (.slice a' m' cap')).setCell ⟨w.heap.size, 0, none⟩ (.int .u16 o)).setCell ⟨w.heap.size, 1, none⟩ (.int .u32 T1)).setCell ⟨w.heap.size, 2, none⟩ (.int .u32 S1)).setCell ⟨w.heap.size, 3, none⟩ (.slice a' m' cap') = WF at hB4 hBel hgf hown8 ⊢
        obtain ⟨d0, d1, d2, d3, _⟩ := cells4 hB4
        refine bodyPost_ret (v := .tuple #[.agg #[.int .u16 o, .int .u32 T1, .int .u32 S1, .slice a' m' cap'], .int .i64 0]) ?_ rfl ⟨hgf, a', m', cap', rfl, by first | exact hm6 | rfl, hown8⟩
        simp [results, Try.results40, go_sem, d0, d1, d2, d3]
      · have hI : I = (noInst, A2) := by rw [HI.out]; simp [z3]
        subst hI
        clear kX6 kI6 hB7 hgw6 HI
        go_wp2
        have hB4 := four_put kX7 (.int .u16 0) (.int .u32 0) (.int .u32 0) (.slice none 0 0)
        have hBel := four_keep (w6.setCell ⟨w.heap.size + 1, 3, none⟩ (.slice a' m' cap')) w.heap.size (.int .u16 0) (.int .u32 0) (.int .u32 0) (.slice none 0 0)
        have hgf := grown_then hgw7 hBel
        clear x0 x1 x2 x3 xf
        generalize ((((w6.setCell ⟨w.heap.size + 1, 3, none⟩ (.slice a' m' cap')).setCell ⟨w.heap.size, 0, none⟩ (.int .u16 0)).setCell ⟨w.heap.size, 1, none⟩ (.int .u32 0)).setCell ⟨w.heap.size, 2, none⟩ (.int .u32 0)).setCell ⟨w.heap.size, 3, none⟩ (.slice none 0 0) = WF at hB4 hBel hgf ⊢
        obtain ⟨d0, d1, d2, d3, _⟩ := cells4 hB4
        refine bodyPost_ret (v := .tuple #[.agg #[.int .u16 0, .int .u32 0, .int .u32 0, .slice none 0 0], .int .i64 A2]) ?_ rfl ⟨hgf, none, 0, 0, rfl, rfl, World.ownsRow_nil _ _ _ _⟩
        simp [results, Try.results40, go_sem, d0, d1, d2, d3]
    · have hI : I = (noInst, S2) := by rw [HI.out]; simp [z2]
      subst hI
      obtain ⟨x0, x1, x2, x3, xf⟩ := cells4 kX5
      clear hy4 HI
      go_wp2
      have hB4 := four_put kX5 (.int .u16 0) (.int .u32 0) (.int .u32 0) (.slice none 0 0)
      have hBel := four_keep (w4.setCell ⟨w.heap.size + 1, 2, none⟩ (.int .u32 S1)) w.heap.size (.int .u16 0) (.int .u32 0) (.int .u32 0) (.slice none 0 0)
      have hgf := grown_then hgw5 hBel
      clear x0 x1 x2 x3 xf
      generalize ((((w4.setCell ⟨w.heap.size + 1, 2, none⟩ (.int .u32 S1)).setCell ⟨w.heap.size, 0, none⟩ (.int .u16 0)).setCell ⟨w.heap.size, 1, none⟩ (.int .u32 0)).setCell ⟨w.heap.size, 2, none⟩ (.int .u32 0)).setCell ⟨w.heap.size, 3, none⟩ (.slice none 0 0) = WF at hB4 hBel hgf ⊢
      obtain ⟨d0, d1, d2, d3, _⟩ := cells4 hB4
      refine bodyPost_ret (v := .tuple #[.agg #[.int .u16 0, .int .u32 0, .int .u32 0, .slice none 0 0], .int .i64 S2]) ?_ rfl ⟨hgf, none, 0, 0, rfl, rfl, World.ownsRow_nil _ _ _ _⟩
      simp [results, Try.results40, go_sem, d0, d1, d2, d3]
  · have hI : I = (noInst, T2) := by rw [HI.out]; simp [z1]
    subst hI
    obtain ⟨x0, x1, x2, x3, xf⟩ := cells4 kX3
    clear hy2 HI
    go_wp2
    have hB4 := four_put kX3 (.int .u16 0) (.int .u32 0) (.int .u32 0) (.slice none 0 0)
    have hBel := four_keep (w2.setCell ⟨w.heap.size + 1, 1, none⟩ (.int .u32 T1)) w.heap.size (.int .u16 0) (.int .u32 0) (.int .u32 0) (.slice none 0 0)
    have hgf := grown_then hgw3 hBel
    clear x0 x1 x2 x3 xf
    generalize ((((w2.setCell ⟨w.heap.size + 1, 1, none⟩ (.int .u32 T1)).setCell ⟨w.heap.size, 0, none⟩ (.int .u16 0)).setCell ⟨w.heap.size, 1, none⟩ (.int .u32 0)).setCell ⟨w.heap.size, 2, none⟩ (.int .u32 0)).setCell ⟨w.heap.size, 3, none⟩ (.slice none 0 0) = WF at hB4 hBel hgf ⊢
    obtain ⟨d0, d1, d2, d3, _⟩ := cells4 hB4
    refine bodyPost_ret (v := .tuple #[.agg #[.int .u16 0, .int .u32 0, .int .u32 0, .slice none 0 0], .int .i64 T2]) ?_ rfl ⟨hgf, none, 0, 0, rfl, rfl, World.ownsRow_nil _ _ _ _⟩
    simp [results, Try.results40, go_sem, d0, d1, d2, d3]

end Go.Proofs.Ytpggcpnjcalfaab

/-
  What New of the words package returns: a reader in a new block, its words in another one; nothing that was there has turned.
-/
namespace Go.Proofs.Ytpggcpnjcalfaab
open Go.RowKit
set_option maxRecDepth 10000

set_option maxHeartbeats 400000 in
theorem new_some (x : Addr) (n cap : Nat) (zs : List Int) (w : World) (hv : View .u32 w (some x) zs) (hl : zs.length = n) (hn : 4 * n ≤ 140737488351232) :
    Calls Try.prog 39 #[.slice (some x) n cap] w fun e w' => ∃ g cx gr, e = .returned (.pointer (some ⟨gr, 0, none⟩)) ∧ w.heap.size ≤ g ∧ g < gr ∧ n ≤ cx ∧
      w'.heap[gr]? = some (.cells #[.slice (some ⟨g, 0, none⟩) n cx, .int .i64 0] 131 (0, 0)) ∧ View .u32 w' (some ⟨g, 0, none⟩) zs ∧ Below w.heap.size w w' := by
  have HL : Hid (zs.length = n) := hl
  go_enter Try.func39, Try.ntmps39
  go_wp2_with fail
  refine (clone_some x n cap zs w hv hl hn).mono ?_
  rintro e w1 ⟨g, cx, rfl, hown, hb⟩
  clear hv hl
  have hg : w.heap.size ≤ g ∧ g < w1.heap.size ∧ n ≤ cx := by
    rcases hown.2 with ⟨h1, _⟩ | ⟨g', cx', cur, h1, h2, h3, h4, _⟩
    · cases h1
    · cases h1; exact ⟨h2, (Array.getElem?_eq_some_iff.1 h3).1, h4⟩
  obtain ⟨hg1, hg2, hg3⟩ := hg
  have hvw := View.ofRow hown HL.out
  clear hown
  go_wp2
  go_ret
  refine ⟨g, cx, w1.heap.size, rfl, hg1, hg2, hg3, ?_, ?_, ?_⟩
  · exact heap_alloc_new w1 _
  · exact hvw.below ((Below.refl _ w1).alloc (Nat.le_refl _) _)
  · exact hb.alloc hb.size _

end Go.Proofs.Ytpggcpnjcalfaab

/-
  What Inst of the package code answers, for all words and every bound.
-/
namespace Go.Proofs.Ytpggcpnjcalfaab
open Go.RowKit
set_option linter.unusedVariables false
set_option linter.unusedSimpArgs false
set_option maxRecDepth 100000

/-- What Inst leaves: its answer. -/
def InstR (w : World) (I : InstT × Int) (e : Ending) (w' : World) : Prop := Below w.heap.size w w' ∧ ∃ a m c, e = .returned (.tuple #[instV I.1 a m c, .int .i64 I.2]) ∧ I.1.2.2.2.length = m ∧ w'.ownsRow w.heap.size 90 3 (.slice a m c) m (I.1.2.2.2.flatMap argC)

/-- Ten cells of a block, stored one by one. -/
def tenW (w : World) (G : Nat) (v0 v1 v2 v3 v4 v5 v6 v7 v8 v9 : Value) : World := (((((((((w.setCell ⟨G, 0, none⟩ v0).setCell ⟨G, 1, none⟩ v1).setCell ⟨G, 2, none⟩ v2).setCell ⟨G, 3, none⟩ v3).setCell ⟨G, 4, none⟩ v4).setCell ⟨G, 5, none⟩ v5).setCell ⟨G, 6, none⟩ v6).setCell ⟨G, 7, none⟩ v7).setCell ⟨G, 8, none⟩ v8).setCell ⟨G, 9, none⟩ v9
theorem ten_put {w : World} {G T : Nat} {z0 z1 z2 z3 z4 z5 z6 z7 z8 z9 : Value} (h : w.heap[G]? = some (.cells #[z0, z1, z2, z3, z4, z5, z6, z7, z8, z9] T (0, 0))) (v0 v1 v2 v3 v4 v5 v6 v7 v8 v9 : Value) : (tenW w G v0 v1 v2 v3 v4 v5 v6 v7 v8 v9).heap[G]? = some (.cells #[v0, v1, v2, v3, v4, v5, v6, v7, v8, v9] T (0, 0)) := by
  unfold tenW
  simp only [World.setCell, Array.getElem?_modify, h]; simp
theorem ten_grown (w : World) (G : Nat) (v0 v1 v2 v3 v4 v5 v6 v7 v8 v9 : Value) : w.grownBy (tenW w G v0 v1 v2 v3 v4 v5 v6 v7 v8 v9) (some G) := by
  unfold tenW
  exact ((((((((((grown_setCell w G 0 _).trans (grown_setCell _ G 1 _)).trans (grown_setCell _ G 2 _)).trans (grown_setCell _ G 3 _)).trans (grown_setCell _ G 4 _)).trans (grown_setCell _ G 5 _)).trans (grown_setCell _ G 6 _)).trans (grown_setCell _ G 7 _)).trans (grown_setCell _ G 8 _)).trans (grown_setCell _ G 9 _))
/-- A reader of words that another block's turning leaves. -/
theorem rdr_grown {w w' : World} {gr ga n cw p g : Nat} {zs : List Int} (hbox : w.heap[gr]? = some (.cells #[.slice (some ⟨ga, 0, none⟩) n cw, .int .i64 (p : Int)] 131 (0, 0))) (hv : View .u32 w (some ⟨ga, 0, none⟩) zs) (hgr : ga < gr) (hl : zs.length = n) (hp : p ≤ n) (hr : n ≤ cw) (hs : 4 * n ≤ 140737488351232) (hw : Within 4294967296 zs) (hg : w.grownBy w' (some g)) (h1 : gr ≠ g) (h2 : ga ≠ g) : Rdr w' w' gr ga n cw p zs := by
  refine ⟨⟨World.grownBy.refl _ _, grown_block hg hbox h1⟩, ?_, by omega, hl, hp, hr, hs, hw⟩
  intro j hj
  obtain ⟨b', off, e, hlt, hc⟩ := hv j hj
  cases e
  refine ⟨ga, 0, rfl, Nat.lt_of_lt_of_le hlt hg.size, ?_⟩
  have := hg.block ga hlt (fun e => h2 (by cases e; rfl))
  simp only [World.cell?, this] at hc ⊢
  exact hc

theorem zero_box {W w3 : World} {G T : Nat} {v0 v1 v2 v3 v4 v5 v6 v7 v8 v9 : Value} (hb : Below W.heap.size W w3) (hG : G < W.heap.size) (h : W.heap[G]? = some (.cells #[v0, v1, v2, v3, v4, v5, v6, v7, v8, v9] T (0, 0))) :
    w3.cell? ⟨G, 0, none⟩ = some v0 ∧ w3.cell? ⟨G, 1, none⟩ = some v1 ∧ w3.cell? ⟨G, 2, none⟩ = some v2 ∧ w3.cell? ⟨G, 3, none⟩ = some v3 ∧ w3.cell? ⟨G, 4, none⟩ = some v4 ∧ w3.cell? ⟨G, 5, none⟩ = some v5 ∧ w3.cell? ⟨G, 6, none⟩ = some v6 ∧ w3.cell? ⟨G, 7, none⟩ = some v7 ∧ w3.cell? ⟨G, 8, none⟩ = some v8 ∧ w3.cell? ⟨G, 9, none⟩ = some v9 ∧ ∀ i, w3.frozen? ⟨G, i, none⟩ = false := by
  obtain ⟨hc, hf⟩ := one_block ((hb.block G hG).trans h)
  exact ⟨hc 0, hc 1, hc 2, hc 3, hc 4, hc 5, hc 6, hc 7, hc 8, hc 9, hf⟩
theorem growB {W w w' : World} (h : Below W.heap.size W w) (hb : Below w.heap.size w w') : Below W.heap.size W w' := h.trans (hb.mono h.size)
theorem grown_below {w w0 w' : World} {g : Nat} (hb : Below w.heap.size w w0) (h : w0.grownBy w' (some g)) (hg : w.heap.size ≤ g) : Below w.heap.size w w' := hb.grown h hb.size (fun k e => by cases e; exact hg)

set_option maxHeartbeats 2000000 in
theorem inst_any (op b : Int) (x : Addr) (n cap : Nat) (zs : List Int) (w : World) (hv : View .u32 w (some x) zs) (hl : zs.length = n) (hw : Within 4294967296 zs) (hn : 4 * n ≤ 140737488351232) :
    Calls Try.prog 19 #[.agg #[.int .u16 op, .slice (some x) n cap], .int .u32 b] w fun e w' => InstR w (instI op zs b) e w' := by
  have hOf := fun w => of_any op w
  have hB0 : Below w.heap.size w ((w.alloc (.cells #[.int .u16 op, .slice (some x) n cap] 46)).alloc (.cells #[.int .u16 0, .int .u32 0, .int .u32 0, .slice none 0 0] 43)) := ((Below.refl _ w).alloc (Nat.le_refl _) _).alloc (by simp) _
  have kR : ((w.alloc (.cells #[.int .u16 op, .slice (some x) n cap] 46)).alloc (.cells #[.int .u16 0, .int .u32 0, .int .u32 0, .slice none 0 0] 43)).heap[w.heap.size]? = some (.cells #[.int .u16 op, .slice (some x) n cap] 46 (0, 0)) := (Below.heap_alloc _ _ _ (by simp)).trans (alloc_new w _ _)
  have kX : ((w.alloc (.cells #[.int .u16 op, .slice (some x) n cap] 46)).alloc (.cells #[.int .u16 0, .int .u32 0, .int .u32 0, .slice none 0 0] 43)).heap[w.heap.size + 1]? = some (.cells #[.int .u16 0, .int .u32 0, .int .u32 0, .slice none 0 0] 43 (0, 0)) := alloc_newAt _ _ (by simp)
  have HB0 : Hid (Below w.heap.size w ((w.alloc (.cells #[.int .u16 op, .slice (some x) n cap] 46)).alloc (.cells #[.int .u16 0, .int .u32 0, .int .u32 0, .slice none 0 0] 43))) := hB0
  have HR : Hid (((w.alloc (.cells #[.int .u16 op, .slice (some x) n cap] 46)).alloc (.cells #[.int .u16 0, .int .u32 0, .int .u32 0, .slice none 0 0] 43)).heap[w.heap.size]? = some (.cells #[.int .u16 op, .slice (some x) n cap] 46 (0, 0))) := kR
  have HX : Hid (((w.alloc (.cells #[.int .u16 op, .slice (some x) n cap] 46)).alloc (.cells #[.int .u16 0, .int .u32 0, .int .u32 0, .slice none 0 0] 43)).heap[w.heap.size + 1]? = some (.cells #[.int .u16 0, .int .u32 0, .int .u32 0, .slice none 0 0] 43 (0, 0))) := kX
  clear kR kX hB0
  obtain ⟨I, hI⟩ : ∃ I, I = instI op zs b := ⟨_, rfl⟩
  rw [← hI]
  by_cases hbig : 65535 ≤ n
  · have hI2 : I = (noInst, 25) := by rw [hI, instI, if_pos (by omega)]
    subst hI2
    have hbig' : (65535 : Int) ≤ (n : Int) := by omega
    clear hI hOf hbig
    go_enter Try.func19, Try.ntmps19
    go_wp2
    refine bodyPost_ret (v := .tuple #[.agg #[.int .u16 0, .int .u32 0, .int .u32 0, .slice none 0 0], .int .i64 25]) ?_ rfl ⟨HB0.out, none, 0, 0, rfl, rfl, World.ownsRow_nil _ _ _ _⟩
    simp [results, Try.results19, go_sem]
  · have hbig' : ¬ (65535 : Int) ≤ (n : Int) := by omega
    have HBG : Hid (¬ 65535 ≤ zs.length) := by rw [hl]; exact hbig
    have HN : Hid (n ≤ 65535) := by show n ≤ 65535; omega
    clear hbig
    obtain ⟨f, hf⟩ : ∃ f, f = (lookF refT op).1 := ⟨_, rfl⟩
    by_cases h0 : (lookF refT op).2 = true
    · have hff : lookF refT op = (f, true) := by rw [hf, ← h0]
      have hI2 : I = instF f op zs b := by rw [hI, instI, if_neg HBG.out, if_neg (by simp [h0]), ← hf]
      have eV : ofV op = formV op f := by unfold ofV; rw [if_pos h0, ← hf]
      rw [hff, eV] at hOf
      have hRI := fun (R gr ga cw : Nat) wx (hx : RdS wx R op f b gr ga n cw 0 zs) => rinst_any wx R op f b gr ga n cw zs hx hff HN.out
      rw [← hI2] at hRI
      clear hI hI2 eV hff h0 hf
      obtain ⟨f1, f2, f3, f4, f5, f6, f7⟩ := f
      unfold formV at hOf
      simp only at *
      go_enter Try.func19, Try.ntmps19
      go_wp2_with fail
      have kR := HR.out
      have kX := HX.out
      have hB0 := HB0.out
      clear HR HX HB0
      generalize (w.alloc (.cells #[.int .u16 op, .slice (some x) n cap] 46)).alloc (.cells #[.int .u16 0, .int .u32 0, .int .u32 0, .slice none 0 0] 43) = W0 at *
      have l0 := (Array.getElem?_eq_some_iff.1 kX).1
      refine (hOf _).mono ?_
      rintro e w1 ⟨rfl, hb1⟩
      have s1 := hb1.size
      have kR1 := (hb1.block _ (by omega)).trans kR
      have kX1 := (hb1.block _ l0).trans kX
      have hb01 := hB0.trans (hb1.mono (by omega))
      clear hb1 kR kX hB0 hOf
      have hb2 : Below w1.heap.size w1 (w1.alloc (.cells #[.int .u16 op, .string f1, .bool f2, .bool f3, .string f4, .string f5, .int .i64 f6, .int .u8 f7] 81)) := (Below.refl _ _).alloc (Nat.le_refl _) _
      have kF := alloc_new w1 #[.int .u16 op, .string f1, .bool f2, .bool f3, .string f4, .string f5, .int .i64 f6, .int .u8 f7] 81
      have kR2 := (hb2.block _ (by omega)).trans kR1
      have kX2 := (hb2.block _ (by omega)).trans kX1
      have hb02 := hb01.trans (hb2.mono (by omega))
      have s2 := hb02.size
      have lF : w1.heap.size < (w1.alloc (.cells #[.int .u16 op, .string f1, .bool f2, .bool f3, .string f4, .string f5, .int .i64 f6, .int .u8 f7] 81)).heap.size := by simp
      clear kR1 kX1 hb01 hb2
      go_wp2
      generalize w1.alloc (.cells #[.int .u16 op, .string f1, .bool f2, .bool f3, .string f4, .string f5, .int .i64 f6, .int .u8 f7] 81) = W2 at *
      have hNew := fun wx (h : Below w.heap.size w wx) => new_some x n cap zs wx (hv.below h) hl hn
      have hK : ∀ wx, Below W2.heap.size W2 wx → (wx.cell? ⟨w.heap.size, 1, none⟩ = some (.slice (some x) n cap)) ∧ (wx.cell? ⟨w1.heap.size, 0, none⟩ = some (.int .u16 op) ∧ wx.cell? ⟨w1.heap.size, 1, none⟩ = some (.string f1) ∧ wx.cell? ⟨w1.heap.size, 2, none⟩ = some (.bool f2) ∧ wx.cell? ⟨w1.heap.size, 3, none⟩ = some (.bool f3) ∧ wx.cell? ⟨w1.heap.size, 4, none⟩ = some (.string f4) ∧ wx.cell? ⟨w1.heap.size, 5, none⟩ = some (.string f5) ∧ wx.cell? ⟨w1.heap.size, 6, none⟩ = some (.int .i64 f6) ∧ wx.cell? ⟨w1.heap.size, 7, none⟩ = some (.int .u8 f7)) := fun wx h => by
        obtain ⟨hc, _⟩ := one_block ((h.block _ lF).trans kF)
        obtain ⟨hd, _⟩ := one_block ((h.block _ (by omega)).trans kR2)
        exact ⟨hd 1, hc 0, hc 1, hc 2, hc 3, hc 4, hc 5, hc 6, hc 7⟩
      have hd := below_drew W2
      have HRI : Hid _ := hRI
      have HKR2 : Hid _ := kR2
      have HKX2 : Hid _ := kX2
      have HKF : Hid _ := kF
      clear hRI kR2 kX2 kF
      go_region_held2 (fun wx => Below W2.heap.size W2 wx ∧ (wx.cell? ⟨w.heap.size, 1, none⟩ = some (.slice (some x) n cap)) ∧ (wx.cell? ⟨w1.heap.size, 0, none⟩ = some (.int .u16 op) ∧ wx.cell? ⟨w1.heap.size, 1, none⟩ = some (.string f1) ∧ wx.cell? ⟨w1.heap.size, 2, none⟩ = some (.bool f2) ∧ wx.cell? ⟨w1.heap.size, 3, none⟩ = some (.bool f3) ∧ wx.cell? ⟨w1.heap.size, 4, none⟩ = some (.string f4) ∧ wx.cell? ⟨w1.heap.size, 5, none⟩ = some (.string f5) ∧ wx.cell? ⟨w1.heap.size, 6, none⟩ = some (.int .i64 f6) ∧ wx.cell? ⟨w1.heap.size, 7, none⟩ = some (.int .u8 f7)))
        (refine ⟨?_, hK _ ?_⟩ <;> (repeat (first | refine Below.setCell ?_ (by first | exact Nat.le_refl _ | exact hbs) _ | refine Below.alloc ?_ (by first | exact Nat.le_refl _ | exact hbs) _ | refine Below.drew ?_ | exact hby | exact Below.refl _ _)))
        (first | (go_at_call 39; refine (hNew _ (hb02.trans (Below.mono (B := W2.heap.size) (by first | assumption | exact ((Below.refl _ W2).alloc (Nat.le_refl _) _).drew) s2))).mono ?_; rintro e w3 ⟨g, cx, gr, rfl, hg1, hg2, hg3, hbox3, hv3, hb3⟩; have hby := growB (by first | assumption | exact ((Below.refl _ W2).alloc (Nat.le_refl _) _).drew) hb3; have hbs := hby.size; have hbs3 := hb3.size; have HBX3 : Hid _ := hbox3; have HV3 : Hid _ := hv3; clear hbox3 hv3; (first | (have HZ : Hid (w3.heap[W2.heap.size]? = some (.cells #[.int .u16 0, .string ⟨#[]⟩, .bool false, .bool false, .string ⟨#[]⟩, .string ⟨#[]⟩, .int .i64 0, .int .u8 0, .int .u32 0, .pointer none] 94 (0, 0))) := (hb3.block _ (by simp)).trans (alloc_new W2 _ _); have kZ := zero_box hb3 (by simp) (alloc_new W2 #[.int .u16 0, .string ⟨#[]⟩, .bool false, .bool false, .string ⟨#[]⟩, .string ⟨#[]⟩, .int .i64 0, .int .u8 0, .int .u32 0, .pointer none] 94); obtain ⟨z0, z1, z2, z3, z4, z5, z6, z7, z8, z9, zf⟩ := kZ) | skip)))
      · have kA := alloc_new w3 (rdrC op (f1, f2, f3, f4, f5, f6, f7) b gr) 94
        have hbA : Below w3.heap.size w3 (w3.alloc (.cells (rdrC op (f1, f2, f3, f4, f5, f6, f7) b gr) 94)) := (Below.refl _ _).alloc (Nat.le_refl _) _
        have hgl := (Array.getElem?_eq_some_iff.1 HBX3.out).1
        have hSA : RdS (w3.alloc (.cells (rdrC op (f1, f2, f3, f4, f5, f6, f7) b gr) 94)) w3.heap.size op (f1, f2, f3, f4, f5, f6, f7) b gr g n cx 0 zs :=
          ⟨kA, by omega, rdr_grown (g := w3.heap.size) HBX3.out HV3.out hg2 hl (Nat.zero_le _) hg3 hn hw ⟨hbA.os, hbA.tape, hbA.output, hbA.size, fun k hk _ => hbA.block k hk⟩ (by omega) (by have := (hg2); omega)⟩
        have hbW := hb02.trans ((hby.trans (hbA.mono hbs)).mono s2)
        have kXA := ((hby.trans (hbA.mono hbs)).block _ (by omega)).trans HKX2.out
        have hC := HRI.out w3.heap.size gr g cx _ hSA
        have hgg : w.heap.size ≤ gr ∧ w.heap.size + 1 ≠ gr := by have : W2.heap.size ≤ g := hg1; omega
        obtain ⟨hgg, hgn⟩ := hgg
        clear hSA kA hbA HBX3 HV3 HKX2 HKR2 HKF HRI hby hK
        unfold rdrC at *
        simp only at *
        go_wp2_with fail
        generalize w3.alloc _ = WA at hC hbW kXA ⊢
        have hlA : w.heap.size + 1 < WA.heap.size := (Array.getElem?_eq_some_iff.1 kXA).1
        refine hC.mono ?_
        rintro e w5 ⟨hg5, a5, m5, c5, rfl, hm5, hown5⟩
        have kX5 := grown_block hg5 kXA (by omega)
        have hb5 := grown_below hbW hg5 hgg
        obtain ⟨x0, x1, x2, x3, xf⟩ := cells4 kX5
        obtain ⟨⟨io, it, ir, il⟩, ie⟩ := I
        unfold instV
        simp only at *
        clear hC kXA hbW hg5
        go_wp2
        have hB4 := four_put kX5 (.int .u16 io) (.int .u32 it) (.int .u32 ir) (.slice a5 m5 c5)
        have hBel := hb5.trans ((four_keep w5 (w.heap.size + 1) (.int .u16 io) (.int .u32 it) (.int .u32 ir) (.slice a5 m5 c5)).mono (by omega))
        have hown8 := own_lo' (ownFar2 (ownFar2 (ownFar2 (ownFar2 hown5 hlA 0 (.int .u16 io)) hlA 1 (.int .u32 it)) hlA 2 (.int .u32 ir)) hlA 3 (.slice a5 m5 c5)) (show w.heap.size ≤ WA.heap.size by omega)
        clear x0 x1 x2 x3 xf kX5 hb5 hown5
        generalize (((w5.setCell ⟨w.heap.size + 1, 0, none⟩ (.int .u16 io)).setCell ⟨w.heap.size + 1, 1, none⟩ (.int .u32 it)).setCell ⟨w.heap.size + 1, 2, none⟩ (.int .u32 ir)).setCell ⟨w.heap.size + 1, 3, none⟩ (.slice a5 m5 c5) = WF at hB4 hBel hown8 ⊢
        obtain ⟨d0, d1, d2, d3, _⟩ := cells4 hB4
        refine bodyPost_ret (v := .tuple #[.agg #[.int .u16 io, .int .u32 it, .int .u32 ir, .slice a5 m5 c5], .int .i64 ie]) ?_ rfl ⟨hBel, a5, m5, c5, rfl, hm5, hown8⟩
        simp [results, Try.results19, go_sem, d0, d1, d2, d3]
      · have kA := ten_put HZ.out (.int .u16 op) (.string f1) (.bool f2) (.bool f3) (.string f4) (.string f5) (.int .i64 f6) (.int .u8 f7) (.int .u32 b) (.pointer (some ⟨gr, 0, none⟩))
        have hgA := ten_grown w3 W2.heap.size (.int .u16 op) (.string f1) (.bool f2) (.bool f3) (.string f4) (.string f5) (.int .i64 f6) (.int .u8 f7) (.int .u32 b) (.pointer (some ⟨gr, 0, none⟩))
        have hgl := (Array.getElem?_eq_some_iff.1 HBX3.out).1
        have hg1' : W2.heap.size + 1 ≤ g := by simpa using hg1
        have hSA : RdS (tenW w3 W2.heap.size (.int .u16 op) (.string f1) (.bool f2) (.bool f3) (.string f4) (.string f5) (.int .i64 f6) (.int .u8 f7) (.int .u32 b) (.pointer (some ⟨gr, 0, none⟩))) W2.heap.size op (f1, f2, f3, f4, f5, f6, f7) b gr g n cx 0 zs :=
          ⟨kA, by omega, rdr_grown HBX3.out HV3.out hg2 hl (Nat.zero_le _) hg3 hn hw hgA (by omega) (by omega)⟩
        have hbA : Below W2.heap.size W2 (tenW w3 W2.heap.size (.int .u16 op) (.string f1) (.bool f2) (.bool f3) (.string f4) (.string f5) (.int .i64 f6) (.int .u8 f7) (.int .u32 b) (.pointer (some ⟨gr, 0, none⟩))) := hby.grown hgA hbs (fun k e => by cases e; exact Nat.le_refl _)
        have hbW := hb02.trans (hbA.mono s2)
        have kXA := (hbA.block _ (by omega)).trans HKX2.out
        have hC := HRI.out W2.heap.size gr g cx _ hSA
        obtain ⟨hgg, hgn⟩ : w.heap.size ≤ gr ∧ w.heap.size + 1 ≠ gr := by omega
        clear hSA kA hbA HBX3 HV3 HKX2 HKR2 HKF HRI hby hK hgA HZ z0 z1 z2 z3 z4 z5 z6 z7 z8 z9 zf
        unfold tenW at *
        go_wp2_with fail
        generalize (((((((((w3.setCell _ _).setCell _ _).setCell _ _).setCell _ _).setCell _ _).setCell _ _).setCell _ _).setCell _ _).setCell _ _).setCell _ _ = WA at hC hbW kXA ⊢
        have hlA : w.heap.size + 1 < WA.heap.size := (Array.getElem?_eq_some_iff.1 kXA).1
        refine hC.mono ?_
        rintro e w5 ⟨hg5, a5, m5, c5, rfl, hm5, hown5⟩
        have kX5 := grown_block hg5 kXA (by omega)
        have hb5 := grown_below hbW hg5 hgg
        obtain ⟨x0, x1, x2, x3, xf⟩ := cells4 kX5
        obtain ⟨⟨io, it, ir, il⟩, ie⟩ := I
        unfold instV
        simp only at *
        clear hC kXA hbW hg5
        go_wp2
        have hB4 := four_put kX5 (.int .u16 io) (.int .u32 it) (.int .u32 ir) (.slice a5 m5 c5)
        have hBel := hb5.trans ((four_keep w5 (w.heap.size + 1) (.int .u16 io) (.int .u32 it) (.int .u32 ir) (.slice a5 m5 c5)).mono (by omega))
        have hown8 := own_lo' (ownFar2 (ownFar2 (ownFar2 (ownFar2 hown5 hlA 0 (.int .u16 io)) hlA 1 (.int .u32 it)) hlA 2 (.int .u32 ir)) hlA 3 (.slice a5 m5 c5)) (show w.heap.size ≤ WA.heap.size by omega)
        clear x0 x1 x2 x3 xf kX5 hb5 hown5
        generalize (((w5.setCell ⟨w.heap.size + 1, 0, none⟩ (.int .u16 io)).setCell ⟨w.heap.size + 1, 1, none⟩ (.int .u32 it)).setCell ⟨w.heap.size + 1, 2, none⟩ (.int .u32 ir)).setCell ⟨w.heap.size + 1, 3, none⟩ (.slice a5 m5 c5) = WF at hB4 hBel hown8 ⊢
        obtain ⟨d0, d1, d2, d3, _⟩ := cells4 hB4
        refine bodyPost_ret (v := .tuple #[.agg #[.int .u16 io, .int .u32 it, .int .u32 ir, .slice a5 m5 c5], .int .i64 ie]) ?_ rfl ⟨hBel, a5, m5, c5, rfl, hm5, hown8⟩
        simp [results, Try.results19, go_sem, d0, d1, d2, d3]
    · have h0' : (lookF refT op).2 = false := by simpa using h0
      have hI2 : I = (noInst, 30) := by rw [hI, instI, if_neg HBG.out, if_pos h0']
      subst hI2
      have eV : ofV op = formV 0 noFrm := by unfold ofV; rw [if_neg h0]
      rw [h0', eV] at hOf
      unfold formV noFrm at hOf
      clear hI h0 h0' eV hf
      simp only at *
      go_enter Try.func19, Try.ntmps19
      go_wp2_with fail
      have kR := HR.out
      have kX := HX.out
      have hB0 := HB0.out
      clear HR HX HB0
      generalize (w.alloc (.cells #[.int .u16 op, .slice (some x) n cap] 46)).alloc (.cells #[.int .u16 0, .int .u32 0, .int .u32 0, .slice none 0 0] 43) = W0 at *
      have l0 := (Array.getElem?_eq_some_iff.1 kX).1
      refine (hOf _).mono ?_
      rintro e w1 ⟨rfl, hb1⟩
      have s1 := hb1.size
      have kX1 := (hb1.block _ l0).trans kX
      have hb01 := hB0.trans (hb1.mono (by omega))
      have hb2 : Below w1.heap.size w1 (w1.alloc (.cells #[.int .u16 0, .string ⟨#[]⟩, .bool false, .bool false, .string ⟨#[]⟩, .string ⟨#[]⟩, .int .i64 0, .int .u8 0] 81)) := (Below.refl _ _).alloc (Nat.le_refl _) _
      have kX2 := (hb2.block _ (by omega)).trans kX1
      have hb02 := hb01.trans (hb2.mono (by omega))
      obtain ⟨x0, x1, x2, x3, xf⟩ := cells4 kX2
      clear hb1 kR kX hB0 hOf kX1 hb01 hb2
      go_wp2
      have hB4 := four_put kX2 (.int .u16 0) (.int .u32 0) (.int .u32 0) (.slice none 0 0)
      have hBel := hb02.trans ((four_keep _ (w.heap.size + 1) (.int .u16 0) (.int .u32 0) (.int .u32 0) (.slice none 0 0)).mono (by omega))
      clear x0 x1 x2 x3 xf kX2 hb02
      generalize ((((w1.alloc _).setCell _ _).setCell _ _).setCell _ _).setCell _ _ = WF at hB4 hBel ⊢
      obtain ⟨d0, d1, d2, d3, _⟩ := cells4 hB4
      refine bodyPost_ret (v := .tuple #[.agg #[.int .u16 0, .int .u32 0, .int .u32 0, .slice none 0 0], .int .i64 30]) ?_ rfl ⟨hBel, none, 0, 0, rfl, rfl, World.ownsRow_nil _ _ _ _⟩
      simp [results, Try.results19, go_sem, d0, d1, d2, d3]

end Go.Proofs.Ytpggcpnjcalfaab

/-
  What Split of the words package returns, for every list of bytes: its error, and its words in new memory; nothing that was there has turned.
-/
namespace Go.Proofs.Ytpggcpnjcalfaab
open Go.RowKit
set_option maxRecDepth 10000

theorem Split.info : (Try.prog.info? 22).map (fun i => (i.zero, i.size, i.bytes)) = some (some (.int .u32 0), 1, 4) := by kernel_rfl

theorem split_large (a : Option Addr) (n cap : Nat) (w : World) (h : 4194304 < n) :
    Calls Try.prog 32 #[.slice a n cap] w fun e w' => e = .returned (.tuple #[.slice none 0 0, .int .i64 4]) ∧ w = w' := by
  have h' : (4194304 : Int) < (n : Int) := by omega
  go_enter Try.func32, Try.ntmps32
  go_wp2
  go_ret2
  exact ⟨rfl, rfl⟩

theorem split_odd (a : Option Addr) (n cap : Nat) (w : World) (h : ¬ 4194304 < n) (h2 : ¬ n % 4 = 0) :
    Calls Try.prog 32 #[.slice a n cap] w fun e w' => e = .returned (.tuple #[.slice none 0 0, .int .i64 10]) ∧ w = w' := by
  have h' : ¬ (4194304 : Int) < (n : Int) := by omega
  have h2' : (((n : Int) % 4) == 0) = false := by simp; omega
  go_enter Try.func32, Try.ntmps32
  go_wp2
  go_ret2
  exact ⟨rfl, rfl⟩

set_option maxHeartbeats 1000000 in
theorem split_ok (a : Option Addr) (m cap : Nat) (zs : List Int) (w : World) (ha : View .u8 w a zs) (hl : zs.length = 4 * m) (hw : Within 256 zs) (h : ¬ 4194304 < 4 * m) :
    Calls Try.prog 32 #[.slice a (4 * m) cap] w fun e w' => e = .returned (.tuple #[.slice (some ⟨w.heap.size, 0, none⟩) m m, .int .i64 0]) ∧
      w'.ownsRow w.heap.size 22 1 (.slice (some ⟨w.heap.size, 0, none⟩) m m) m ((splitL zs).map (Value.int .u32)) ∧ Below w.heap.size w w' := by
  obtain ⟨i0, hi, hz0, hz1, hz2⟩ := info_parts Split.info
  have HL : Hid (zs.length = 4 * m) := hl
  clear hl
  have h' : ¬ (4194304 : Int) < 4 * (m : Int) := by omega
  go_enter Try.func32, Try.ntmps32
  go_wp2_with (at_make; refine wpList_make_full _ rfl _ _ 44 rfl w.heap.size 22 i0 (.int .u32 0) 1 Try.underlying44 hi hz0 hz1 _ _ _ _ m rfl rfl (by omega) (by omega) (by rw [hz2]; omega) (by unfold maxLen; omega) (Nat.le_refl _) ?_)
  intro w1 hown1 hgrow1
  have hb1 : Below w.heap.size w w1 := (Below.refl _ w).grown hgrow1 (Nat.le_refl _) (by simp)
  have hr1 := made_row zs hown1
  rw [← partL_zero zs zs] at hr1
  clear hown1 hgrow1
  go_wp2
  go_loopw [20] (fun i wr => ∃ k : Nat, k ≤ 4 * m ∧ i = .int .i64 k ∧ wr.ownsRow w.heap.size 22 1 (.slice (some ⟨w.heap.size, 0, none⟩) m m) m ((partL zs k m).map (Value.int .u32)) ∧ Below w.heap.size w wr)
    (fun i _ => 4 * m - (intOf i).toNat)
  case atStart => exact ⟨0, Nat.zero_le _, rfl, hr1, hb1⟩
  case round =>
    obtain ⟨k, hk, rfl, hown, hnx⟩ := hrel
    clear hr1 hb1
    by_cases hlt : k < 4 * m
    · obtain ⟨b, off, rfl, hbs, hc⟩ := ha k (by rw [HL.out]; exact hlt)
      have hx := hw.at (k := k) (by rw [HL.out]; exact hlt)
      have hcr : wr.cell? ⟨b, off + k, none⟩ = some (.int .u8 (nth zs k)) := (hnx.cell (p := ⟨b, off + k, none⟩) hbs).trans hc
      have hpb := partW_bounds zs k (k / 4) hw (by rw [HL.out]; omega)
      have HP : Hid (bits .or .u32 (partW zs k (k / 4)) (plc (nth zs k) (k % 4)) = partW zs (k + 1) (k / 4)) := partW_step zs k hw (by rw [HL.out]; exact hlt)
      have hd : wr.cell? ⟨w.heap.size, k / 4, none⟩ = some (.int .u32 (partW zs k (k / 4))) := by
        rw [hown.cellAt (k / 4) (by omega)]
        have : k / 4 < m := by omega
        simp [partL, this]
      have hf : wr.frozen? ⟨w.heap.size, k / 4, none⟩ = false := hown.frozenAt _
      have hs := (hown.stored (k / 4) (.int .u32 (partW zs (k + 1) (k / 4)))).1
      rw [← List.map_set, partL_set] at hs
      generalize nth zs k = x at hx hcr HP
      generalize partW zs k (k / 4) = y at hpb hd HP
      have hx0 := hx.1
      have hx1 := hx.2
      have hy0 := hpb.1
      have hy1 := hpb.2
      have hk0 : (0 : Int) ≤ (k : Int) / 4 := by omega
      have hk4 : (k : Int) / 4 < (m : Int) := by omega
      have eq : (k : Int).tdiv 4 = ((k / 4 : Nat) : Int) := by rw [Int.tdiv_eq_ediv_of_nonneg (by omega)]; omega
      have em : (k : Int).tmod 4 = ((k % 4 : Nat) : Int) := by rw [Int.tmod_eq_emod_of_nonneg (by omega)]; omega
      have eq' : (k : Int) / 4 = ((k / 4 : Nat) : Int) := by omega
      have em' : (k : Int) % 4 = ((k % 4 : Nat) : Int) := by omega
      have hj : k / 4 < m := by omega
      have hr : k % 4 < 4 := by omega
      have HS : Hid ((wr.setCell ⟨w.heap.size, k / 4, none⟩ (.int .u32 (bits .or .u32 y (plc x (k % 4))))).ownsRow w.heap.size 22 1 (.slice (some ⟨w.heap.size, 0, none⟩) m m) m ((partL zs (k + 1) m).map (Value.int .u32))) := by rw [HP.out]; exact hs
      clear hc hx hpb hown ha hs HP hk0 hk4
      generalize k / 4 = j at *
      generalize k % 4 = r at *
      have hA := fun wx => atPlace_any x (r : Int) wx hx0 hx1 (by omega) (by omega)
      have hj0 : (0 : Int) ≤ (j : Int) := by omega
      have hj1 : (j : Int) < (m : Int) := by omega
      have hwj : IntKind.i64.wrap (j : Int) = (j : Int) := by rw [IntKind.wrap_i64]; omega
      go_wp2
      go_region_with (go_at_call 50; refine (hA _).mono ?_; rintro e w' ⟨rfl, rfl⟩)
      all_goals
        go_wp2
        go_roundw
        case rel => exact ⟨k + 1, by omega, by go_num, HS.out.drew, (hnx.setCell (Nat.le_refl _) _).drew⟩
        case measure => simp [intOf]; omega
    · go_wp2
      go_ret2
      obtain rfl : k = 4 * m := by omega
      have e := partL_whole zs (by rw [HL.out]; omega)
      rw [HL.out, show 4 * m / 4 = m by omega] at e
      rw [e] at hown
      exact ⟨rfl, hown, hnx⟩

theorem split_any (a : Option Addr) (n cap : Nat) (zs : List Int) (w : World) (ha : View .u8 w a zs) (hl : zs.length = n) (hw : Within 256 zs) :
    Calls Try.prog 32 #[.slice a n cap] w fun e w' => ∃ ax m, e = .returned (.tuple #[.slice ax m m, .int .i64 (splitErr zs)]) ∧ (splitOut zs).length = m ∧ View .u32 w' ax (splitOut zs) ∧ NewAt w.heap.size ax ∧ Below w.heap.size w w' := by
  by_cases h : 4194304 < n
  · refine (split_large a n cap w h).mono ?_
    rintro e w' ⟨rfl, rfl⟩
    rw [splitErr_large zs (by omega), splitOut_large zs (by omega)]
    exact ⟨none, 0, rfl, rfl, view_nil, newAt_none, Below.refl _ _⟩
  · by_cases h2 : n % 4 = 0
    · obtain ⟨m, rfl⟩ : ∃ m, n = 4 * m := ⟨n / 4, by omega⟩
      refine (split_ok a m cap zs w ha hl hw h).mono ?_
      rintro e w' ⟨rfl, hown, hb⟩
      rw [splitErr_ok zs (by omega) (by omega), splitOut_ok zs (by omega) (by omega)]
      have hs : (splitL zs).length = m := by rw [splitL_len, hl]; omega
      exact ⟨_, m, rfl, hs, View.ofRow hown hs, newAt_mk (Nat.le_refl _), hb⟩
    · refine (split_odd a n cap w h h2).mono ?_
      rintro e w' ⟨rfl, rfl⟩
      rw [splitErr_odd zs (by omega) (by omega), splitOut_odd zs (by omega) (by omega)]
      exact ⟨none, 0, rfl, rfl, view_nil, newAt_none, Below.refl _ _⟩

end Go.Proofs.Ytpggcpnjcalfaab

/-
  What Decode of the package code answers, for all bytes that are no module.
-/
namespace Go.Proofs.Ytpggcpnjcalfaab
open Go.RowKit
set_option linter.unusedVariables false
set_option linter.unusedSimpArgs false
set_option maxRecDepth 10000

/-- The boxes of Decode's answer. -/
structure DecB (w W : World) (v0 v1 v2 v3 v4 : Value) : Prop where
  mod : W.heap[w.heap.size]? = some (.cells #[v0, v1, v2] 25 (0, 0))
  spot : W.heap[w.heap.size + 1]? = some (.cells #[v3, v4] 28 (0, 0))
  bel : Below w.heap.size w W

theorem decB_new (w : World) : DecB w ((w.alloc (.cells #[.int .u32 0, .int .u32 0, .slice none 0 0] 25)).alloc (.cells #[.int .i64 0, .int .i64 0] 28)) (.int .u32 0) (.int .u32 0) (.slice none 0 0) (.int .i64 0) (.int .i64 0) :=
  ⟨(Below.heap_alloc _ _ _ (by simp)).trans (alloc_new w _ _), by simpa using alloc_new (w.alloc (.cells #[.int .u32 0, .int .u32 0, .slice none 0 0] 25)) #[.int .i64 0, .int .i64 0] 28, ((Below.refl _ w).alloc (Nat.le_refl _) _).alloc (by simp) _⟩
theorem DecB.below {w W W' : World} {v0 v1 v2 v3 v4 : Value} (h : DecB w W v0 v1 v2 v3 v4) (hb : Below W.heap.size W W') : DecB w W' v0 v1 v2 v3 v4 :=
  ⟨(hb.block _ (Array.getElem?_eq_some_iff.1 h.mod).1).trans h.mod, (hb.block _ (Array.getElem?_eq_some_iff.1 h.spot).1).trans h.spot, h.bel.trans (hb.mono h.bel.size)⟩
theorem DecB.cells {w W : World} {v0 v1 v2 v3 v4 : Value} (h : DecB w W v0 v1 v2 v3 v4) : W.cell? ⟨w.heap.size, 0, none⟩ = some v0 ∧ W.cell? ⟨w.heap.size, 1, none⟩ = some v1 ∧ W.cell? ⟨w.heap.size, 2, none⟩ = some v2 ∧ W.cell? ⟨w.heap.size + 1, 0, none⟩ = some v3 ∧ W.cell? ⟨w.heap.size + 1, 1, none⟩ = some v4 := by
  obtain ⟨h1, _⟩ := one_block h.mod
  obtain ⟨h2, _⟩ := one_block h.spot
  exact ⟨h1 0, h1 1, h1 2, h2 0, h2 1⟩
theorem DecB.free {w W : World} {v0 v1 v2 v3 v4 : Value} (h : DecB w W v0 v1 v2 v3 v4) : W.frozen? ⟨w.heap.size, 0, none⟩ = false ∧ W.frozen? ⟨w.heap.size, 1, none⟩ = false ∧ W.frozen? ⟨w.heap.size, 2, none⟩ = false ∧ W.frozen? ⟨w.heap.size + 1, 0, none⟩ = false ∧ W.frozen? ⟨w.heap.size + 1, 1, none⟩ = false := by
  obtain ⟨_, h1⟩ := one_block h.mod
  obtain ⟨_, h2⟩ := one_block h.spot
  exact ⟨h1 0, h1 1, h1 2, h2 0, h2 1⟩
/-- All five cells are stored. -/
def fiveW (w W : World) (u0 u1 u2 u3 u4 : Value) : World := ((((W.setCell ⟨w.heap.size, 0, none⟩ u0).setCell ⟨w.heap.size, 1, none⟩ u1).setCell ⟨w.heap.size, 2, none⟩ u2).setCell ⟨w.heap.size + 1, 0, none⟩ u3).setCell ⟨w.heap.size + 1, 1, none⟩ u4
theorem DecB.put {w W : World} {v0 v1 v2 v3 v4 : Value} (h : DecB w W v0 v1 v2 v3 v4) (u0 u1 u2 u3 u4 : Value) : DecB w (fiveW w W u0 u1 u2 u3 u4) u0 u1 u2 u3 u4 := by
  have k1 := three_set3 h.mod u0 u1 u2
  have k2 : (((W.setCell ⟨w.heap.size, 0, none⟩ u0).setCell ⟨w.heap.size, 1, none⟩ u1).setCell ⟨w.heap.size, 2, none⟩ u2).heap[w.heap.size + 1]? = some (.cells #[v3, v4] 28 (0, 0)) := (Below.heap_setCell _ _ _ _ (by simp)).trans ((Below.heap_setCell _ _ _ _ (by simp)).trans ((Below.heap_setCell _ _ _ _ (by simp)).trans h.spot))
  refine ⟨(Below.heap_setCell _ _ _ _ (by simp)).trans ((Below.heap_setCell _ _ _ _ (by simp)).trans k1), two_put2 k2 u3 u4, ?_⟩
  exact ((((h.bel.setCell (by simp) _).setCell (by simp) _).setCell (by simp) _).setCell (by simp) _).setCell (by simp) _
theorem DecB.drew {w W : World} {v0 v1 v2 v3 v4 : Value} (h : DecB w W v0 v1 v2 v3 v4) : DecB w W.drew v0 v1 v2 v3 v4 := h.below (below_drew W)
theorem fiveW_grown (w W : World) (u0 u1 u2 u3 u4 : Value) : ∀ k, k ≠ w.heap.size → k ≠ w.heap.size + 1 → (fiveW w W u0 u1 u2 u3 u4).heap[k]? = W.heap[k]? := fun k h1 h2 => by
  unfold fiveW
  rw [Below.heap_setCell _ _ _ _ (by simpa using h2), Below.heap_setCell _ _ _ _ (by simpa using h2), Below.heap_setCell _ _ _ _ (by simpa using h1), Below.heap_setCell _ _ _ _ (by simpa using h1), Below.heap_setCell _ _ _ _ (by simpa using h1)]

set_option maxHeartbeats 2000000 in
/-- Bytes that are no words. -/
theorem decode_split (a : Option Addr) (n cap : Nat) (bs : List Int) (w : World) (ha : View .u8 w a bs) (hl : bs.length = n) (hw : Within 256 bs) (h : splitErr bs ≠ 0) :
    Calls Try.prog 13 #[.slice a n cap] w fun e w' => e = .returned (.tuple #[modV 0 0 none 0 0, .agg #[.int .i64 (splitErr bs), .int .i64 0]]) ∧ Below w.heap.size w w' := by
  have hS := fun wx (hb : Below w.heap.size w wx) => split_any a n cap bs wx (ha.below hb) hl hw
  have heb : (splitErr bs == 0) = false := by simpa using h
  generalize splitErr bs = er at *
  generalize splitOut bs = so at *
  clear ha hl hw h
  have hD0 := decB_new w
  have hC := hS _ hD0.bel
  have HD0 : Hid (DecB _ _ _ _ _ _ _) := hD0
  clear hS hD0
  unfold modV
  go_enter Try.func13, Try.ntmps13
  go_wp2_with fail
  have hD0 := HD0.out
  clear HD0
  generalize (w.alloc (.cells #[.int .u32 0, .int .u32 0, .slice none 0 0] 25)).alloc (.cells #[.int .i64 0, .int .i64 0] 28) = W0 at *
  refine hC.mono ?_
  rintro e w1 ⟨ax, m, rfl, hm, _, _, hb1⟩
  have hD1 := hD0.below hb1
  obtain ⟨c0, c1, c2, c3, c4⟩ := hD1.cells
  obtain ⟨f0, f1, f2, f3, f4⟩ := hD1.free
  have hD2 := hD1.put (.int .u32 0) (.int .u32 0) (.slice none 0 0) (.int .i64 er) (.int .i64 0)
  have HD2 : Hid (DecB _ _ _ _ _ _ _) := hD2
  clear hC hD0 hD1 hb1 hD2 hm
  go_wp2
  have hD2 := HD2.out
  unfold fiveW at hD2
  clear HD2 c0 c1 c2 c3 c4 f0 f1 f2 f3 f4
  generalize ((((w1.setCell _ _).setCell _ _).setCell _ _).setCell _ _).setCell _ _ = W at hD2 ⊢
  obtain ⟨d0, d1, d2, d3, d4⟩ := hD2.cells
  refine bodyPost_ret (v := .tuple #[.agg #[.int .u32 0, .int .u32 0, .slice none 0 0], .agg #[.int .i64 er, .int .i64 0]]) ?_ rfl ⟨rfl, hD2.bel⟩
  simp [results, Try.results13, go_sem, d0, d1, d2, d3, d4]

set_option maxHeartbeats 2000000 in
/-- Words that no frame has. -/
theorem decode_read (a : Option Addr) (n cap : Nat) (bs : List Int) (w : World) (ha : View .u8 w a bs) (hl : bs.length = n) (hw : Within 256 bs) (h : splitErr bs = 0) (h2 : (readE (splitL bs)).1 ≠ 0) :
    Calls Try.prog 13 #[.slice a n cap] w fun e w' => e = .returned (.tuple #[modV 0 0 none 0 0, .agg #[.int .i64 (readE (splitL bs)).1, .int .i64 (readE (splitL bs)).2]]) ∧ Below w.heap.size w w' := by
  have hS := fun wx (hb : Below w.heap.size w wx) => split_any a n cap bs wx (ha.below hb) hl hw
  have hso : splitOut bs = splitL bs := by unfold splitOut; rw [if_pos h]
  rw [hso, h] at hS
  have hsm : 4 * (splitL bs).length ≤ 140737488351232 := by
    rw [splitL_len]
    unfold splitErr at h
    by_cases h3 : 4194304 < bs.length
    · rw [if_pos h3] at h; cases h
    · omega
  have hR := fun ax m wx (hv : View .u32 wx ax (splitL bs)) (hm : (splitL bs).length = m) => readC ax m m (splitL bs) wx hv hm (splitL_within bs hw) (by omega) (Nat.le_refl _)
  have heb : ((readE (splitL bs)).1 == 0) = false := by simpa using h2
  generalize hq1 : (readE (splitL bs)).1 = e1 at *
  generalize hq2 : (readE (splitL bs)).2 = e2 at *
  have hr2 : readAt (splitL bs) 2 = 0 := by unfold readAt; rw [hq1, if_neg h2]
  have hr3 : readAt (splitL bs) 3 = 0 := by unfold readAt; rw [hq1, if_neg h2]
  rw [hr2, hr3] at hR
  generalize splitL bs = zs at *
  clear ha hl hw h h2 hso hsm hr2 hr3 hq1 hq2
  have hD0 := decB_new w
  have hC := hS _ hD0.bel
  have HD0 : Hid (DecB _ _ _ _ _ _ _) := hD0
  clear hS hD0
  unfold modV
  go_enter Try.func13, Try.ntmps13
  go_wp2_with fail
  have hD0 := HD0.out
  clear HD0
  generalize (w.alloc (.cells #[.int .u32 0, .int .u32 0, .slice none 0 0] 25)).alloc (.cells #[.int .i64 0, .int .i64 0] 28) = W0 at *
  refine hC.mono ?_
  rintro e w1 ⟨ax, m, rfl, hm, hv1, _, hb1⟩
  have hD1 := hD0.below hb1
  have hC2 := hR ax m w1 hv1 hm
  have HM : Hid _ := hm
  clear hC hD0 hb1 hR hv1 hm
  go_wp2_with fail
  refine hC2.mono ?_
  rintro e w2 ⟨hb2, ay, cy, m2, rfl, hm2, _⟩
  have hD2 := (hD1.below hb2).below (((Below.refl _ w2).alloc (Nat.le_refl _) (.cells #[.int .u32 0, .int .u32 0] 68)).alloc (by simp) (.cells #[.int .i64 e1, .int .i64 (e2 : Int)] 28))
  obtain ⟨c0, c1, c2, c3, c4⟩ := hD2.cells
  obtain ⟨f0, f1, f2, f3, f4⟩ := hD2.free
  have kS : ((w2.alloc (.cells #[.int .u32 0, .int .u32 0] 68)).alloc (.cells #[.int .i64 e1, .int .i64 (e2 : Int)] 28)).heap[w2.heap.size + 1]? = some (.cells #[.int .i64 e1, .int .i64 (e2 : Int)] 28 (0, 0)) := by simpa using alloc_new (w2.alloc (.cells #[.int .u32 0, .int .u32 0] 68)) #[.int .i64 e1, .int .i64 (e2 : Int)] 28
  obtain ⟨k0, k1, _⟩ := cell_of_two kS
  have hD3 := (hD2.put (.int .u32 0) (.int .u32 0) (.slice none 0 0) (.int .i64 e1) (.int .i64 (e2 : Int))).drew
  have hl2 := (Array.getElem?_eq_some_iff.1 (hD1.below hb2).spot).1
  have HD3 : Hid (DecB _ _ _ _ _ _ _) := hD3
  have hne : w2.heap.size + 1 ≠ w.heap.size := by omega
  have hne2 : w2.heap.size + 1 ≠ w.heap.size + 1 := by omega
  clear hC2 hD1 hb2 hD2 hD3 kS hm2
  go_wp2
  go_region
  all_goals
    go_wp2
    have hD2 := HD3.out
    unfold fiveW at hD2
    clear HD3 c0 c1 c2 c3 c4 f0 f1 f2 f3 f4 k0 k1
    generalize World.drew _ = W at hD2 ⊢
    obtain ⟨d0, d1, d2, d3, d4⟩ := hD2.cells
    refine bodyPost_ret (v := .tuple #[.agg #[.int .u32 0, .int .u32 0, .slice none 0 0], .agg #[.int .i64 e1, .int .i64 (e2 : Int)]]) ?_ rfl ⟨rfl, hD2.bel⟩
    simp [results, Try.results13, go_sem, d0, d1, d2, d3, d4]

end Go.Proofs.Ytpggcpnjcalfaab
