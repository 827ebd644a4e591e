/-
  The document's walk in the depth.
-/
import Derived.WalkSpells
import Derived.WalkMore
import Derived.OwnWalk
import Derived.Test.YtpdjmapmpicgjaaProg
import Derived.Test.YtpdjmapmpicgjaaBoxes
import Derived.Test.YtpdjmapmpicgjaaDrawAppend
import Derived.Test.YtpdjmapmpicgjaaGraphWalk0
import Derived.Test.YtpdjmapmpicgjaaRef14Of
namespace Go.Proofs.Ytpdjmapmpicgjaa
open Go.RowKit
set_option linter.unusedVariables false
set_option linter.unusedSimpArgs false
set_option maxRecDepth 10000

/-- The walker's memory, since the world W0. -/
structure RkS (W0 : World) (p : Nat) (w : World) (cv lv : Value) (c l : List Int) : Prop where
  blk : w.heap[p]? = some (.cells #[cv, lv] 64 (0, 0))
  came : w.ownsRow W0.heap.size 3 1 cv c.length (c.map (Value.int .i64))
  left : w.ownsRow W0.heap.size 3 1 lv l.length (l.map (Value.int .i64))
  apart : ∀ g, cv.ownBlock = some g → lv.ownBlock ≠ some g
  grown : W0.grownBy w (some p)
  plt : p < W0.heap.size
theorem twoCells {w : World} {p T : Nat} {a b : Value} (h : w.heap[p]? = some (.cells #[a, b] T (0, 0))) : w.cell? ⟨p, 0, none⟩ = some a ∧ w.cell? ⟨p, 1, none⟩ = some b ∧ w.frozen? ⟨p, 0, none⟩ = false ∧ w.frozen? ⟨p, 1, none⟩ = false := by
  refine ⟨?_, ?_, ?_, ?_⟩ <;> simp [World.cell?, World.frozen?, h]
theorem twoSet0 {w : World} {p T : Nat} {a b : Value} (h : w.heap[p]? = some (.cells #[a, b] T (0, 0))) (u : Value) : (w.setCell ⟨p, 0, none⟩ u).heap[p]? = some (.cells #[u, b] T (0, 0)) := by
  simp [World.setCell, Array.getElem?_modify, h]
theorem twoSet1 {w : World} {p T : Nat} {a b : Value} (h : w.heap[p]? = some (.cells #[a, b] T (0, 0))) (u : Value) : (w.setCell ⟨p, 1, none⟩ u).heap[p]? = some (.cells #[a, u] T (0, 0)) := by
  simp [World.setCell, Array.getElem?_modify, h]
theorem RkS.below {W0 : World} {p : Nat} {w w' : World} {cv lv : Value} {c l : List Int} (h : RkS W0 p w cv lv c l) (hb : Below w.heap.size w w') : RkS W0 p w' cv lv c l :=
  ⟨(hb.block p (Array.getElem?_eq_some_iff.1 h.blk).1).trans h.blk, own_below h.came hb, own_below h.left hb, h.apart, h.grown.trans ⟨hb.os, hb.tape, hb.output, hb.size, fun k hk _ => hb.block k hk⟩, h.plt⟩
theorem RkS.pushC {W0 : World} {p : Nat} {w w5 : World} {cv lv : Value} {c l : List Int} (h : RkS W0 p w cv lv c l) (i : Int) {g cap k : Nat} (hg : w.grownBy w5 cv.ownBlock) (hat : cv.ownBlock = some g ∨ w.heap.size ≤ g) (ho : w5.ownsRow W0.heap.size 3 1 (.slice (some ⟨g, 0, none⟩) k cap) (c ++ [i]).length ((c ++ [i]).map (Value.int .i64))) : w5.heap[p]? = some (.cells #[cv, lv] 64 (0, 0)) ∧ RkS W0 p (w5.setCell ⟨p, 0, none⟩ (.slice (some ⟨g, 0, none⟩) k cap)) (.slice (some ⟨g, 0, none⟩) k cap) lv (c ++ [i]) l := by
  have hp := h.plt
  have hne : ∀ j, cv.ownBlock = some j → W0.heap.size ≤ j := fun j e => (World.ownsRow.lt h.came j e).1
  have hb5 := (hg.block p (Array.getElem?_eq_some_iff.1 h.blk).1 (fun e => by have := hne p e.symm; omega)).trans h.blk
  have hl5 := own_grown h.left hg (fun j e => h.apart j e)
  refine ⟨hb5, twoSet0 hb5 _, ownsRow_setCell_below ho (by simp; exact hp) _, ownsRow_setCell_below hl5 (by simp; exact hp) _, fun j e e2 => ?_, ?_, hp⟩
  · cases e
    rcases hat with h1 | h1
    · exact h.apart g h1 e2
    · have := (World.ownsRow.lt h.left g e2).2; omega
  · exact (h.grown.andThen hg (fun j e => .inl (hne j e))).trans (grown_setCell w5 p 0 _)
theorem RkS.pushL {W0 : World} {p : Nat} {w w5 : World} {cv lv : Value} {c l : List Int} (h : RkS W0 p w cv lv c l) (i : Int) {g cap k : Nat} (hg : w.grownBy w5 lv.ownBlock) (hat : lv.ownBlock = some g ∨ w.heap.size ≤ g) (ho : w5.ownsRow W0.heap.size 3 1 (.slice (some ⟨g, 0, none⟩) k cap) (l ++ [i]).length ((l ++ [i]).map (Value.int .i64))) : w5.heap[p]? = some (.cells #[cv, lv] 64 (0, 0)) ∧ RkS W0 p (w5.setCell ⟨p, 1, none⟩ (.slice (some ⟨g, 0, none⟩) k cap)) cv (.slice (some ⟨g, 0, none⟩) k cap) c (l ++ [i]) := by
  have hp := h.plt
  have hne : ∀ j, lv.ownBlock = some j → W0.heap.size ≤ j := fun j e => (World.ownsRow.lt h.left j e).1
  have hb5 := (hg.block p (Array.getElem?_eq_some_iff.1 h.blk).1 (fun e => by have := hne p e.symm; omega)).trans h.blk
  have hl5 := own_grown h.came hg (fun j e e2 => h.apart j e2 e)
  refine ⟨hb5, twoSet1 hb5 _, ownsRow_setCell_below hl5 (by simp; exact hp) _, ownsRow_setCell_below ho (by simp; exact hp) _, fun j e e2 => ?_, ?_, hp⟩
  · cases e2
    rcases hat with h1 | h1
    · exact h.apart g e h1
    · have := (World.ownsRow.lt h.came g e).2; omega
  · exact (h.grown.andThen hg (fun j e => .inl (hne j e))).trans (grown_setCell w5 p 1 _)

/-- What stands round the document's walk. -/
structure RkC (W0 : World) (p G lo n : Nat) (nv : Value) (N : List (List Int)) : Prop where
  typ : ∃ cs fr, W0.heap[p]? = some (.cells cs 64 fr)
  gb : W0.heap[G]? = some (.cells #[nv] 59 (0, 0))
  ngb : G ≠ p
  next : OwnL W0 lo nv N
  len : N.length = n
  few : n ≤ 4096
  edges : Edges n N
  rows : ∀ j, (rowN N j).length ≤ 4096
theorem RkC.row {W0 : World} {p G lo n : Nat} {nv : Value} {N : List (List Int)} (hC : RkC W0 p G lo n nv N) {x : Nat} (hx : x < N.length) : ∃ h c aj cj, nv = .slice (some ⟨h, 0, none⟩) n c ∧ ∀ (w : World), W0.grownBy w (some p) → w.cell? ⟨h, x, none⟩ = some (.slice aj (rowN N x).length cj) ∧ View .i64 w aj (rowN N x) ∧ h < w.heap.size ∧ w.heap[G]? = some (.cells #[nv] 59 (0, 0)) := by
  obtain ⟨V, hV⟩ := hC.next
  obtain ⟨h, c, aj, cj, e1, e2, _, _, _⟩ := rowsL_read hV hx
  rw [hC.len] at e1
  refine ⟨h, c, aj, cj, e1, fun w hS => ?_⟩
  have hV' := rowsL_same (w' := w) hV (fun g cs T fr _ hTT hg => by
    refine (hS.block g (Array.getElem?_eq_some_iff.1 hg).1 (fun e => ?_)).trans hg
    cases e
    obtain ⟨cs', fr', h'⟩ := hC.typ
    rw [h'] at hg
    cases hg
    rcases hTT with e | e <;> exact absurd e (by decide))
  obtain ⟨h', c2, aj', cj', e1', e2', e3', e4', e5'⟩ := rowsL_read hV' hx
  rw [hC.len] at e1'
  rw [e1] at e1'
  rw [e2] at e2'
  cases e1'
  cases e2'
  rw [e2] at e3'
  exact ⟨e3', e4', e5', (hS.block G (Array.getElem?_eq_some_iff.1 hC.gb).1 (fun e => hC.ngb (Option.some.inj e))).trans hC.gb⟩

set_option maxHeartbeats 8000000 in
theorem refTo_any (W0 : World) (p G lo n : Nat) (nv : Value) (N : List (List Int)) (hC : RkC W0 p G lo n nv N) : ∀ (f : Nat) (i : Int) (s : WalkS) (w : World) (cv lv : Value), GoodC n s.1 → i ∉ s.1 → 0 ≤ i → i < n → n - s.1.length ≤ f → s.2.length ≤ s.1.length → RkS W0 p w cv lv s.1 s.2 →
    Calls Try.prog 38 #[.pointer (some ⟨p, 0, none⟩), .pointer (some ⟨G, 0, none⟩), .int .i64 i] w fun e w' => e = .returned (.tuple #[]) ∧ ∃ cv' lv', RkS W0 p w' cv' lv' (dfs N f i s).1 (dfs N f i s).2 := by
  intro f
  induction f with
  | zero =>
    intro i s w cv lv hg hi h0 h1 hl _ _
    have := (hg.snoc hi h0 h1).len
    simp at this; omega
  | succ f ih =>
    intro i s w cv lv hg hi h0 h1 hl hls hS
    obtain ⟨i0, hi0, hz0, hz1, hz2⟩ := info_parts GrInts.info
    have hgl := hg.len
    obtain ⟨x, rfl⟩ := Int.eq_ofNat_of_zero_le h0
    have hxn : x < n := by omega
    have hxN : x < N.length := by rw [hC.len]; exact hxn
    obtain ⟨h, cn, aj, cj, hnv, hrd⟩ := hC.row hxN
    have HRD := hide hrd
    have HK := hide (fun k => dfsK_seg N n hC.edges f (x : Int) s hg hi (by omega) (by omega) hl hls k)
    have HD := hide (dfs_succ N f (x : Int) s)
    have HKS := hide (dfsK_succ N f (x : Int) s)
    have HK0 := hide (dfsK_zero N f (x : Int) s)
    have hrow : rowN N (x : Int).toNat = rowN N x := by simp
    rw [hrow] at HD HKS
    have HC := hide hC
    have HIH := hide ih
    have HNJ := hide (hC.rows x)
    have HED : Hid (∀ q, q < (rowN N x).length → 0 ≤ nth (rowN N x) q ∧ nth (rowN N x) q < n) := fun q hq => hC.edges x _ (nth_memG _ _ hq)
    have HLEN : Hid (s.1.length ≤ 4096 ∧ s.2.length ≤ 4096) := by show _ ∧ _; have := hC.few; omega
    have hxi : (x : Int) < (n : Int) := by omega
    generalize dfs N (f + 1) (x : Int) s = RES at *
    generalize hnj : (rowN N x).length = nj at *
    have HNL := hide hnj
    have hnji : (nj : Int) ≤ 4096 := by have := HNJ.out; omega
    obtain ⟨a4, c4, rfl⟩ := own_shapeG hS.came
    obtain ⟨e0, e1, f0, _⟩ := twoCells hS.blk
    have hpw := (Array.getElem?_eq_some_iff.1 hS.blk).1
    have hSA := hS.below ((Below.refl w.heap.size w).alloc (Nat.le_refl _) (.cells #[.int .i64 (x : Int)] 3))
    have HSA := hide hSA
    have HWS := hide (show W0.heap.size ≤ w.heap.size from hS.grown.size)
    have HII := hide (And.intro hi0 (And.intro hz0 (And.intro hz1 hz2)))
    clear hC ih hg hi h0 h1 hl hls hgl hrd hnj hS hSA hi0 hz0 hz1 hz2 hxn hxN hrow
    go_enter Try.func38, Try.ntmps38
    go_wp2_with (at_builtin; refine wpList_append_lies _ rfl (.tmp 11) (.tmp 13) 32 rfl W0.heap.size 3 i0 (.int .i64 0) 1 8 Try.underlying32 HII.out.1 HII.out.2.1 HII.out.2.2.1 HII.out.2.2.2 rfl (by decide) (.slice a4 s.1.length c4) s.1.length _ rfl HSA.out.came ⟨w.heap.size, 0, none⟩ 1 1 [.int .i64 (x : Int)] rfl rfl (World.news_of_block (cs := #[.int .i64 (x : Int)]) (t := 3) (fr := (0, 0)) (allocNew _ _ rfl)) (by simp [Value.oneCell']) (by decide) (by unfold maxLen; have := HLEN.out; omega) (by have := HLEN.out; omega) (by rw [World.size_alloc]; have := HWS.out; omega) (w.heap.size + 1) (by simp) ?_)
    intro g1 cap1 w1 ho1 hg1 hb1 _
    obtain ⟨k1, hS1⟩ := HSA.out.pushC (x : Int) hg1 (by rcases hb1 with h | h; exact .inl h; exact .inr (by rw [World.size_alloc]; omega)) (by simpa using ho1)
    obtain ⟨q0, q1, qf, _⟩ := twoCells k1
    have HS1 := hide hS1
    clear ho1 hg1 hb1 hS1 HSA k1 e0 e1 f0
    go_wp2_with fail
    generalize hW1 : (w1.setCell ⟨p, 0, none⟩ (.slice (some ⟨g1, 0, none⟩) (s.1.length + 1) cap1)) = W1 at *
    clear hW1 q0 q1 qf
    go_loopw [6] (fun i wr => ∃ (q : Nat) (cv' lv' : Value), q ≤ nj ∧ i = .int .i64 q ∧ RkS W0 p wr cv' lv' (dfsK N f (x : Int) s q).1 (dfsK N f (x : Int) s q).2) (fun i _ => nj - (intOf i).toNat)
    case atStart => exact ⟨0, _, _, Nat.zero_le _, rfl, by rw [HK0.out]; exact HS1.out⟩
    case round =>
      obtain ⟨q, cv1, lv1, hq, rfl, hS⟩ := hrel
      clear HS1
      obtain ⟨r1, r2, r3, r4⟩ := HRD.out _ hS.grown
      rw [hnv] at r4
      have g4 := (oneCell r4).1
      obtain ⟨ca, cc, rfl, hvc, _⟩ := View.ofOwned hS.came
      obtain ⟨e0, e1, f0, f1⟩ := twoCells hS.blk
      have hpl := (Array.getElem?_eq_some_iff.1 hS.blk).1
      have hgl := (Array.getElem?_eq_some_iff.1 r4).1
      rename World => wl
      by_cases hlt : q < nj
      · obtain ⟨b2, o2, rfl, hb2, hcq⟩ := r2 q (by rw [HNL.out]; exact hlt)
        have hy := HED.out q hlt
        have HST := hide (HKS.out q (by first | exact hlt | (rw [HNL.out]; exact hlt)))
        obtain ⟨yn, hye⟩ := Int.eq_ofNat_of_zero_le hy.1
        rw [hye] at hcq hy HST
        have hyn : yn < n := by omega
        have hG := HK.out q
        have hqi : (q : Int) < (nj : Int) := by omega
        have HLT := hide hlt
        have HSS := hide hS
        generalize dfsK N f (x : Int) s q = tq at *
        have hcl : tq.1.length ≤ 4096 := by have := hG.1.len; have := HC.out.few; omega
        have hIN := fun wx (hx : Below wl.heap.size wl wx) => refIn14_any ca tq.1.length cc tq.1 (yn : Int) wx (hvc.below hx) rfl (by omega)
        have HIN2 : Hid (∀ b : Bool, decide ((yn : Int) ∈ tq.1) = b → dfsK N f (x : Int) s (q + 1) = if b then tq else dfs N f (yn : Int) tq) := fun b hb => by
          rw [HST.out]; unfold stepD
          cases b with
          | true => rw [if_pos (of_decide_eq_true hb)]; rfl
          | false => rw [if_neg (of_decide_eq_false hb)]; rfl
        have HREC : Hid (decide ((yn : Int) ∈ tq.1) = false → _) := fun hb => HIH.out (yn : Int) tq wl.drew _ lv1 hG.1 (of_decide_eq_false hb) (by omega) (by omega) hG.2.1 hG.2.2 (HSS.out.below (Below.refl wl.heap.size wl).drew)
        have HCE := hide (fun wx (hx : Below wl.heap.size wl wx) => (show wx.cell? ⟨p, 0, none⟩ = some (.slice ca tq.1.length cc) ∧ wx.cell? ⟨G, 0, none⟩ = some (.slice (some ⟨h, 0, none⟩) n cn) ∧ wx.cell? ⟨h, x, none⟩ = some (.slice (some ⟨b2, o2, none⟩) nj cj) ∧ wx.cell? ⟨b2, o2 + q, none⟩ = some (.int .i64 (yn : Int)) from ⟨(hx.cell (p := ⟨p, 0, none⟩) hpl).trans e0, (hx.cell (p := ⟨G, 0, none⟩) hgl).trans g4, (hx.cell (p := ⟨h, x, none⟩) r3).trans r1, (hx.cell (p := ⟨b2, o2 + q, none⟩) hb2).trans hcq⟩))
        generalize hrr : decide ((yn : Int) ∈ tq.1) = r at *
        have HE := hide (HIN2.out r rfl)
        have HIN := hide hIN
        have hC1 := (Below.refl wl.heap.size wl).drew
        have HC1 := hide hC1
        clear hS hlt hq hye hy hG hrr hIN hvc hb2 HIN2 HST hpl hgl r2 r3 r4
        go_wp2_with fail
        have hmix : Try.prog.follows .mixedOrders = true := by kernel_rfl
        refine (wpIn_wide (n := 0)).1 ?_
        refine wpIn_normal (wpIn_region_any hmix (wpAnyC_sound (C := Below wl.heap.size wl) _ _ _ _ ?_))
        change wpAnyC _ _ _ _ _ _ _ _ _ _ (World.drew _)
        refine wpAnyC_takeD (i := 0) (some 29) (v := .pointer (some ⟨p, 0, none⟩)) (fun _ => trivial) (by kernel_rfl) rfl rfl (by kernel_rfl) (by kernel_rfl) (by kernel_rfl) (fun _ _ _ h => by cases h.1) hC1 (Or.inl ⟨by kernel_rfl, fun w' hC => by clear hC; go_simp⟩) ?_
        simp only [Act.put, List.setIfInBounds_toArray, List.set_cons_succ, List.set_cons_zero]
        refine wpAnyC_takeD (i := 1) (some 30) (v := .pointer (some ⟨p, 0, none⟩)) (fun _ => trivial) (by kernel_rfl) rfl rfl (by kernel_rfl) (by kernel_rfl) (by kernel_rfl) (fun _ _ _ h => by cases h.1) hC1 (Or.inl ⟨by kernel_rfl, fun w' hC => by clear hC; go_simp⟩) ?_
        simp only [Act.put, List.setIfInBounds_toArray, List.set_cons_succ, List.set_cons_zero]
        refine wpAnyC_takeD (i := 2) (some 31) (v := .pointer (some ⟨p, 0, none⟩)) (fun _ => trivial) (by kernel_rfl) rfl rfl (by kernel_rfl) (by kernel_rfl) (by kernel_rfl) (fun _ _ _ h => by cases h.1) hC1 (Or.inl ⟨by kernel_rfl, fun w' hC => by clear hC; go_simp⟩) ?_
        simp only [Act.put, List.setIfInBounds_toArray, List.set_cons_succ, List.set_cons_zero]
        refine wpAnyC_takeD (i := 3) (some 32) (v := .slice ca tq.1.length cc) (fun _ => trivial) (by kernel_rfl) rfl rfl (by kernel_rfl) (by kernel_rfl) (by kernel_rfl) (fun _ _ _ h => by cases h.1) hC1 (Or.inl ⟨by kernel_rfl, fun w' hC => by have e1 := (HCE.out w' hC).1; clear hC; go_simp⟩) ?_
        simp only [Act.put, List.setIfInBounds_toArray, List.set_cons_succ, List.set_cons_zero]
        refine wpAnyC_takeD (i := 4) (some 33) (v := .pointer (some ⟨G, 0, none⟩)) (fun _ => trivial) (by kernel_rfl) rfl rfl (by kernel_rfl) (by kernel_rfl) (by kernel_rfl) (fun _ _ _ h => by cases h.1) hC1 (Or.inl ⟨by kernel_rfl, fun w' hC => by clear hC; go_simp⟩) ?_
        simp only [Act.put, List.setIfInBounds_toArray, List.set_cons_succ, List.set_cons_zero]
        refine wpAnyC_takeD (i := 5) (some 34) (v := .pointer (some ⟨G, 0, none⟩)) (fun _ => trivial) (by kernel_rfl) rfl rfl (by kernel_rfl) (by kernel_rfl) (by kernel_rfl) (fun _ _ _ h => by cases h.1) hC1 (Or.inl ⟨by kernel_rfl, fun w' hC => by clear hC; go_simp⟩) ?_
        simp only [Act.put, List.setIfInBounds_toArray, List.set_cons_succ, List.set_cons_zero]
        refine wpAnyC_takeD (i := 6) (some 35) (v := .pointer (some ⟨G, 0, none⟩)) (fun _ => trivial) (by kernel_rfl) rfl rfl (by kernel_rfl) (by kernel_rfl) (by kernel_rfl) (fun _ _ _ h => by cases h.1) hC1 (Or.inl ⟨by kernel_rfl, fun w' hC => by clear hC; go_simp⟩) ?_
        simp only [Act.put, List.setIfInBounds_toArray, List.set_cons_succ, List.set_cons_zero]
        refine wpAnyC_takeD (i := 7) (some 36) (v := .slice (some ⟨h, 0, none⟩) n cn) (fun _ => trivial) (by kernel_rfl) rfl rfl (by kernel_rfl) (by kernel_rfl) (by kernel_rfl) (fun _ _ _ h => by cases h.1) hC1 (Or.inl ⟨by kernel_rfl, fun w' hC => by have e1 := (HCE.out w' hC).2.1; clear hC; go_simp⟩) ?_
        simp only [Act.put, List.setIfInBounds_toArray, List.set_cons_succ, List.set_cons_zero]
        refine wpAnyC_takeD (i := 8) (some 37) (v := .int .i64 (x : Int)) (fun _ => trivial) (by kernel_rfl) rfl rfl (by kernel_rfl) (by kernel_rfl) (by kernel_rfl) (fun _ _ _ h => by cases h.1) hC1 (Or.inl ⟨by kernel_rfl, fun w' hC => by clear hC; go_simp⟩) ?_
        simp only [Act.put, List.setIfInBounds_toArray, List.set_cons_succ, List.set_cons_zero]
        refine wpAnyC_takeD (i := 9) (some 38) (v := .pointer (some ⟨h, x, none⟩)) (fun _ => trivial) (by kernel_rfl) rfl rfl (by kernel_rfl) (by kernel_rfl) (by kernel_rfl) (fun _ _ _ h => by cases h.1) hC1 (Or.inl ⟨by kernel_rfl, fun w' hC => by clear hC; go_simp⟩) ?_
        simp only [Act.put, List.setIfInBounds_toArray, List.set_cons_succ, List.set_cons_zero]
        refine wpAnyC_takeD (i := 10) (some 39) (v := .slice (some ⟨b2, o2, none⟩) nj cj) (fun _ => trivial) (by kernel_rfl) rfl rfl (by kernel_rfl) (by kernel_rfl) (by kernel_rfl) (fun _ _ _ h => by cases h.1) hC1 (Or.inl ⟨by kernel_rfl, fun w' hC => by have e1 := (HCE.out w' hC).2.2.1; clear hC; go_simp⟩) ?_
        simp only [Act.put, List.setIfInBounds_toArray, List.set_cons_succ, List.set_cons_zero]
        refine wpAnyC_takeD (i := 11) (some 40) (v := .int .i64 (q : Int)) (fun _ => trivial) (by kernel_rfl) rfl rfl (by kernel_rfl) (by kernel_rfl) (by kernel_rfl) (fun _ _ _ h => by cases h.1) hC1 (Or.inl ⟨by kernel_rfl, fun w' hC => by clear hC; go_simp⟩) ?_
        simp only [Act.put, List.setIfInBounds_toArray, List.set_cons_succ, List.set_cons_zero]
        refine wpAnyC_takeD (i := 12) (some 41) (v := .pointer (some ⟨b2, o2 + q, none⟩)) (fun _ => trivial) (by kernel_rfl) rfl rfl (by kernel_rfl) (by kernel_rfl) (by kernel_rfl) (fun _ _ _ h => by cases h.1) hC1 (Or.inl ⟨by kernel_rfl, fun w' hC => by clear hC; go_simp⟩) ?_
        simp only [Act.put, List.setIfInBounds_toArray, List.set_cons_succ, List.set_cons_zero]
        refine wpAnyC_takeD (i := 13) (some 42) (v := .int .i64 (yn : Int)) (fun _ => trivial) (by kernel_rfl) rfl rfl (by kernel_rfl) (by kernel_rfl) (by kernel_rfl) (fun _ _ _ h => by cases h.1) hC1 (Or.inl ⟨by kernel_rfl, fun w' hC => by have e1 := (HCE.out w' hC).2.2.2; clear hC; go_simp⟩) ?_
        simp only [Act.put, List.setIfInBounds_toArray, List.set_cons_succ, List.set_cons_zero]
        refine wpAnyC_ready (rs := [14]) (by kernel_rfl) (by simp) ?_
        refine AllC.cons rfl (fun K hK => ?_) AllC.nil
        go_simp
        refine ⟨trivial, rfl, (callsIn_wide.2 (HIN.out _ hC1)).mono ?_⟩
        rintro e w5 ⟨rfl, rfl⟩
        dsimp only
        refine hK _ _ hC1 ?_
        clear hK K
        try simp only [Act.put, List.setIfInBounds_toArray, List.set_cons_succ, List.set_cons_zero]
        refine wpAnyC_takeD (i := 15) (some 44) (v := .bool (!r)) (fun _ => trivial) (by kernel_rfl) rfl rfl (by kernel_rfl) (by kernel_rfl) (by kernel_rfl) (fun _ _ _ h => by cases h.1) hC1 (Or.inl ⟨by kernel_rfl, fun w' hC => by clear hC; go_simp⟩) ?_
        simp only [Act.put, List.setIfInBounds_toArray, List.set_cons_succ, List.set_cons_zero]
        refine wpAnyC_done (by kernel_rfl) ?_ _
        refine ⟨rfl, ?_⟩
        obtain ⟨x0, x1, x2, x3⟩ := HCE.out _ HC1.out
        clear hC1
        cases r with
        | true =>
          go_wp2_with fail
          exact ⟨⟨q + 1, _, _, HLT.out, by simp, by rw [HE.out]; exact HSS.out.below HC1.out⟩, measZ2 HLT.out⟩
        | false =>
          have HR := hide (HREC.out rfl)
          clear HREC
          go_wp2_with fail
          refine HR.out.mono ?_
          rintro e w6 ⟨rfl, cv6, lv6, hS6⟩
          have HS6 := hide hS6
          clear hS6 HSS HR HCE x0 x1 x2 x3
          go_wp2_with fail
          exact ⟨⟨q + 1, cv6, lv6, HLT.out, by simp, by rw [HE.out]; exact HS6.out⟩, measZ2 HLT.out⟩
      · have e : nj = q := by omega
        subst e
        have hG := HK.out nj
        obtain ⟨a7, c7, rfl⟩ := own_shapeG hS.left
        have HDD : Hid (RES = ((dfsK N f (x : Int) s nj).1, (dfsK N f (x : Int) s nj).2 ++ [(x : Int)])) := HD.out
        generalize dfsK N f (x : Int) s nj = tq at *
        have HL2 : Hid (tq.2.length ≤ 4096) := by show _ ≤ _; have := hG.1.len; have := hG.2.2; have := HC.out.few; omega
        have hSA := hS.below ((Below.refl wl.heap.size wl).alloc (Nat.le_refl _) (.cells #[.int .i64 (x : Int)] 3))
        have HSA := hide hSA
        have HW2 := hide (show W0.heap.size ≤ wl.heap.size from hS.grown.size)
        clear hS hSA hq hG hvc r2 r3 r4 HK HD HKS HK0 HIH HED HRD
        go_wp2_with (at_builtin; refine wpList_append_lies _ rfl (.tmp 62) (.tmp 64) 32 rfl W0.heap.size 3 i0 (.int .i64 0) 1 8 Try.underlying32 HII.out.1 HII.out.2.1 HII.out.2.2.1 HII.out.2.2.2 rfl (by decide) (.slice a7 tq.2.length c7) tq.2.length _ rfl HSA.out.left ⟨wl.heap.size, 0, none⟩ 1 1 [.int .i64 (x : Int)] rfl rfl (World.news_of_block (cs := #[.int .i64 (x : Int)]) (t := 3) (fr := (0, 0)) (allocNew _ _ rfl)) (by simp [Value.oneCell']) (by decide) (by unfold maxLen; have := HL2.out; omega) (by have := HL2.out; omega) (by rw [World.size_alloc]; have := HW2.out; omega) (wl.heap.size + 1) (by simp) ?_)
        intro g2 cap2 w2 ho2 hg2 hb2 _
        obtain ⟨k2, hS2⟩ := HSA.out.pushL (x : Int) hg2 (by rcases hb2 with h | h; exact .inl h; exact .inr (by rw [World.size_alloc]; omega)) (by simpa using ho2)
        obtain ⟨q0, q1, _, qf⟩ := twoCells k2
        have HS2 := hide hS2
        clear ho2 hg2 hb2 hS2 HSA k2 e0 e1 f0 f1
        go_wp2_with fail
        go_end0
        rw [HDD.out]
        exact ⟨rfl, _, _, HS2.out⟩

end Go.Proofs.Ytpdjmapmpicgjaa
