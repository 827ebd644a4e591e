/-
  The walk in the depth: the closure that calls itself.
-/
import Derived.WalkSpells
import Derived.WalkMore
import Derived.OwnWalk
import Derived.BigRegion
import Derived.Deep.RegionWith
import Derived.Deep.DrawnRows
import Derived.Deep.RegionLaw
import Derived.Deep.AppendLies
import Derived.Laws.EntriesVeiled
import Derived.Test.YtpdjmapmpicgjaaProg
import Derived.Test.YtpdjmapmpicgjaaGraphWalk0
import Derived.Test.YtpdjmapmpicgjaaCut
namespace Go.Proofs.Ytpdjmapmpicgjaa
open Go.RowKit
set_option linter.unusedVariables false
set_option linter.unusedSimpArgs false
set_option maxRecDepth 10000

theorem frame53 (t : Array Value) (h : t.size = 53) : t = #[slot t 0, slot t 1, slot t 2, slot t 3, slot t 4, slot t 5, slot t 6, slot t 7, slot t 8, slot t 9, slot t 10, slot t 11, slot t 12, slot t 13, slot t 14, slot t 15, slot t 16, slot t 17, slot t 18, slot t 19, slot t 20, slot t 21, slot t 22, slot t 23, slot t 24, slot t 25, slot t 26, slot t 27, slot t 28, slot t 29, slot t 30, slot t 31, slot t 32, slot t 33, slot t 34, slot t 35, slot t 36, slot t 37, slot t 38, slot t 39, slot t 40, slot t 41, slot t 42, slot t 43, slot t 44, slot t 45, slot t 46, slot t 47, slot t 48, slot t 49, slot t 50, slot t 51, slot t 52] := (frame_eq t 53 h).trans rfl
/-- What stands round the walk. -/
structure WkC (W0 : World) (p GB CB lo n : Nat) (nv : Value) (N : List (List Int)) : Prop where
  typ : ∃ cs fr, W0.heap[p]? = some (.cells cs 71 fr)
  gb : W0.heap[GB]? = some (.cells #[.pointer (some ⟨p, 0, none⟩)] 28 (0, 0))
  cb : W0.heap[CB]? = some (.cells #[.func (.func 61) #[] #[.pointer (some ⟨GB, 0, none⟩), .pointer (some ⟨CB, 0, none⟩)]] 92 (0, 0))
  ngb : GB ≠ p
  ncb : CB ≠ p
  next : OwnL W0 lo nv N
  len : N.length = n
  few : n ≤ 4096
  edges : Edges n N
  rows : ∀ j, (rowN N j).length ≤ 4096

/-- The edges of a node, wherever the walk is. -/
theorem WkC.row {W0 : World} {p GB CB lo n : Nat} {nv av : Value} {N : List (List Int)} (hC : WkC W0 p GB CB lo n nv N) {x : Nat} (hx : x < N.length) : ∃ h c aj cj, nv = .slice (some ⟨h, 0, none⟩) N.length c ∧ ∀ (w : World) (m : Nat → Nat) (cv ov : Value) (mc c l : List Int), WkS W0 p nv av w m cv ov mc c l → w.cell? ⟨h, x, none⟩ = some (.slice aj (rowN N x).length cj) ∧ View .i64 w aj (rowN N x) ∧ w.cell? ⟨p, 0, none⟩ = some nv := by
  obtain ⟨V, hV⟩ := hC.next
  obtain ⟨h, c, aj, cj, e1, e2, _, _, _⟩ := rowsL_read hV hx
  refine ⟨h, c, aj, cj, e1, fun w m cv ov mc c' l hS => ?_⟩
  have hV' := rowsL_same (w' := w) hV (fun g cs T fr _ hTT hg => by
    refine (hS.grown.block g (Array.getElem?_eq_some_iff.1 hg).1 (fun e => ?_)).trans hg
    cases e
    obtain ⟨cs', fr', h'⟩ := hC.typ
    rw [h'] at hg
    cases hg
    rcases hTT with e | e <;> exact absurd e (by decide))
  obtain ⟨h', c2, aj', cj', e1', e2', e3', e4', _⟩ := rowsL_read hV' hx
  rw [e1] at e1'
  rw [e2] at e2'
  cases e1'
  cases e2'
  rw [e2] at e3'
  exact ⟨e3', e4', by rw [hS.blk.cell]; rfl⟩

set_option maxHeartbeats 8000000 in
theorem come_tail (W0 : World) (p GB CB lo n : Nat) (nv av : Value) (N : List (List Int)) (hC : WkC W0 p GB CB lo n nv N) (f : Nat) (ih : ∀ (i : Int) (s : WalkS) (w : World) (m : Nat → Nat) (cv ov : Value), GoodC n s.1 → i ∉ s.1 → 0 ≤ i → i < n → n - s.1.length ≤ f → s.2.length ≤ s.1.length → WkS W0 p nv av w m cv ov s.1 s.1 s.2 →
    Calls Try.prog 61 #[.int .i64 i, .pointer (some ⟨GB, 0, none⟩), .pointer (some ⟨CB, 0, none⟩)] w fun e w' => e = .returned (.tuple #[]) ∧ ∃ m' cv' ov', WkS W0 p nv av w' m' cv' ov' (dfs N f i s).1 (dfs N f i s).1 (dfs N f i s).2)
    (x : Nat) (s : WalkS) (hg : GoodC n s.1) (hi : (x : Int) ∉ s.1) (hxn : x < n) (hl : n - s.1.length ≤ f + 1) (hls : s.2.length ≤ s.1.length) (m : Nat → Nat) (ov : Value)
    (t : Array Value) (W : World) (cv' : Value) (ht : t.size = 53) (t0 : slot t 0 = .int .i64 (x : Int)) (t1 : slot t 1 = .pointer (some ⟨GB, 0, none⟩)) (t2 : slot t 2 = .pointer (some ⟨CB, 0, none⟩)) (hS : WkS W0 p nv av W (setM m x) cv' ov (s.1 ++ [(x : Int)]) (s.1 ++ [(x : Int)]) s.2) :
    (dropR 2 (Try.f61.body.getD .skip)).wp Try.prog (bodyPost Try.prog Try.f61 fun e w' => e = .returned (.tuple #[]) ∧ ∃ m' cv' ov', WkS W0 p nv av w' m' cv' ov' (dfs N (f + 1) (x : Int) s).1 (dfs N (f + 1) (x : Int) s).1 (dfs N (f + 1) (x : Int) s).2) { tmps := t, defers := [] } W := by
  obtain ⟨i0, hi0, hz0, hz1, hz2⟩ := info_parts GrInts.info
  have HK := hide (fun k => dfsK_seg N n hC.edges f (x : Int) s hg hi (by omega) (by omega) hl hls k)
  have HD := hide (dfs_succ N f (x : Int) s)
  have HKS := hide (dfsK_succ N f (x : Int) s)
  have HK0 := hide (dfsK_zero N f (x : Int) s)
  generalize dfs N (f + 1) (x : Int) s = RES at *
  have HC := hide hC
  have HIH := hide ih
  clear hC ih hg hi hl hls
  rw [frame53 t ht, t0, t1, t2]
  clear ht t0 t1 t2
  generalize slot t = sl
  have hxN : x < N.length := by rw [HC.out.len]; exact hxn
  obtain ⟨h, cn, aj, cj, hnv, hrd⟩ := HC.out.row (av := av) hxN
  obtain ⟨hcr, hvj, c0⟩ := hrd _ _ _ _ _ _ _ hS
  have HRD := hide hrd
  rw [hnv] at c0
  have gbc := (oneCell (hS.old HC.out.gb HC.out.ngb)).1
  have hxi : (x : Int) < (N.length : Int) := by omega
  have hrow : rowN N (x : Int).toNat = rowN N x := by simp
  have HNJ := hide (HC.out.rows x)
  rw [hrow] at HD HKS
  generalize hnj : (rowN N x).length = nj at *
  have HNL := hide hnj
  have HS0 : Hid (WkS W0 p nv av W (setM m x) cv' ov (dfsK N f (x : Int) s 0).1 (dfsK N f (x : Int) s 0).1 (dfsK N f (x : Int) s 0).2) := by show WkS _ _ _ _ _ _ _ _ _ _ _; rw [HK0.out]; exact hS
  have HNV := hide hnv
  clear hS hvj hrd hnv hnj
  have HED : Hid (∀ q, q < nj → 0 ≤ nth (rowN N x) q ∧ nth (rowN N x) q < n) := fun q hq => HC.out.edges x _ (by
    have hq' : q < (rowN N x).length := by rw [HNL.out]; exact hq
    have : nth (rowN N x) q = (rowN N x)[q] := by simp [nth, List.getD, hq']
    rw [this]; exact List.getElem_mem hq')
  have HHS := hide (fun m' (yn : Nat) wx (hb : MkAt wx p 2 m') (hy : yn < 4096) => marksHas_any p 2 m' yn wx hb hy)
  have hnji : (nj : Int) ≤ 4096 := by have := HNJ.out; omega
  conv => arg 2; whnf
  go_wp2_with fail
  go_loopw [29] (fun i wr => ∃ (q : Nat) (m' : Nat → Nat) (cv' ov' : Value), q ≤ nj ∧ i = .int .i64 q ∧ WkS W0 p nv av wr m' cv' ov' (dfsK N f (x : Int) s q).1 (dfsK N f (x : Int) s q).1 (dfsK N f (x : Int) s q).2) (fun i _ => nj - (intOf i).toNat)
  case atStart => exact ⟨0, _, _, _, Nat.zero_le _, rfl, HS0.out⟩
  case round =>
    obtain ⟨q, m1, cv1, ov1, hq, rfl, hS⟩ := hrel
    by_cases hlt : q < nj
    · obtain ⟨_, hv1, _⟩ := HRD.out _ _ _ _ _ _ _ hS
      obtain ⟨b2, o2, rfl, hb2, hcq⟩ := hv1 q (by rw [HNL.out]; exact hlt)
      have hy := HED.out q hlt
      obtain ⟨yn, hye⟩ := Int.eq_ofNat_of_zero_le hy.1
      have HST := hide (HKS.out q hlt)
      rw [hye] at hcq hy HST
      have hyn : yn < n := by omega
      have hy4 : yn < 4096 := by have := HC.out.few; omega
      have gb1 := (oneCell (hS.old HC.out.gb HC.out.ngb)).1
      have cb1 := (oneCell (hS.old HC.out.cb HC.out.ncb)).1
      have hhas := HHS.out m1 yn _ hS.blk.mkAt hy4
      have hmk := hS.marked yn hy4
      have hqi : (q : Int) < (nj : Int) := by omega
      have HLT := hide hlt
      have HSS := hide hS
      have hG := HK.out q
      clear HS0 hS hv1 hb2 hye hlt hq c0 gbc hcr
      generalize dfsK N f (x : Int) s q = tq at *
      generalize hqq : hasM m1 yn = r at *
      cases r with
      | true =>
        have HIN : Hid (dfsK N f (x : Int) s (q + 1) = tq) := by
          show _ = _
          rw [HST.out]; unfold stepD
          exact if_pos (of_decide_eq_true hmk.symm)
        clear hmk hqq HST hG
        go_wp2_with fail
        refine hhas.mono ?_
        rintro e w5 ⟨rfl, rfl⟩
        clear hhas
        go_wp2_with fail
        exact ⟨⟨q + 1, m1, cv1, ov1, HLT.out, by simp, by rw [HIN.out]; exact HSS.out⟩, measZ2 HLT.out⟩
      | false =>
        have hnot : ¬ (yn : Int) ∈ tq.1 := of_decide_eq_false hmk.symm
        have HIN : Hid (dfsK N f (x : Int) s (q + 1) = dfs N f (yn : Int) tq) := by
          show _ = _
          rw [HST.out]; unfold stepD
          exact if_neg hnot
        have hrec := HIH.out (yn : Int) tq _ m1 cv1 ov1 hG.1 hnot (by omega) (by omega) hG.2.1 hG.2.2 HSS.out
        have HREC := hide hrec
        clear hmk hqq HST hG hnot hrec
        go_wp2_with fail
        refine hhas.mono ?_
        rintro e w5 ⟨rfl, rfl⟩
        clear hhas
        go_wp2_with fail
        refine HREC.out.mono ?_
        rintro e w6 ⟨rfl, m6, cv6, ov6, hS6⟩
        have HS6 := hide hS6
        clear HREC HSS hS6
        go_wp2_with fail
        exact ⟨⟨q + 1, m6, cv6, ov6, HLT.out, by simp, by rw [HIN.out]; exact HS6.out⟩, measZ2 HLT.out⟩
    · have e : nj = q := by omega
      subst e
      have hG := HK.out nj
      have HDD : Hid (RES = ((dfsK N f (x : Int) s nj).1, (dfsK N f (x : Int) s nj).2 ++ [(x : Int)])) := HD.out
      generalize dfsK N f (x : Int) s nj = tq at *
      rename World => wl
      have hbA : Below wl.heap.size wl (wl.alloc (.cells #[.int .i64 (x : Int)] 3)).drew := ((Below.refl _ _).alloc (Nat.le_refl _) _).drew
      have hSA := hS.below hbA
      have gbc := (oneCell (hS.old HC.out.gb HC.out.ngb)).1
      have gbl : GB < wl.heap.size := (Array.getElem?_eq_some_iff.1 (hS.old HC.out.gb HC.out.ngb)).1
      have pl := hS.blk.lt
      have c67 : wl.cell? ⟨p, 67, none⟩ = some ov1 := by rw [hS.blk.cell, gC_o]
      obtain ⟨a7, c7, rfl⟩ := own_shapeG hS.left
      have f67 : wl.frozen? ⟨p, 67, none⟩ = false := hS.blk.frozen _
      have hob : ∀ j, Value.ownBlock (.slice a7 tq.2.length c7) = some j → W0.heap.size ≤ j := fun j e => (World.ownsRow.lt hS.left j e).1
      have pW := hS.plt
      have wW : W0.heap.size ≤ wl.heap.size := hS.grown.size
      have sln : tq.2.length ≤ 4096 := by have := hG.1.len; have := hG.2.2; have := HC.out.few; omega
      have gW : GB < W0.heap.size := (Array.getElem?_eq_some_iff.1 HC.out.gb).1
      have HSA := hide hSA
      clear hS hSA hbA HS0 hG hq c0 hcr HRD HHS HED HIH HKS HK HD
      go_wp2_with fail
      go_region_law ((refine step_append_lies _ (by rfl) _ _ _ (by rfl) W0.heap.size 3 i0 (.int .i64 0) 1 8 Try.underlying32 hi0 hz0 hz1 hz2 rfl (by omega) (.slice a7 tq.2.length c7) tq.2.length _ (by rfl) HSA.out.left ⟨wl.heap.size, 0, none⟩ 1 1 [.int .i64 (x : Int)] (by rfl) (by rfl) (World.news_of_block (cs := #[.int .i64 (x : Int)]) (t := 3) (fr := (0, 0)) (heap_alloc_new wl _)) (by simp [Value.oneCell']) (by omega) (by unfold maxLen; omega) (by omega) (by simp; omega) (wl.heap.size + 1) (by simp) ?_; intro g2 cap2 w1 hown1 hgrow1 hat1 hlt1'; have hb1 := HSA.out.blk.other (hgrow1.block p HSA.out.blk.lt (fun e => by have := hob p e.symm; omega)); have d67 : w1.cell? ⟨p, 67, none⟩ = some (.slice a7 tq.2.length c7) := (by rw [hb1.cell, gC_o]); have e67 : w1.frozen? ⟨p, 67, none⟩ = false := hb1.frozen _; have gb1 := (oneCell ((hgrow1.block GB (Array.getElem?_eq_some_iff.1 (HSA.out.old HC.out.gb HC.out.ngb)).1 (fun e => by have := hob GB e.symm; omega)).trans (HSA.out.old HC.out.gb HC.out.ngb))).1))
      all_goals
        go_end0
        rw [HDD.out]
        exact ⟨rfl, _, _, _, HSA.out.pushL (x : Int) hgrow1 (by simpa using hat1) (by simpa using hown1)⟩

set_option maxHeartbeats 8000000 in
theorem come_any (W0 : World) (p GB CB lo n : Nat) (nv av : Value) (N : List (List Int)) (hC : WkC W0 p GB CB lo n nv N) : ∀ (f : Nat) (i : Int) (s : WalkS) (w : World) (m : Nat → Nat) (cv ov : Value), GoodC n s.1 → i ∉ s.1 → 0 ≤ i → i < n → n - s.1.length ≤ f → s.2.length ≤ s.1.length → WkS W0 p nv av w m cv ov s.1 s.1 s.2 →
    Calls Try.prog 61 #[.int .i64 i, .pointer (some ⟨GB, 0, none⟩), .pointer (some ⟨CB, 0, none⟩)] w fun e w' => e = .returned (.tuple #[]) ∧ ∃ m' cv' ov', WkS W0 p nv av w' m' cv' ov' (dfs N f i s).1 (dfs N f i s).1 (dfs N f i s).2 := by
  intro f
  induction f with
  | zero =>
    intro i s w m cv ov hg hi h0 h1 hl _ _
    have := (hg.snoc hi h0 h1).len
    simp at this; omega
  | succ f ih =>
    intro i s w m cv ov hg hi h0 h1 hl hls hS
    obtain ⟨i0, hi0, hz0, hz1, hz2⟩ := info_parts GrInts.info
    have hgl := hg.len
    obtain ⟨x, rfl⟩ := Int.eq_ofNat_of_zero_le h0
    have hxn : x < n := by omega
    have hx4 : x < 4096 := by have := hC.few; omega
    have hset := marksSet_any p 2 m x w hS.blk.mkAt hx4
    have gbc := (oneCell (hS.old hC.gb hC.ngb)).1
    have HC := hide hC
    have HS := hide hS
    have HLEN : Hid (s.1.length ≤ 4096 ∧ s.2.length ≤ 4096) := by show _ ∧ _; have := hC.few; omega
    have HT := hide (come_tail W0 p GB CB lo n nv av N hC f ih x s hg hi hxn hl hls m ov)
    generalize dfs N (f + 1) (x : Int) s = RES at *
    clear hC hS ih hg hi h0 h1 hl hls hgl
    go_enter Try.func61, Try.ntmps61
    go_wp2_with fail
    refine hset.mono ?_
    rintro e w3 ⟨rfl, d, hd⟩
    have hS3 := HS.out.mark hx4 d hd
    clear hset hd gbc HS
    have hbA : Below w3.heap.size w3 (w3.alloc (.cells #[.int .i64 (x : Int)] 3)).drew := ((Below.refl _ _).alloc (Nat.le_refl _) _).drew
    have hSA := hS3.below hbA
    have gbc := (oneCell (hS3.old HC.out.gb HC.out.ngb)).1
    have gbl : GB < w3.heap.size := (Array.getElem?_eq_some_iff.1 (hS3.old HC.out.gb HC.out.ngb)).1
    have pl := hS3.blk.lt
    have c66 : w3.cell? ⟨p, 66, none⟩ = some cv := by rw [hS3.blk.cell, gC_c]
    obtain ⟨a4, c4, rfl⟩ := own_shapeG hS3.came
    have f66 : w3.frozen? ⟨p, 66, none⟩ = false := hS3.blk.frozen _
    have HSA := hide hSA
    have HS3 := hide hS3
    have HBA := hide hbA
    clear hSA hS3 hbA
    have hob : ∀ j, Value.ownBlock (.slice a4 s.1.length c4) = some j → W0.heap.size ≤ j := fun j e => (World.ownsRow.lt HS3.out.came j e).1
    have pW := HS3.out.plt
    have wW : W0.heap.size ≤ w3.heap.size := HS3.out.grown.size
    have sln := HLEN.out.1
    have gW : GB < W0.heap.size := (Array.getElem?_eq_some_iff.1 HC.out.gb).1
    go_wp2_with fail
    rename_i K hK
    go_region_law ((refine step_append_lies _ (by rfl) _ _ _ (by rfl) W0.heap.size 3 i0 (.int .i64 0) 1 8 Try.underlying32 hi0 hz0 hz1 hz2 rfl (by omega) (.slice a4 s.1.length c4) s.1.length _ (by rfl) HSA.out.came ⟨w3.heap.size, 0, none⟩ 1 1 [.int .i64 (x : Int)] (by rfl) (by rfl) (World.news_of_block (cs := #[.int .i64 (x : Int)]) (t := 3) (fr := (0, 0)) (heap_alloc_new w3 _)) (by simp [Value.oneCell']) (by omega) (by unfold maxLen; omega) (by omega) (by simp; omega) (w3.heap.size + 1) (by simp) ?_; intro g2 cap2 w1 hown1 hgrow1 hat1 hlt1'; have hb1 := HSA.out.blk.other (hgrow1.block p HSA.out.blk.lt (fun e => by have := hob p e.symm; omega)); have d66 : w1.cell? ⟨p, 66, none⟩ = some (.slice a4 s.1.length c4) := (by rw [hb1.cell, gC_c]); have e66 : w1.frozen? ⟨p, 66, none⟩ = false := hb1.frozen _; have gb1 := (oneCell ((hgrow1.block GB (Array.getElem?_eq_some_iff.1 (HSA.out.old HC.out.gb HC.out.ngb)).1 (fun e => by have := hob GB e.symm; omega)).trans (HSA.out.old HC.out.gb HC.out.ngb))).1))
    all_goals
      refine hK _ _ (HT.out _ _ (.slice (some ⟨g2, 0, none⟩) (s.1.length + 1) cap2) rfl rfl rfl rfl ?_)
      exact HSA.out.pushC (x : Int) hgrow1 (by simpa using hat1) (by simpa using hown1)

end Go.Proofs.Ytpdjmapmpicgjaa
