/-
  Texts in one: Ref14Walk, Ref14Asks, GraphValues, Law14Both, Law14Number, KitCopyInst.
-/
import Derived.Test.YtlcaedibmlidlaaGreatB28
namespace Go.Proofs.YtlcaedibmlidlaaGreat
open Go.RowKit
set_option linter.unusedVariables false
set_option linter.unusedSimpArgs false
set_option maxRecDepth 10000
structure RkS (W0 : World) (p : Nat) (w : World) (cv lv : Value) (c l : List Int) : Prop where
  blk : w.heap[p]? = some (.cells #[cv, lv] 180 (0, 0))
  came : w.ownsRow W0.heap.size 3 1 cv c.length (c.map (Value.int .i64))
  left : w.ownsRow W0.heap.size 3 1 lv l.length (l.map (Value.int .i64))
  apart : ∀ g, cv.ownBlock = some g → lv.ownBlock ≠ some g
  grown : W0.grownBy w (some p)
  plt : p < W0.heap.size
theorem twoCells {w:World} {p T:Nat} {a b:Value} (h:w.heap[p]?=some (.cells #[a,b] T (0,0))):w.cell? ⟨p,0,none⟩=some a∧w.cell? ⟨p,1,none⟩=some b∧w.frozen? ⟨p,0,none⟩=false∧w.frozen? ⟨p,1,none⟩=false:=by
 refine⟨?_,?_,?_,?_⟩ <;> simp [World.cell?,World.frozen?,h]
theorem twoSet0 {w:World} {p T:Nat} {a b:Value} (h:w.heap[p]?=some (.cells #[a,b] T (0,0))) (u:Value):(w.setCell ⟨p,0,none⟩ u).heap[p]?=some (.cells #[u,b] T (0,0)):=by
 simp [World.setCell,Array.getElem?_modify,h]
theorem twoSet1 {w:World} {p T:Nat} {a b:Value} (h:w.heap[p]?=some (.cells #[a,b] T (0,0))) (u:Value):(w.setCell ⟨p,1,none⟩ u).heap[p]?=some (.cells #[a,u] T (0,0)):=by
 simp [World.setCell,Array.getElem?_modify,h]
theorem RkS.below {W0:World} {p:Nat} {w w':World} {cv lv:Value} {c l:List Int} (h:RkS W0 p w cv lv c l) (hb:Below w.heap.size w w'):RkS W0 p w' cv lv c l :=
 ⟨(hb.block p (Array.getElem?_eq_some_iff.1 h.blk).1).trans h.blk,own_below h.came hb,own_below h.left hb,h.apart,h.grown.trans ⟨hb.os,hb.tape,hb.output,hb.size,fun k hk _=>hb.block k hk⟩,h.plt⟩
theorem RkS.pushC {W0:World} {p:Nat} {w w5:World} {cv lv:Value} {c l:List Int} (h:RkS W0 p w cv lv c l) (i:Int) {g cap k:Nat} (hg:w.grownBy w5 cv.ownBlock) (hat:cv.ownBlock=some g∨w.heap.size≤g) (ho:w5.ownsRow W0.heap.size 3 1 (.slice (some ⟨g,0,none⟩) k cap) (c++[i]).length ((c++[i]).map (Value.int .i64))):w5.heap[p]?=some (.cells #[cv,lv] 180 (0,0))∧RkS W0 p (w5.setCell ⟨p,0,none⟩ (.slice (some ⟨g,0,none⟩) k cap)) (.slice (some ⟨g,0,none⟩) k cap) lv (c++[i]) l:=by
 have hp:=h.plt
 have hne:∀ j,cv.ownBlock=some j→W0.heap.size≤j:=fun j e=>(World.ownsRow.lt h.came j e).1
 have hb5:=(hg.block p (Array.getElem?_eq_some_iff.1 h.blk).1 (fun e=>by have:=hne p e.symm;omega)).trans h.blk
 have hl5:=own_grown h.left hg (fun j e=>h.apart j e)
 refine⟨hb5,twoSet0 hb5 _,ownsRow_setCell_below ho (by simp;exact hp) _,ownsRow_setCell_below hl5 (by simp;exact hp) _,fun j e e2=>?_,?_,hp⟩
 ·cases e
  rcases hat with h1 | h1
  ·exact h.apart g h1 e2
  ·have:=(World.ownsRow.lt h.left g e2).2;omega
 ·exact (h.grown.andThen hg (fun j e=>.inl (hne j e))).trans (grown_setCell w5 p 0 _)
theorem RkS.pushL {W0:World} {p:Nat} {w w5:World} {cv lv:Value} {c l:List Int} (h:RkS W0 p w cv lv c l) (i:Int) {g cap k:Nat} (hg:w.grownBy w5 lv.ownBlock) (hat:lv.ownBlock=some g∨w.heap.size≤g) (ho:w5.ownsRow W0.heap.size 3 1 (.slice (some ⟨g,0,none⟩) k cap) (l++[i]).length ((l++[i]).map (Value.int .i64))):w5.heap[p]?=some (.cells #[cv,lv] 180 (0,0))∧RkS W0 p (w5.setCell ⟨p,1,none⟩ (.slice (some ⟨g,0,none⟩) k cap)) cv (.slice (some ⟨g,0,none⟩) k cap) c (l++[i]):=by
 have hp:=h.plt
 have hne:∀ j,lv.ownBlock=some j→W0.heap.size≤j:=fun j e=>(World.ownsRow.lt h.left j e).1
 have hb5:=(hg.block p (Array.getElem?_eq_some_iff.1 h.blk).1 (fun e=>by have:=hne p e.symm;omega)).trans h.blk
 have hl5:=own_grown h.came hg (fun j e e2=>h.apart j e2 e)
 refine⟨hb5,twoSet1 hb5 _,ownsRow_setCell_below hl5 (by simp;exact hp) _,ownsRow_setCell_below ho (by simp;exact hp) _,fun j e e2=>?_,?_,hp⟩
 ·cases e2
  rcases hat with h1 | h1
  ·exact h.apart g e h1
  ·have:=(World.ownsRow.lt h.came g e).2;omega
 ·exact (h.grown.andThen hg (fun j e=>.inl (hne j e))).trans (grown_setCell w5 p 1 _)
structure RkC (W0 : World) (p G lo n : Nat) (nv : Value) (N : List (List Int)) : Prop where
  typ : ∃ cs fr, W0.heap[p]? = some (.cells cs 180 fr)
  gb : W0.heap[G]? = some (.cells #[nv] 175 (0, 0))
  ngb : G ≠ p
  next : OwnL W0 lo nv N
  len : N.length = n
  few : n ≤ 4096
  edges : Edges n N
  rows : ∀ j, (rowN N j).length ≤ 4096
theorem RkC.row {W0:World} {p G lo n:Nat} {nv:Value} {N:List (List Int)} (hC:RkC W0 p G lo n nv N) {x:Nat} (hx:x<N.length):∃ h c aj cj,nv=.slice (some ⟨h,0,none⟩) n c∧∀ (w:World),W0.grownBy w (some p)→w.cell? ⟨h,x,none⟩=some (.slice aj (rowN N x).length cj)∧View .i64 w aj (rowN N x)∧h<w.heap.size∧w.heap[G]?=some (.cells #[nv] 175 (0,0)):=by
 obtain⟨V,hV⟩:=hC.next
 obtain⟨h,c,aj,cj,e1,e2,_,_,_⟩:=rowsL_read hV hx
 rw [hC.len] at e1
 refine⟨h,c,aj,cj,e1,fun w hS=>?_⟩
 have hV':=rowsL_same (w':=w) hV (fun g cs T fr _ hTT hg=>by
  refine (hS.block g (Array.getElem?_eq_some_iff.1 hg).1 (fun e=>?_)).trans hg
  cases e
  obtain⟨cs',fr',h'⟩:=hC.typ
  rw [h'] at hg
  cases hg
  rcases hTT with e | e <;> exact absurd e (by decide))
 obtain⟨h',c2,aj',cj',e1',e2',e3',e4',e5'⟩:=rowsL_read hV' hx
 rw [hC.len] at e1'
 rw [e1] at e1'
 rw [e2] at e2'
 cases e1'
 cases e2'
 rw [e2] at e3'
 exact⟨e3',e4',e5',(hS.block G (Array.getElem?_eq_some_iff.1 hC.gb).1 (fun e=>hC.ngb (Option.some.inj e))).trans hC.gb⟩
set_option maxHeartbeats 8000000 in
theorem refTo_any (W0:World) (p G lo n:Nat) (nv:Value) (N:List (List Int)) (hC:RkC W0 p G lo n nv N):∀ (f:Nat) (i:Int) (s:WalkS) (w:World) (cv lv:Value),GoodC n s.1→i ∉ s.1→0≤i→i<n→n - s.1.length≤f→s.2.length≤s.1.length→RkS W0 p w cv lv s.1 s.2 →
  Calls Tryz.prog 123 #[.pointer (some ⟨p,0,none⟩),.pointer (some ⟨G,0,none⟩),.int .i64 i] w fun e w'=>e=.returned (.tuple #[])∧∃ cv' lv',RkS W0 p w' cv' lv' (dfs N f i s).1 (dfs N f i s).2:=by
 intro f
 induction f with
 | zero =>
  intro i s w cv lv hg hi h0 h1 hl _ _
  have:=(hg.snoc hi h0 h1).len
  simp at this;omega
 | succ f ih =>
  intro i s w cv lv hg hi h0 h1 hl hls hS
  obtain⟨i0,hi0,hz0,hz1,hz2⟩:=info_parts GrInts.info
  have hgl:=hg.len
  obtain⟨x,rfl⟩:=Int.eq_ofNat_of_zero_le h0
  have hxn:x<n:=by omega
  have hxN:x<N.length:=by rw [hC.len];exact hxn
  obtain⟨h,cn,aj,cj,hnv,hrd⟩:=hC.row hxN
  have HRD:=hide hrd
  have HK:=hide (fun k=>dfsK_seg N n hC.edges f (x:Int) s hg hi (by omega) (by omega) hl hls k)
  have HD:=hide (dfs_succ N f (x:Int) s)
  have HKS:=hide (dfsK_succ N f (x:Int) s)
  have HK0:=hide (dfsK_zero N f (x:Int) s)
  have hrow:rowN N (x:Int).toNat=rowN N x:=by simp
  rw [hrow] at HD HKS
  have HC:=hide hC
  have HIH:=hide ih
  have HNJ:=hide (hC.rows x)
  have HED:Hid (∀ q,q<(rowN N x).length→0≤nth (rowN N x) q∧nth (rowN N x) q<n):=fun q hq=>hC.edges x _ (nth_memG _ _ hq)
  have HLEN:Hid (s.1.length≤4096∧s.2.length≤4096):=by show _∧_;have:=hC.few;omega
  have hxi:(x:Int)<(n:Int):=by omega
  generalize dfs N (f+1) (x:Int) s=RES at *
  generalize hnj:(rowN N x).length=nj at *
  have HNL:=hide hnj
  have hnji:(nj:Int)≤4096:=by have:=HNJ.out;omega
  obtain⟨a4,c4,rfl⟩:=own_shapeG hS.came
  obtain⟨e0,e1,f0,_⟩:=twoCells hS.blk
  have hpw:=(Array.getElem?_eq_some_iff.1 hS.blk).1
  have hSA:=hS.below ((Below.refl w.heap.size w).alloc (Nat.le_refl _) (.cells #[.int .i64 (x:Int)] 3))
  have HSA:=hide hSA
  have HWS:=hide (show W0.heap.size≤w.heap.size from hS.grown.size)
  have HII:=hide (And.intro hi0 (And.intro hz0 (And.intro hz1 hz2)))
  clear hC ih hg hi h0 h1 hl hls hgl hrd hnj hS hSA hi0 hz0 hz1 hz2 hxn hxN hrow
  go_enter Tryz.func123,Tryz.ntmps123
  go_wp2_with (at_builtin;refine wpList_append_lies _ rfl (.tmp 11) (.tmp 13) 26 rfl W0.heap.size 3 i0 (.int .i64 0) 1 8 Tryz.underlying26 HII.out.1 HII.out.2.1 HII.out.2.2.1 HII.out.2.2.2 rfl (by decide) (.slice a4 s.1.length c4) s.1.length _ rfl HSA.out.came ⟨w.heap.size,0,none⟩ 1 1 [.int .i64 (x:Int)] rfl rfl (World.news_of_block (cs:=#[.int .i64 (x:Int)]) (t:=3) (fr:=(0,0)) (allocNew _ _ rfl)) (by simp [Value.oneCell']) (by decide) (by unfold maxLen;have:=HLEN.out;omega) (by have:=HLEN.out;omega) (by rw [World.size_alloc];have:=HWS.out;omega) (w.heap.size+1) (by simp) ?_)
  intro g1 cap1 w1 ho1 hg1 hb1 _
  obtain⟨k1,hS1⟩:=HSA.out.pushC (x:Int) hg1 (by rcases hb1 with h | h;exact .inl h;exact .inr (by rw [World.size_alloc];omega)) (by simpa using ho1)
  obtain⟨q0,q1,qf,_⟩:=twoCells k1
  have HS1:=hide hS1
  clear ho1 hg1 hb1 hS1 HSA k1 e0 e1 f0
  go_wp2_with fail
  generalize hW1:(w1.setCell ⟨p,0,none⟩ (.slice (some ⟨g1,0,none⟩) (s.1.length+1) cap1))=W1 at *
  clear hW1 q0 q1 qf
  go_loopw [6] (fun i wr=>∃ (q:Nat) (cv' lv':Value),q≤nj∧i=.int .i64 q∧RkS W0 p wr cv' lv' (dfsK N f (x:Int) s q).1 (dfsK N f (x:Int) s q).2) (fun i _=>nj - (intOf i).toNat)
  case atStart=>exact⟨0,_,_,Nat.zero_le _,rfl,by rw [HK0.out];exact HS1.out⟩
  case round =>
   obtain⟨q,cv1,lv1,hq,rfl,hS⟩:=hrel
   clear HS1
   obtain⟨r1,r2,r3,r4⟩:=HRD.out _ hS.grown
   rw [hnv] at r4
   have g4:=(oneCell r4).1
   obtain⟨ca,cc,rfl,hvc,_⟩:=View.ofOwned hS.came
   obtain⟨e0,e1,f0,f1⟩:=twoCells hS.blk
   have hpl:=(Array.getElem?_eq_some_iff.1 hS.blk).1
   have hgl:=(Array.getElem?_eq_some_iff.1 r4).1
   rename World=>wl
   by_cases hlt:q<nj
   ·obtain⟨b2,o2,rfl,hb2,hcq⟩:=r2 q (by rw [HNL.out];exact hlt)
    have hy:=HED.out q hlt
    have HST:=hide (HKS.out q (by first | exact hlt | (rw [HNL.out];exact hlt)))
    obtain⟨yn,hye⟩:=Int.eq_ofNat_of_zero_le hy.1
    rw [hye] at hcq hy HST
    have hyn:yn<n:=by omega
    have hG:=HK.out q
    have hqi:(q:Int)<(nj:Int):=by omega
    have HLT:=hide hlt
    have HSS:=hide hS
    generalize dfsK N f (x:Int) s q=tq at *
    have hcl:tq.1.length≤4096:=by have:=hG.1.len;have:=HC.out.few;omega
    have hIN:=fun wx (hx:Below wl.heap.size wl wx)=>refIn14_any ca tq.1.length cc tq.1 (yn:Int) wx (hvc.below hx) rfl (by omega)
    have HIN2:Hid (∀ b:Bool,decide ((yn:Int)∈tq.1)=b→dfsK N f (x:Int) s (q+1)=if b then tq else dfs N f (yn:Int) tq):=fun b hb=>by
     rw [HST.out];unfold stepD
     cases b with
     | true=>rw [if_pos (of_decide_eq_true hb)];rfl
     | false=>rw [if_neg (of_decide_eq_false hb)];rfl
    have HREC:Hid (decide ((yn:Int)∈tq.1)=false→_):=fun hb=>HIH.out (yn:Int) tq wl.drew _ lv1 hG.1 (of_decide_eq_false hb) (by omega) (by omega) hG.2.1 hG.2.2 (HSS.out.below (Below.refl wl.heap.size wl).drew)
    have HCE:=hide (fun wx (hx:Below wl.heap.size wl wx)=>(show wx.cell? ⟨p,0,none⟩=some (.slice ca tq.1.length cc)∧wx.cell? ⟨G,0,none⟩=some (.slice (some ⟨h,0,none⟩) n cn)∧wx.cell? ⟨h,x,none⟩=some (.slice (some ⟨b2,o2,none⟩) nj cj)∧wx.cell? ⟨b2,o2+q,none⟩=some (.int .i64 (yn:Int)) from ⟨(hx.cell (p:=⟨p,0,none⟩) hpl).trans e0,(hx.cell (p:=⟨G,0,none⟩) hgl).trans g4,(hx.cell (p:=⟨h,x,none⟩) r3).trans r1,(hx.cell (p:=⟨b2,o2+q,none⟩) hb2).trans hcq⟩))
    generalize hrr:decide ((yn:Int)∈tq.1)=r at *
    have HE:=hide (HIN2.out r rfl)
    have HIN:=hide hIN
    have hC1:=(Below.refl wl.heap.size wl).drew
    have HC1:=hide hC1
    clear hS hlt hq hye hy hG hrr hIN hvc hb2 HIN2 HST hpl hgl r2 r3 r4
    go_wp2_with fail
    have hmix:Tryz.prog.follows .mixedOrders=true:=by kernel_rfl
    refine (wpIn_wide (n:=0)).1 ?_
    refine wpIn_normal (wpIn_region_any hmix (wpAnyC_sound (C:=Below wl.heap.size wl) _ _ _ _ ?_))
    change wpAnyC _ _ _ _ _ _ _ _ _ _ (World.drew _)
    refine wpAnyC_takeD (i:=0) (some 29) (v:=.pointer (some ⟨p,0,none⟩)) (fun _=>trivial) (by kernel_rfl) rfl rfl (by kernel_rfl) (by kernel_rfl) (by kernel_rfl) (fun _ _ _ h=>by cases h.1) hC1 (Or.inl ⟨by kernel_rfl,fun w' hC=>by clear hC;go_simp⟩) ?_
    simp only [Act.put,ap1,ap2,ap3]
    refine wpAnyC_takeD (i:=1) (some 30) (v:=.pointer (some ⟨p,0,none⟩)) (fun _=>trivial) (by kernel_rfl) rfl rfl (by kernel_rfl) (by kernel_rfl) (by kernel_rfl) (fun _ _ _ h=>by cases h.1) hC1 (Or.inl ⟨by kernel_rfl,fun w' hC=>by clear hC;go_simp⟩) ?_
    simp only [Act.put,ap1,ap2,ap3]
    refine wpAnyC_takeD (i:=2) (some 31) (v:=.pointer (some ⟨p,0,none⟩)) (fun _=>trivial) (by kernel_rfl) rfl rfl (by kernel_rfl) (by kernel_rfl) (by kernel_rfl) (fun _ _ _ h=>by cases h.1) hC1 (Or.inl ⟨by kernel_rfl,fun w' hC=>by clear hC;go_simp⟩) ?_
    simp only [Act.put,ap1,ap2,ap3]
    refine wpAnyC_takeD (i:=3) (some 32) (v:=.slice ca tq.1.length cc) (fun _=>trivial) (by kernel_rfl) rfl rfl (by kernel_rfl) (by kernel_rfl) (by kernel_rfl) (fun _ _ _ h=>by cases h.1) hC1 (Or.inl ⟨by kernel_rfl,fun w' hC=>by have e1:=(HCE.out w' hC).1;clear hC;go_simp⟩) ?_
    simp only [Act.put,ap1,ap2,ap3]
    refine wpAnyC_takeD (i:=4) (some 33) (v:=.pointer (some ⟨G,0,none⟩)) (fun _=>trivial) (by kernel_rfl) rfl rfl (by kernel_rfl) (by kernel_rfl) (by kernel_rfl) (fun _ _ _ h=>by cases h.1) hC1 (Or.inl ⟨by kernel_rfl,fun w' hC=>by clear hC;go_simp⟩) ?_
    simp only [Act.put,ap1,ap2,ap3]
    refine wpAnyC_takeD (i:=5) (some 34) (v:=.pointer (some ⟨G,0,none⟩)) (fun _=>trivial) (by kernel_rfl) rfl rfl (by kernel_rfl) (by kernel_rfl) (by kernel_rfl) (fun _ _ _ h=>by cases h.1) hC1 (Or.inl ⟨by kernel_rfl,fun w' hC=>by clear hC;go_simp⟩) ?_
    simp only [Act.put,ap1,ap2,ap3]
    refine wpAnyC_takeD (i:=6) (some 35) (v:=.pointer (some ⟨G,0,none⟩)) (fun _=>trivial) (by kernel_rfl) rfl rfl (by kernel_rfl) (by kernel_rfl) (by kernel_rfl) (fun _ _ _ h=>by cases h.1) hC1 (Or.inl ⟨by kernel_rfl,fun w' hC=>by clear hC;go_simp⟩) ?_
    simp only [Act.put,ap1,ap2,ap3]
    refine wpAnyC_takeD (i:=7) (some 36) (v:=.slice (some ⟨h,0,none⟩) n cn) (fun _=>trivial) (by kernel_rfl) rfl rfl (by kernel_rfl) (by kernel_rfl) (by kernel_rfl) (fun _ _ _ h=>by cases h.1) hC1 (Or.inl ⟨by kernel_rfl,fun w' hC=>by have e1:=(HCE.out w' hC).2.1;clear hC;go_simp⟩) ?_
    simp only [Act.put,ap1,ap2,ap3]
    refine wpAnyC_takeD (i:=8) (some 37) (v:=.int .i64 (x:Int)) (fun _=>trivial) (by kernel_rfl) rfl rfl (by kernel_rfl) (by kernel_rfl) (by kernel_rfl) (fun _ _ _ h=>by cases h.1) hC1 (Or.inl ⟨by kernel_rfl,fun w' hC=>by clear hC;go_simp⟩) ?_
    simp only [Act.put,ap1,ap2,ap3]
    refine wpAnyC_takeD (i:=9) (some 38) (v:=.pointer (some ⟨h,x,none⟩)) (fun _=>trivial) (by kernel_rfl) rfl rfl (by kernel_rfl) (by kernel_rfl) (by kernel_rfl) (fun _ _ _ h=>by cases h.1) hC1 (Or.inl ⟨by kernel_rfl,fun w' hC=>by clear hC;go_simp⟩) ?_
    simp only [Act.put,ap1,ap2,ap3]
    refine wpAnyC_takeD (i:=10) (some 39) (v:=.slice (some ⟨b2,o2,none⟩) nj cj) (fun _=>trivial) (by kernel_rfl) rfl rfl (by kernel_rfl) (by kernel_rfl) (by kernel_rfl) (fun _ _ _ h=>by cases h.1) hC1 (Or.inl ⟨by kernel_rfl,fun w' hC=>by have e1:=(HCE.out w' hC).2.2.1;clear hC;go_simp⟩) ?_
    simp only [Act.put,ap1,ap2,ap3]
    refine wpAnyC_takeD (i:=11) (some 40) (v:=.int .i64 (q:Int)) (fun _=>trivial) (by kernel_rfl) rfl rfl (by kernel_rfl) (by kernel_rfl) (by kernel_rfl) (fun _ _ _ h=>by cases h.1) hC1 (Or.inl ⟨by kernel_rfl,fun w' hC=>by clear hC;go_simp⟩) ?_
    simp only [Act.put,ap1,ap2,ap3]
    refine wpAnyC_takeD (i:=12) (some 41) (v:=.pointer (some ⟨b2,o2+q,none⟩)) (fun _=>trivial) (by kernel_rfl) rfl rfl (by kernel_rfl) (by kernel_rfl) (by kernel_rfl) (fun _ _ _ h=>by cases h.1) hC1 (Or.inl ⟨by kernel_rfl,fun w' hC=>by clear hC;go_simp⟩) ?_
    simp only [Act.put,ap1,ap2,ap3]
    refine wpAnyC_takeD (i:=13) (some 42) (v:=.int .i64 (yn:Int)) (fun _=>trivial) (by kernel_rfl) rfl rfl (by kernel_rfl) (by kernel_rfl) (by kernel_rfl) (fun _ _ _ h=>by cases h.1) hC1 (Or.inl ⟨by kernel_rfl,fun w' hC=>by have e1:=(HCE.out w' hC).2.2.2;clear hC;go_simp⟩) ?_
    simp only [Act.put,ap1,ap2,ap3]
    refine wpAnyC_ready (rs:=[14]) (by kernel_rfl) (by simp) ?_
    refine AllC.cons rfl (fun K hK=>?_) AllC.nil
    go_simp
    refine⟨trivial,rfl,(callsIn_wide.2 (HIN.out _ hC1)).mono ?_⟩
    rintro e w5 ⟨rfl,rfl⟩
    dsimp only
    refine hK _ _ hC1 ?_
    clear hK K
    try simp only [Act.put,ap1,ap2,ap3]
    refine wpAnyC_takeD (i:=15) (some 44) (v:=.bool (!r)) (fun _=>trivial) (by kernel_rfl) rfl rfl (by kernel_rfl) (by kernel_rfl) (by kernel_rfl) (fun _ _ _ h=>by cases h.1) hC1 (Or.inl ⟨by kernel_rfl,fun w' hC=>by clear hC;go_simp⟩) ?_
    simp only [Act.put,ap1,ap2,ap3]
    refine wpAnyC_done (by kernel_rfl) ?_ _
    refine⟨rfl,?_⟩
    obtain⟨x0,x1,x2,x3⟩:=HCE.out _ HC1.out
    clear hC1
    cases r with
    | true =>
     go_wp2_with fail
     exact⟨⟨q+1,_,_,HLT.out,by simp,by rw [HE.out];exact HSS.out.below HC1.out⟩,measZ2 HLT.out⟩
    | false =>
     have HR:=hide (HREC.out rfl)
     clear HREC
     go_wp2_with fail
     refine HR.out.mono ?_
     rintro e w6 ⟨rfl,cv6,lv6,hS6⟩
     have HS6:=hide hS6
     clear hS6 HSS HR HCE x0 x1 x2 x3
     go_wp2_with fail
     exact⟨⟨q+1,cv6,lv6,HLT.out,by simp,by rw [HE.out];exact HS6.out⟩,measZ2 HLT.out⟩
   ·have e:nj=q:=by omega
    subst e
    have hG:=HK.out nj
    obtain⟨a7,c7,rfl⟩:=own_shapeG hS.left
    have HDD:Hid (RES=((dfsK N f (x:Int) s nj).1,(dfsK N f (x:Int) s nj).2++[(x:Int)])):=HD.out
    generalize dfsK N f (x:Int) s nj=tq at *
    have HL2:Hid (tq.2.length≤4096):=by show _≤_;have:=hG.1.len;have:=hG.2.2;have:=HC.out.few;omega
    have hSA:=hS.below ((Below.refl wl.heap.size wl).alloc (Nat.le_refl _) (.cells #[.int .i64 (x:Int)] 3))
    have HSA:=hide hSA
    have HW2:=hide (show W0.heap.size≤wl.heap.size from hS.grown.size)
    clear hS hSA hq hG hvc r2 r3 r4 HK HD HKS HK0 HIH HED HRD
    go_wp2_with (at_builtin;refine wpList_append_lies _ rfl (.tmp 62) (.tmp 64) 26 rfl W0.heap.size 3 i0 (.int .i64 0) 1 8 Tryz.underlying26 HII.out.1 HII.out.2.1 HII.out.2.2.1 HII.out.2.2.2 rfl (by decide) (.slice a7 tq.2.length c7) tq.2.length _ rfl HSA.out.left ⟨wl.heap.size,0,none⟩ 1 1 [.int .i64 (x:Int)] rfl rfl (World.news_of_block (cs:=#[.int .i64 (x:Int)]) (t:=3) (fr:=(0,0)) (allocNew _ _ rfl)) (by simp [Value.oneCell']) (by decide) (by unfold maxLen;have:=HL2.out;omega) (by have:=HL2.out;omega) (by rw [World.size_alloc];have:=HW2.out;omega) (wl.heap.size+1) (by simp) ?_)
    intro g2 cap2 w2 ho2 hg2 hb2 _
    obtain⟨k2,hS2⟩:=HSA.out.pushL (x:Int) hg2 (by rcases hb2 with h | h;exact .inl h;exact .inr (by rw [World.size_alloc];omega)) (by simpa using ho2)
    obtain⟨q0,q1,_,qf⟩:=twoCells k2
    have HS2:=hide hS2
    clear ho2 hg2 hb2 hS2 HSA k2 e0 e1 f0 f1
    go_wp2_with fail
    go_end0
    rw [HDD.out]
    exact⟨rfl,_,_,HS2.out⟩
structure RfG (w : World) (B lo : Nat) (N : List (List Int)) : Prop where
  mem : RfB w B lo N
  edges : Edges N.length N
  few : N.length ≤ 4096
  some_ : 0 < N.length
  once : ∀ j, (rowN N j).Nodup
theorem RfG.below {w w':World} {B lo:Nat} {N:List (List Int)} (h:RfG w B lo N) (hb:Below w.heap.size w w'):RfG w' B lo N:=⟨h.mem.below hb,h.edges,h.few,h.some_,h.once⟩
theorem RfG.rows {w:World} {B lo:Nat} {N:List (List Int)} (h:RfG w B lo N) (j:Nat):(rowN N j).length≤4096:=Nat.le_trans (nodup_lenG N.length _ (h.once j) (fun x hx=>h.edges j x hx)) h.few
theorem RfG.open {w:World} {B lo:Nat} {N:List (List Int)} (h:RfG w B lo N):∃ a c,w.heap[B]?=some (.cells #[.slice a N.length c] 175 (0,0))∧LV w a N:=by
 obtain⟨nv,h1,h2⟩:=h.mem.mem
 obtain⟨a,c,rfl,_,h3,_⟩:=h2.head
 exact⟨a,c,h1,h3⟩
theorem refLen14_any (w:World) (B lo:Nat) (N:List (List Int)) (h:RfG w B lo N):Calls Tryz.prog 72 #[.pointer (some ⟨B,0,none⟩)] w fun e w'=>e=.returned (.int .i64 N.length)∧w=w':=by
 obtain⟨a,c,h1,_⟩:=h.open
 have c0:=(oneCell h1).1
 clear h h1
 go_enter Tryz.func72,Tryz.ntmps72
 go_wp2
 go_ret
 exact⟨rfl,rfl⟩
theorem refLen14_nil (w:World):Calls Tryz.prog 72 #[.pointer none] w fun e w'=>e=.returned (.int .i64 0)∧w=w':=by
 go_enter Tryz.func72,Tryz.ntmps72
 go_wp2
 go_ret
 exact⟨rfl,rfl⟩
theorem refTo_start (w:World) (B lo:Nat) (N:List (List Int)) (h:RfG w B lo N):Calls Tryz.prog 123 #[.pointer (some ⟨w.heap.size,0,none⟩),.pointer (some ⟨B,0,none⟩),.int .i64 0] (w.alloc (.cells #[.slice none 0 0,.slice none 0 0] 180)) fun e w'=>e=.returned (.tuple #[])∧∃ cv lv,w'.heap[w.heap.size]?=some (.cells #[cv,lv] 180 (0,0))∧w'.ownsRow w.heap.size 3 1 cv (walkF N).1.length ((walkF N).1.map (Value.int .i64))∧w'.ownsRow w.heap.size 3 1 lv (walkF N).2.length ((walkF N).2.map (Value.int .i64))∧Below w.heap.size w w':=by
 obtain⟨nv,h1,h2⟩:=h.mem.mem
 have hba:Below w.heap.size w (w.alloc (.cells #[.slice none 0 0,.slice none 0 0] 180)):=(Below.refl _ _).alloc (Nat.le_refl _) _
 have hk:=allocNew w (.cells #[.slice none 0 0,.slice none 0 0] 180) rfl
 have hBl:=(Array.getElem?_eq_some_iff.1 h1).1
 have hC:RkC _ w.heap.size B lo N.length nv N:=⟨⟨_,_,hk⟩,allocOld h1 _,by omega,h2.below hba,rfl,h.few,h.edges,h.rows⟩
 have hS:RkS (w.alloc (.cells #[.slice none 0 0,.slice none 0 0] 180)) w.heap.size (w.alloc (.cells #[.slice none 0 0,.slice none 0 0] 180)) (.slice none 0 0) (.slice none 0 0) [] []:=⟨hk,World.ownsRow_nil _ _ _ _,World.ownsRow_nil _ _ _ _,fun g e=>by simp [Value.ownBlock] at e,World.grownBy.refl _ _,by rw [World.size_alloc];omega⟩
 have hcall:=refTo_any _ w.heap.size B lo N.length nv N hC N.length 0 ([],[]) _ _ _ ⟨by simp,fun x hx=>by simp at hx⟩ (by simp) (by omega) (by have:=h.some_;omega) (by simp) (by simp) hS
 refine hcall.mono ?_
 rintro e w' ⟨rfl,cv,lv,hS'⟩
 exact⟨rfl,cv,lv,hS'.blk,own_mono hS'.came (by rw [World.size_alloc];omega),own_mono hS'.left (by rw [World.size_alloc];omega),hba.grown hS'.grown hba.size (fun j e=>by cases e;exact Nat.le_refl _)⟩
set_option maxHeartbeats 4000000 in
theorem refNext14_any (i:Int) (w:World) (B lo:Nat) (N:List (List Int)) (h:RfG w B lo N):Calls Tryz.prog 73 #[.pointer (some ⟨B,0,none⟩),.int .i64 i] w fun e w'=>AnsI w w' e (nextL N i):=by
 have hL:=refLen14_any w B lo N h
 cases hn:nodeB N.length i with
 | false =>
  have HE:Hid (nextL N i=[]):=by show _=_;unfold nextL;rw [hn];rfl
  have hcase:decide (i<0)=true∨(decide (i<0)=false∧decide ((N.length:Int)≤i)=true):=by
   unfold nodeB at hn
   have:=of_decide_eq_false hn
   by_cases h:i<0
   ·exact .inl (decide_eq_true h)
   ·exact .inr ⟨decide_eq_false h,decide_eq_true (by omega)⟩
  clear h hn
  rcases hcase with hc1 | ⟨hc1,hc2⟩
  ·clear hL
   go_enter Tryz.func73,Tryz.ntmps73
   go_wp2_with fail
   go_ret
   rw [HE.out]
   exact ansI_nil w
  ·go_enter Tryz.func73,Tryz.ntmps73
   go_wp2_with fail
   refine hL.mono ?_
   rintro e w1 ⟨rfl,rfl⟩
   go_wp2_with fail
   go_ret
   rw [HE.out]
   exact ansI_nil w
 | true =>
  obtain⟨k,hk,rfl⟩:=nodeB_true hn
  have HE:Hid (nextL N (k:Int)=rowN N k):=by show _=_;unfold nextL;rw [hn];simp
  obtain⟨a,c,h1,hLV⟩:=h.open
  obtain⟨b,off,aj,nj,cj,rfl,hb,hc,hcl,hcc,hvj⟩:=hLV k hk
  have hki:(k:Int)<(N.length:Int):=by omega
  have hc1:decide ((k:Int)<0)=false:=decide_eq_false (by omega)
  have hc2:decide ((N.length:Int)≤(k:Int))=false:=decide_eq_false (by omega)
  have hc3:decide (N.length≤k)=false:=decide_eq_false (by omega)
  have hrl:nj≤4096:=by rw [← hcl];exact h.rows k
  have hnji:(nj:Int)≤4096:=by omega
  have HB:=hide (fun wx (hx:Below w.heap.size w wx)=>(hx.block _ (Array.getElem?_eq_some_iff.1 h1).1).trans h1)
  have HC:=hide (fun wx (hx:Below w.heap.size w wx)=>(hx.cell (p:=⟨b,off+k,none⟩) hb).trans hc)
  have HV:=hide hvj
  have HCL:=hide hcl
  have HN:=hide hrl
  clear h h1 hLV hb hc hvj hcl hcc hn hk hrl
  go_enter Tryz.func73,Tryz.ntmps73
  go_wp2_with fail
  refine hL.mono ?_
  rintro e w1 ⟨rfl,rfl⟩
  clear hL
  go_wp2_with fail
  go_loopw [5,6] (fun v i wr=>∃ q:Nat,q≤nj∧i=.int .i64 q∧Below w.heap.size w wr∧wr.ownsRow w.heap.size 3 1 v ((rowN N k).take q).length (((rowN N k).take q).map (Value.int .i64))) (fun _ i _=>nj - (intOf i).toNat)
  case atStart=>exact⟨0,Nat.zero_le _,rfl,Below.refl _ _,World.ownsRow_nil _ _ _ _⟩
  case round =>
   obtain⟨q,hq,rfl,hbr,ho⟩:=hrel
   obtain⟨a4,c4,rfl⟩:=own_shapeG ho
   have g0:=(oneCell (HB.out _ hbr)).1
   have g1:=HC.out _ hbr
   by_cases hlt:q<nj
   ·have hqR:q<(rowN N k).length:=by rw [HCL.out];exact hlt
    obtain⟨b3,o3,rfl,_,hcq⟩:=(HV.out.below hbr) q hqR
    have hqi:(q:Int)<(nj:Int):=by omega
    have HSN:=hide (take_snoc (rowN N k) q hqR)
    have HZL:Hid (((rowN N k).take q).length≤4096):=by show _≤_;rw [List.length_take];have:=HN.out;omega
    have HOA:=hide (own_below ho ((Below.refl wr.heap.size wr).alloc (Nat.le_refl _) (.cells #[.int .i64 (nth (rowN N k) q)] 3)))
    have HBR:=hide hbr
    have HLT:=hide hlt
    generalize (rowN N k).take q=z1 at *
    generalize nth (rowN N k) q=y at *
    clear hqR ho hbr hlt hq
    go_wp2_with (at_builtin;refine wpList_app1 rfl (.tmp 28) (.tmp 39) rfl w.heap.size _ z1 y rfl wr.heap.size rfl (allocNew _ _ rfl) HOA.out (by have:=HZL.out;omega) (by rw [World.size_alloc];have:=HBR.out.size;omega) ?_)
    intro g cap w6 ho6 hg6 _
    have HB6:=hide ((HBR.out.alloc HBR.out.size _).grown hg6 (by rw [World.size_alloc];have:=HBR.out.size;omega) (fun j e=>(World.ownsRow.lt HOA.out j e).1))
    have HO6:=hide ho6
    clear ho6 hg6 HOA
    go_wp2_with fail
    exact⟨⟨q+1,HLT.out,by simp,HB6.out,by rw [HSN.out];simpa using HO6.out⟩,measZ2 HLT.out⟩
   ·have e:nj=q:=by omega
    subst e
    have hrow:(rowN N k).take nj=rowN N k:=List.take_of_length_le (by rw [HCL.out];exact Nat.le_refl _)
    rw [hrow] at ho ⊢
    have HO:=hide (And.intro ho hbr)
    clear ho hbr hrow hq
    go_wp2_with fail
    go_ret
    rw [HE.out]
    exact⟨_,rfl,HO.out.1,HO.out.2⟩
theorem ahead_whole {N:List (List Int)} (hE:Edges N.length N) (i:Int):aheadT N N.length i=aheadL N i:=by
 unfold aheadL
 cases hn:nodeB N.length i with
 | true=>rfl
 | false =>
  unfold nodeB at hn
  have h1:=of_decide_eq_false hn
  have:∀ x,x ∉ aheadT N N.length i:=fun x hx=>by
   obtain⟨j,_,hj,_⟩:=(aheadT_mem _ _ _ _).1 hx
   exact h1 (hE j i hj)
  exact List.eq_nil_iff_forall_not_mem.2 this
set_option maxHeartbeats 4000000 in
theorem refAhead14_any (i:Int) (w:World) (B lo:Nat) (N:List (List Int)) (h:RfG w B lo N):Calls Tryz.prog 74 #[.pointer (some ⟨B,0,none⟩),.int .i64 i] w fun e w'=>AnsI w w' e (aheadL N i):=by
 have HE:=hide (ahead_whole h.edges i)
 have HF:=hide h.few
 have HG:=hide h
 obtain⟨a,c,h1,hLV⟩:=h.open
 have HB:=hide (fun wx (hx:Below w.heap.size w wx)=>(hx.block _ (Array.getElem?_eq_some_iff.1 h1).1).trans h1)
 have HV:=hide hLV
 have HS:=hide (fun k=>aheadT_succ N k i)
 have HZ:Hid (aheadT N 0 i=[]):=by simp [Hid,aheadT]
 have HR:=hide h.rows
 have hni:(N.length:Int)≤4096:=by have:=h.few;omega
 generalize hnn:N.length=n at *
 have HNN:=hide hnn
 clear h h1 hLV hnn
 go_enter Tryz.func74,Tryz.ntmps74
 go_wp2_with fail
 go_loopw [5,6] (fun v k wr=>∃ q:Nat,q≤n∧k=.int .i64 q∧Below w.heap.size w wr∧wr.ownsRow w.heap.size 3 1 v (aheadT N q i).length ((aheadT N q i).map (Value.int .i64))) (fun _ k _=>n - (intOf k).toNat)
 case atStart=>exact⟨0,Nat.zero_le _,rfl,Below.refl _ _,by rw [HZ.out];exact World.ownsRow_nil _ _ _ _⟩
 case round =>
  obtain⟨q,hq,rfl,hbr,ho⟩:=hrel
  obtain⟨a4,c4,rfl⟩:=own_shapeG ho
  have g0:=(oneCell (HB.out _ hbr)).1
  have hL:=refLen14_any wr B lo N (HG.out.below hbr)
  rw [HNN.out] at hL
  by_cases hlt:q<n
  ·obtain⟨b,off,aj,nj,cj,rfl,hb,hc,hcl,hcc,hvj⟩:=(HV.out.below hbr) q (by rw [HNN.out];exact hlt)
   have hqi:(q:Int)<(n:Int):=by omega
   have hIN:=refIn14_any aj nj cj (rowN N q) i wr hvj hcl (by have:=HR.out q;omega)
   have HSN:=hide (HS.out q)
   have HZL:Hid ((aheadT N q i).length≤4096):=by show _≤_;have:=aheadT_len N q i;omega
   have HBR:=hide hbr
   have HLT:=hide hlt
   have HO:=hide ho
   have HOA:=hide (own_below ho ((Below.refl wr.heap.size wr).alloc (Nat.le_refl _) (.cells #[.int .i64 (q:Int)] 3)))
   generalize aheadT N q i=z1 at *
   generalize hrr:decide (i∈rowN N q)=r at *
   have HE2:Hid (aheadT N (q+1) i=if r then z1++[(q:Int)] else z1):=by
    show _=_
    rw [HSN.out]
    cases r with
    | true=>rw [if_pos (of_decide_eq_true hrr)];rfl
    | false=>rw [if_neg (of_decide_eq_false hrr)];simp
   clear ho hbr hlt hq hb hcl hcc hvj hrr HSN
   go_wp2_with fail
   refine hL.mono ?_
   rintro e w1 ⟨rfl,rfl⟩
   clear hL
   go_wp2_with fail
   refine hIN.mono ?_
   rintro e w1 ⟨rfl,rfl⟩
   clear hIN
   cases r with
   | false =>
    go_wp2_with fail
    exact⟨⟨q+1,HLT.out,by simp,HBR.out,by rw [HE2.out];simpa using HO.out⟩,measZ2 HLT.out⟩
   | true =>
    go_wp2_with (at_builtin;refine wpList_app1 rfl (.tmp 22) (.tmp 24) rfl w.heap.size _ z1 (q:Int) rfl wr.heap.size rfl (allocNew _ _ rfl) HOA.out (by have:=HZL.out;omega) (by rw [World.size_alloc];have:=HBR.out.size;omega) ?_)
    intro g cap w6 ho6 hg6 _
    have HB6:=hide ((HBR.out.alloc HBR.out.size _).grown hg6 (by rw [World.size_alloc];have:=HBR.out.size;omega) (fun j e=>(World.ownsRow.lt HOA.out j e).1))
    have HO6:=hide ho6
    clear ho6 hg6 HOA
    go_wp2_with fail
    exact⟨⟨q+1,HLT.out,by simp,HB6.out,by rw [HE2.out];simpa using HO6.out⟩,measZ2 HLT.out⟩
  ·have e:n=q:=by omega
   subst e
   have HO:=hide (And.intro ho hbr)
   clear ho hbr hq
   go_wp2_with fail
   refine hL.mono ?_
   rintro e w1 ⟨rfl,rfl⟩
   clear hL
   go_wp2_with fail
   go_ret
   rw [← HE.out]
   exact⟨_,rfl,HO.out.1,HO.out.2⟩
set_option maxHeartbeats 4000000 in
theorem refOrder14_any (w:World) (B lo:Nat) (N:List (List Int)) (h:RfG w B lo N):Calls Tryz.prog 76 #[.pointer (some ⟨B,0,none⟩)] w fun e w'=>AnsI w w' e (walkF N).2.reverse:=by
 have hs:=refTo_start w B lo N h
 have hL:=refLen14_any _ B lo N (h.below ((Below.refl w.heap.size w).alloc (Nat.le_refl _) (.cells #[.slice none 0 0,.slice none 0 0] 180)))
 have h0:(0:Int)<(N.length:Int):=by have:=h.some_;omega
 have hQ:=walkF_all N h.edges h.some_
 have hlen:(walkF N).2.length≤4096:=by rw [hQ.perm.length_eq];exact Nat.le_trans hQ.good.len h.few
 generalize (walkF N).2=zs at *
 have HS:=hide hs
 clear h hs hQ
 go_enter Tryz.func76,Tryz.ntmps76
 go_wp2_with fail
 refine hL.mono ?_
 rintro e w1 ⟨rfl,rfl⟩
 clear hL
 go_wp2_with fail
 refine HS.out.mono ?_
 rintro e w2 ⟨rfl,cv,lv,k2,hc,hl,hb⟩
 obtain⟨la,lc,rfl,hvl,_⟩:=View.ofOwned hl
 obtain⟨_,c1,_⟩:=twoCells k2
 have HB:=hide hb
 have HK:=hide k2
 have HV:=hide hvl
 have HLN:=hide hlen
 have hzi:(zs.length:Int)≤4096:=by omega
 generalize hnz:zs.length=nz at *
 have HNZ:=hide hnz
 clear hc hl hb HS k2 hvl hlen hnz
 go_wp2_with fail
 go_loopw [4,5] (fun v k wr=>∃ q:Nat,q≤nz∧k=.int .i64 ((nz:Int) - 1 - q)∧Below w2.heap.size w2 wr∧wr.ownsRow w2.heap.size 3 1 v (zs.reverse.take q).length ((zs.reverse.take q).map (Value.int .i64))) (fun _ k _=>((intOf k)+1).toNat)
 case atStart=>exact⟨0,Nat.zero_le _,by simp,Below.refl _ _,World.ownsRow_nil _ _ _ _⟩
 case round =>
  obtain⟨q,hq,rfl,hbr,ho⟩:=hrel
  obtain⟨a4,c4,rfl⟩:=own_shapeG ho
  obtain⟨_,d1,_⟩:=twoCells ((hbr.block _ (Array.getElem?_eq_some_iff.1 HK.out).1).trans HK.out)
  by_cases hlt:q<nz
  ·obtain⟨m,hm⟩:∃ m:Nat,(nz:Int) - 1 - q=(m:Int):=⟨nz - 1 - q,by omega⟩
   have hmn:m<nz:=by omega
   obtain⟨b3,o3,rfl,_,hcq⟩:=(HV.out.below hbr) m (by rw [HNZ.out];exact hmn)
   have hqr:q<zs.reverse.length:=by rw [List.length_reverse,HNZ.out];exact hlt
   have hnth:nth zs.reverse q=nth zs m:=by
    have hmz:m<zs.length:=by rw [HNZ.out];exact hmn
    have e1:nth zs.reverse q=zs.reverse[q]:=by simp only [nth,List.getD,List.getElem?_eq_getElem hqr];rfl
    have e2:nth zs m=zs[m]:=by simp only [nth,List.getD,List.getElem?_eq_getElem hmz];rfl
    rw [e1,e2,List.getElem_reverse]
    congr 1
    have:=HNZ.out
    omega
   have HSN:=hide (take_snoc zs.reverse q hqr)
   rw [hnth] at HSN
   have HZL:Hid ((zs.reverse.take q).length≤4096):=by show _≤_;rw [List.length_take];have:=HLN.out;omega
   have HBR:=hide hbr
   have HLT:=hide hlt
   have HOA:=hide (own_below ho ((Below.refl wr.heap.size wr).alloc (Nat.le_refl _) (.cells #[.int .i64 (nth zs m)] 3)))
   have HM:=hide hm
   have hmi:(m:Int)<(nz:Int):=by omega
   have hm0:decide ((0:Int)≤(m:Int))=true:=decide_eq_true (by omega)
   have hw1:IntKind.i64.wrap ((m:Int) - 1)=(m:Int) - 1:=by rw [IntKind.wrap_i64] <;> omega
   have HBW:=hide (HB.out.trans (hbr.mono HB.out.size))
   rw [hm]
   generalize zs.reverse.take q=z1 at *
   generalize nth zs m=y at *
   clear hqr ho hbr hlt hq hmn hm hnth
   go_wp2_with (at_builtin;refine wpList_app1 rfl (.tmp 24) (.tmp 32) rfl w2.heap.size _ z1 y rfl wr.heap.size rfl (allocNew _ _ rfl) HOA.out (by have:=HZL.out;omega) (by rw [World.size_alloc];have:=HBR.out.size;omega) ?_)
   intro g cap w6 ho6 hg6 _
   have HB6:=hide ((HBR.out.alloc HBR.out.size _).grown hg6 (by rw [World.size_alloc];have:=HBR.out.size;omega) (fun j e=>(World.ownsRow.lt HOA.out j e).1))
   have HO6:=hide ho6
   clear ho6 hg6 HOA
   go_wp2_with fail
   exact⟨⟨q+1,HLT.out,by have:=HM.out;congr 1;omega,HB6.out,by rw [HSN.out];simpa using HO6.out⟩,by simp [intOf]⟩
  ·have e:nz=q:=by omega
   subst e
   have hm1:(nz:Int) - 1 - nz=-1:=by omega
   have hrow:zs.reverse.take nz=zs.reverse:=List.take_of_length_le (by rw [List.length_reverse,HNZ.out];exact Nat.le_refl _)
   rw [hrow] at ho ⊢
   rw [hm1]
   have HO:=hide (And.intro (own_mono ho HB.out.size) (HB.out.trans (hbr.mono HB.out.size)))
   clear ho hbr hrow hq hm1
   go_wp2_with fail
   go_ret
   exact⟨_,rfl,HO.out.1,HO.out.2⟩
end Go.Proofs.YtlcaedibmlidlaaGreat
namespace Go.Proofs.YtlcaedibmlidlaaGreat
open Go.RowKit Go.Shelf
attribute [local go_sem] Oper.semAt_some
set_option linter.unusedVariables false
set_option linter.unusedSimpArgs false
set_option maxRecDepth 10000
attribute [local go_sem] Oper.semAt_some
set_option linter.unusedVariables false
set_option linter.unusedSimpArgs false
set_option maxRecDepth 10000

def OfE (N:List (List Int)) (er:Int):Prop:=(N.length=0∧er=2)∨(4096<N.length∧er=4)∨(0<N.length∧N.length≤4096∧¬ Edges N.length N∧er=141)∨(0<N.length∧N.length≤4096∧Edges N.length N∧er=0)
theorem ofE_uniq {N:List (List Int)} {a b:Int} (h:OfE N a) (k:OfE N b):a=b:=by
 rcases h with ⟨h1,rfl⟩ | ⟨h1,rfl⟩ | ⟨h1,h2,h3,rfl⟩ | ⟨h1,h2,h3,rfl⟩ <;> rcases k with ⟨k1,rfl⟩ | ⟨k1,rfl⟩ | ⟨k1,k2,k3,rfl⟩ | ⟨k1,k2,k3,rfl⟩ <;> first | rfl | omega | exact absurd k3 h3 | exact absurd h3 k3
theorem made_edges {N:List (List Int)} (hE:Edges N.length N):Edges (N.map onceF).length (N.map onceF)∧∀ j,(rowN (N.map onceF) j).Nodup:=by
 have hrow:∀ j,rowN (N.map onceF) j=onceF (rowN N j):=fun j=>by
  by_cases hj:j<N.length
  ·exact rowN_map N onceF j hj
  ·rw [rowN_out _ _ (by rw [List.length_map];omega),rowN_out _ _ (by omega)];rfl
 refine⟨fun j x hx=>?_,fun j=>by rw [hrow];exact once_nodup _⟩
 rw [hrow,once_mem] at hx
 rw [List.length_map]
 exact hE j x hx
theorem rfQ_open {w w':World} {e:Ending} {N:List (List Int)} (h:RfQ w w' e N):∃ wp er,e=.returned (.tuple #[.pointer wp,.int .i64 er])∧OfE N er∧Below w.heap.size w w'∧(er=0→∃ p,wp=some ⟨p,0,none⟩∧RfG w' p w.heap.size (N.map onceF))∧(er≠0→wp=none):=by
 rcases h with ⟨h1,rfl,hb⟩ | ⟨h1,rfl,hb⟩ | ⟨h1,h2,h3,rfl,hb⟩ | ⟨h1,h2,h3,p,rfl,hR,hp,hb⟩
 ·exact⟨none,2,rfl,.inl ⟨h1,rfl⟩,hb,(fun e=>by cases e),fun _=>rfl⟩
 ·exact⟨none,4,rfl,.inr (.inl ⟨h1,rfl⟩),hb,(fun e=>by cases e),fun _=>rfl⟩
 ·exact⟨none,141,rfl,.inr (.inr (.inl ⟨h1,h2,h3,rfl⟩)),hb,(fun e=>by cases e),fun _=>rfl⟩
 ·refine⟨some ⟨p,0,none⟩,0,rfl,.inr (.inr (.inr ⟨h1,h2,h3,rfl⟩)),hb,fun _=>⟨p,rfl,hR,(made_edges h3).1,by rw [List.length_map];exact h2,by rw [List.length_map];exact h1,(made_edges h3).2⟩,fun e=>absurd rfl e⟩
end Go.Proofs.YtlcaedibmlidlaaGreat
namespace Go.Proofs.YtlcaedibmlidlaaGreat
open Go.RowKit
set_option linter.unusedVariables false
set_option linter.unusedSimpArgs false
set_option maxRecDepth 10000

theorem CopyInst.info:(Tryz.prog.info? 105).map (fun i=>(i.zero,i.size,i.bytes))=some (some (.agg #[.int .u8 0,.int .u32 0,.string ⟨#[]⟩]),3,24):=by kernel_rfl
structure PartA (w : World) (g n k : Nat) (l : List ArgT) : Prop where
  row : ∃ cs : Array Value, w.heap[g]? = some (.cells cs 105 (0, 0)) ∧ cs.size = n * 3
  each : ∀ j, j < k → w.cell? ⟨g, j * 3, none⟩ = some (.int .u8 (nthA l j).1) ∧ w.cell? ⟨g, j * 3 + 1, none⟩ = some (.int .u32 (nthA l j).2.1) ∧ w.cell? ⟨g, j * 3 + 2, none⟩ = some (.string (nthA l j).2.2)
theorem cells_can {w:World} {g T:Nat} {cs:Array Value} (h:w.heap[g]?=some (.cells cs T (0,0))) (j:Nat) (hj:j<cs.size):(∃ v,w.cell? ⟨g,j,none⟩=some v)∧w.frozen? ⟨g,j,none⟩=false:=by
 refine⟨⟨cs[j],by simp [World.cell?,h,hj]⟩,by simp [World.frozen?,h]⟩
theorem PartA.store {w:World} {g n k:Nat} {l:List ArgT} (h:PartA w g n k l) (hk:k<n) :
  PartA (((w.setCell ⟨g,k * 3,none⟩ (.int .u8 (nthA l k).1)).setCell ⟨g,k * 3+1,none⟩ (.int .u32 (nthA l k).2.1)).setCell ⟨g,k * 3+2,none⟩ (.string (nthA l k).2.2)) g n (k+1) l:=by
 obtain⟨⟨cs,h1,h2⟩,h3⟩:=h
 obtain⟨W,hW⟩:∃ W,W=((w.setCell ⟨g,k * 3,none⟩ (.int .u8 (nthA l k).1)).setCell ⟨g,k * 3+1,none⟩ (.int .u32 (nthA l k).2.1)).setCell ⟨g,k * 3+2,none⟩ (.string (nthA l k).2.2):=⟨_,rfl⟩
 have hb:W.heap[g]?=some (.cells (((cs.setIfInBounds (k * 3) (.int .u8 (nthA l k).1)).setIfInBounds (k * 3+1) (.int .u32 (nthA l k).2.1)).setIfInBounds (k * 3+2) (.string (nthA l k).2.2)) 105 (0,0)):=by
  rw [hW];simp [World.setCell,Array.getElem?_modify,h1]
 have cell:∀ j,W.cell? ⟨g,j,none⟩=(((cs.setIfInBounds (k * 3) (.int .u8 (nthA l k).1)).setIfInBounds (k * 3+1) (.int .u32 (nthA l k).2.1)).setIfInBounds (k * 3+2) (.string (nthA l k).2.2))[j]?:=fun j=>by
  simp [World.cell?,hb]
 have old:∀ j,w.cell? ⟨g,j,none⟩=cs[j]?:=fun j=>by simp [World.cell?,h1]
 rw [← hW]
 refine⟨⟨_,hb,by simp [h2]⟩,fun j hj=>?_⟩
 by_cases hjk:j<k
 ·obtain⟨c1,c2,c3⟩:=h3 j hjk
  rw [old] at c1 c2 c3
  refine⟨?_,?_,?_⟩
  all_goals rw [cell,Array.getElem?_setIfInBounds_ne (by omega),Array.getElem?_setIfInBounds_ne (by omega),Array.getElem?_setIfInBounds_ne (by omega)]
  ·exact c1
  ·exact c2
  ·exact c3
 ·obtain rfl:j=k:=by omega
  refine⟨?_,?_,?_⟩
  ·rw [cell,Array.getElem?_setIfInBounds_ne (by omega),Array.getElem?_setIfInBounds_ne (by omega),Array.getElem?_setIfInBounds_self_of_lt (by omega)]
  ·rw [cell,Array.getElem?_setIfInBounds_ne (by omega),Array.getElem?_setIfInBounds_self_of_lt (by simp;omega)]
  ·rw [cell,Array.getElem?_setIfInBounds_self_of_lt (by simp;omega)]
theorem PartA.view {w:World} {g n:Nat} {l:List ArgT} (h:PartA w g n n l) (hl:l.length=n):ArgsV w (some ⟨g,0,none⟩) l:=by
 intro j hj
 obtain⟨c1,c2,c3⟩:=h.each j (by omega)
 exact⟨g,0,rfl,World.block_lt_of_cell? _ _ c1,by rw [Nat.zero_add];exact c1,by rw [Nat.zero_add];exact c2,by rw [Nat.zero_add];exact c3⟩
theorem setFar1 {w:World} {g k:Nat} {o:Obj} (h:w.heap[k]?=some o) (hne:k≠g) (i:Nat) (u:Value):(w.setCell ⟨g,i,none⟩ u).heap[k]?=some o:=(Below.heap_setCell _ _ _ _ (by simpa using hne)).trans h
theorem setFar3 {w:World} {g k:Nat} {o:Obj} (h:w.heap[k]?=some o) (hne:k≠g) (i j m:Nat) (u v x:Value):(((w.setCell ⟨g,i,none⟩ u).setCell ⟨g,j,none⟩ v).setCell ⟨g,m,none⟩ x).heap[k]?=some o:=setFar1 (setFar1 (setFar1 h hne i u) hne j v) hne m x
theorem block_cells {w:World} {B T:Nat} {cs:Array Value} (h:w.heap[B]?=some (.cells cs T (0,0))):(∀ i,w.cell? ⟨B,i,none⟩=cs[i]?)∧(∀ i,w.frozen? ⟨B,i,none⟩=false):=by
 refine⟨fun i=>?_,fun i=>?_⟩
 ·simp [World.cell?,h]
 ·simp [World.frozen?,h]
theorem four_set {w:World} {B T:Nat} {z0 z1 z2 z3:Value} (h:w.heap[B]?=some (.cells #[z0,z1,z2,z3] T (0,0))) (u0 u1 u2 u3:Value) :
  ((((w.setCell ⟨B,0,none⟩ u0).setCell ⟨B,1,none⟩ u1).setCell ⟨B,2,none⟩ u2).setCell ⟨B,3,none⟩ u3).heap[B]?=some (.cells #[u0,u1,u2,u3] T (0,0)):=by
 simp only [World.setCell,Array.getElem?_modify,h];simp
theorem four_below (w:World) (B:Nat) (u0 u1 u2 u3:Value):Below B w ((((w.setCell ⟨B,0,none⟩ u0).setCell ⟨B,1,none⟩ u1).setCell ⟨B,2,none⟩ u2).setCell ⟨B,3,none⟩ u3) :=
 ((((Below.refl B w).setCell (Nat.le_refl _) _).setCell (Nat.le_refl _) _).setCell (Nat.le_refl _) _).setCell (Nat.le_refl _) _
theorem args_far {w:World} {b off g:Nat} {l:List ArgT} (h:ArgsV w (some ⟨b,off,none⟩) l) (hg:g≠b) (i:Nat) (v:Value):ArgsV (w.setCell ⟨g,i,none⟩ v) (some ⟨b,off,none⟩) l :=
 h.setCell (fun b' off' e=>by cases e;exact fun h=>hg h.symm) v
set_option maxRecDepth 100000 in
set_option maxHeartbeats 2000000 in
theorem copyInst_any (x:InstT) (ax:Option Addr) (n cx:Nat) (w:World) (hx:ArgsV w ax x.2.2.2) (hl:x.2.2.2.length=n) (hn:24 * n≤140737488351232) :
  Calls Tryz.prog 35 #[instV x ax n cx] w fun e w'=>∃ g,e=.returned (instV x (some ⟨g,0,none⟩) n n)∧w.heap.size≤g∧ArgsV w' (some ⟨g,0,none⟩) x.2.2.2∧Below w.heap.size w w':=by
 obtain⟨i0,hi,hz0,hz1,hz2⟩:=info_parts CopyInst.info
 obtain⟨xo,xt,xr,xl⟩:=x
 unfold instV
 simp only at *
 have HL:Hid (xl.length=n):=hl
 clear hl
 go_enter Tryz.func35,Tryz.ntmps35
 go_wp2_with (at_make;refine wpList_make_full _ rfl _ _ 61 rfl (w.heap.size+1) 105 i0 (.agg #[.int .u8 0,.int .u32 0,.string ⟨#[]⟩]) 3 Tryz.underlying61 hi hz0 hz1 _ _ _ _ n rfl rfl (by omega) (by omega) (by rw [hz2];omega) (by unfold maxLen;omega) (by simp) ?_)
 intro w1 hown1 hgrow1
 have hb0:Below w.heap.size w ((w.alloc (.cells #[.int .u16 xo,.int .u32 xt,.int .u32 xr,.slice ax n cx] 63)).alloc (.cells #[.int .u16 0,.int .u32 0,.int .u32 0,.slice none 0 0] 63)):=((Below.refl _ w).alloc (Nat.le_refl _) _).alloc (by simp) _
 have hb1:Below (w.heap.size+2) ((w.alloc (.cells #[.int .u16 xo,.int .u32 xt,.int .u32 xr,.slice ax n cx] 63)).alloc (.cells #[.int .u16 0,.int .u32 0,.int .u32 0,.slice none 0 0] 63)) w1:=(Below.refl _ _).grown hgrow1 (by simp) (by simp)
 have hbox:w1.heap[w.heap.size]?=some (.cells #[.int .u16 xo,.int .u32 xt,.int .u32 xr,.slice ax n cx] 63 (0,0)):=(hb1.block w.heap.size (by omega)).trans ((Below.heap_alloc _ _ _ (by simp)).trans (heap_alloc_new w _))
 have hres:w1.heap[w.heap.size+1]?=some (.cells #[.int .u16 0,.int .u32 0,.int .u32 0,.slice none 0 0] 63 (0,0)):=(hb1.block (w.heap.size+1) (by omega)).trans (by simpa using heap_alloc_new (w.alloc (.cells #[.int .u16 xo,.int .u32 xt,.int .u32 xr,.slice ax n cx] 63)) (.cells #[.int .u16 0,.int .u32 0,.int .u32 0,.slice none 0 0] 63))
 have hP1:PartA w1 (w.heap.size+2) n 0 xl:=by
  refine⟨?_,fun j hj=>by omega⟩
  rcases hown1.2 with ⟨h,_⟩ | ⟨g,cap',cur,h1,h2,h3,h4,h5,h6,_⟩
  ·simp at h
  ·simp at h1;obtain⟨rfl,rfl⟩:=h1;exact⟨cur,h3,h6⟩
 have hbw1:Below w.heap.size w w1:=hb0.trans (hb1.mono (by omega))
 clear hown1 hgrow1 hb0 hb1
 go_wp2
 go_loopw [4] (fun i wr=>∃ k:Nat,k≤n∧i=.int .i64 k∧PartA wr (w.heap.size+2) n k xl∧wr.heap[w.heap.size]?=some (.cells #[.int .u16 xo,.int .u32 xt,.int .u32 xr,.slice ax n cx] 63 (0,0))∧wr.heap[w.heap.size+1]?=some (.cells #[.int .u16 0,.int .u32 0,.int .u32 0,.slice none 0 0] 63 (0,0))∧Below w.heap.size w wr) (fun i _=>n - (intOf i).toNat)
 case atStart=>exact⟨0,Nat.zero_le _,rfl,hP1,hbox,hres,hbw1⟩
 case round =>
  obtain⟨k,hk,rfl,hP,hbx,hrs,hnx⟩:=hrel
  clear hP1 hbw1 hbox hres
  have hbc:wr.cell? ⟨w.heap.size,3,none⟩=some (.slice ax n cx):=by simp [World.cell?,hbx]
  have hsz:=hnx.size
  by_cases hlt:k<n
  ·obtain⟨b,off,rfl,hbs,p1,p2,p3⟩:=hx k (by rw [HL.out];exact hlt)
   have q1:=(hnx.cell (p:=⟨b,off+k * 3,none⟩) hbs).trans p1
   have q2:=(hnx.cell (p:=⟨b,off+k * 3+1,none⟩) hbs).trans p2
   have q3:=(hnx.cell (p:=⟨b,off+k * 3+2,none⟩) hbs).trans p3
   obtain⟨cs,hr1,hr2⟩:=hP.row
   obtain⟨⟨u0,d0⟩,f0⟩:=cells_can hr1 (k * 3) (by omega)
   obtain⟨⟨u1,d1⟩,f1⟩:=cells_can hr1 (k * 3+1) (by omega)
   obtain⟨⟨u2,d2⟩,f2⟩:=cells_can hr1 (k * 3+2) (by omega)
   have hki:(k:Int)<(n:Int):=by omega
   have hk0:(0:Int)≤(k:Int):=by omega
   have hP2:=hP.store hlt
   have HX:Hid (wr.heap[w.heap.size]?=some (.cells #[.int .u16 xo,.int .u32 xt,.int .u32 xr,.slice (some ⟨b,off,none⟩) n cx] 63 (0,0))):=hbx
   have HP2:Hid _:=hP2
   have HR:Hid _:=hrs
   clear hP2 hP hr1 hr2 p1 p2 p3 hx hbx hrs
   go_wp2
   go_roundw
   case rel=>exact⟨k+1,by omega,by go_num,HP2.out,setFar3 HX.out (by omega) _ _ _ _ _ _,setFar3 HR.out (by omega) _ _ _ _ _ _,((hnx.setCell (by show w.heap.size≤w.heap.size+1+1;omega) _).setCell (by show w.heap.size≤w.heap.size+1+1;omega) _).setCell (by show w.heap.size≤w.heap.size+1+1;omega) _⟩
   case measure=>simp [intOf];omega
  ·obtain rfl:k=n:=by omega
   obtain⟨hc,hf⟩:=block_cells hbx
   obtain⟨hc',hf'⟩:=block_cells hrs
   have c0:=hc 0
   have c1:=hc 1
   have c2:=hc 2
   have r0:=hc' 0
   have r1:=hc' 1
   have r2:=hc' 2
   have r3:=hc' 3
   have hV:=hP.view HL.out
   have HV:Hid _:=hV
   have HB:Hid _:=hnx
   have HX:Hid _:=hbx
   have HR:Hid _:=hrs
   clear hP hbx hrs hc hc' hx hV hnx
   go_wp2
   have hB4:=four_set (setFar1 HR.out (show w.heap.size+1≠w.heap.size by omega) 3 (.slice (some ⟨w.heap.size+1+1,0,none⟩) k k)) (.int .u16 xo) (.int .u32 xt) (.int .u32 xr) (.slice (some ⟨w.heap.size+1+1,0,none⟩) k k)
   have hBel:=(HB.out.setCell (p:=⟨w.heap.size,3,none⟩) (Nat.le_refl _) (.slice (some ⟨w.heap.size+1+1,0,none⟩) k k)).trans ((four_below (wr.setCell ⟨w.heap.size,3,none⟩ (.slice (some ⟨w.heap.size+1+1,0,none⟩) k k)) (w.heap.size+1) (.int .u16 xo) (.int .u32 xt) (.int .u32 xr) (.slice (some ⟨w.heap.size+1+1,0,none⟩) k k)).mono (show w.heap.size≤w.heap.size+1 by omega))
   have hV2:=args_far HV.out (show w.heap.size≠w.heap.size+2 by omega) 3 (.slice (some ⟨w.heap.size+1+1,0,none⟩) k k)
   have hV3:=args_far (args_far (args_far (args_far hV2 (show w.heap.size+1≠w.heap.size+2 by omega) 0 (.int .u16 xo)) (show w.heap.size+1≠w.heap.size+2 by omega) 1 (.int .u32 xt)) (show w.heap.size+1≠w.heap.size+2 by omega) 2 (.int .u32 xr)) (show w.heap.size+1≠w.heap.size+2 by omega) 3 (.slice (some ⟨w.heap.size+1+1,0,none⟩) k k)
   clear hV2 HV HB HR HX c0 c1 c2 r0 r1 r2 r3 hf hf'
   generalize ((((wr.setCell _ _).setCell _ _).setCell _ _).setCell _ _).setCell _ _=W at hB4 hBel hV3 ⊢
   obtain⟨hd,_⟩:=block_cells hB4
   have d0:=hd 0
   have d1:=hd 1
   have d2:=hd 2
   have d3:=hd 3
   refine bodyPost_ret (v:=.agg #[.int .u16 xo,.int .u32 xt,.int .u32 xr,.slice (some ⟨w.heap.size+1+1,0,none⟩) k k]) ?_ rfl ⟨w.heap.size+1+1,rfl,by omega,hV3,hBel⟩
   simp [results,Tryz.results35,go_sem,d0,d1,d2,d3]
end Go.Proofs.YtlcaedibmlidlaaGreat
