/-
  Texts in one: GraphWalk0, GraphCome, GraphView, SlicesReverseI, GraphWalk, GraphMade, GraphCalls, GraphAsks.
-/
import Derived.Test.YtlcaedibmlidlaaGreatB02
import Derived.Deep.DrawnRows
import Derived.Deep.RegionLaw
import Derived.Laws.EntriesVeiled
import Derived.Shelf.Slices.Reverse
import Derived.BigGuard
import Derived.Laws.CopyOwn
namespace Go.Proofs.YtlcaedibmlidlaaGreat
open Go.RowKit
set_option linter.unusedVariables false
set_option linter.unusedSimpArgs false
set_option maxRecDepth 10000
def gC (nv av:Value) (m:Nat→Nat) (cv ov:Value):List Value:=nv :: av :: (arr64 m++[cv,ov])
theorem gC_m (nv av:Value) (m:Nat→Nat) (cv ov:Value) (k:Nat) (h:k<64):(gC nv av m cv ov)[2+k]?=some (.int .u64 (m k:Int)):=by
 have e:(gC nv av m cv ov)[2+k]?=(arr64 m++[cv,ov])[k]?:=by rw [Nat.add_comm];rfl
 rw [e,List.getElem?_append_left (by rw [arr64_len];exact h),arr64_get m k h]
theorem gC_c (nv av:Value) (m:Nat→Nat) (cv ov:Value):(gC nv av m cv ov)[66]?=some cv:=by
 have e:(gC nv av m cv ov)[66]?=(arr64 m++[cv,ov])[64]?:=rfl
 rw [e,List.getElem?_append_right (by rw [arr64_len];omega),arr64_len];rfl
theorem gC_o (nv av:Value) (m:Nat→Nat) (cv ov:Value):(gC nv av m cv ov)[67]?=some ov:=by
 have e:(gC nv av m cv ov)[67]?=(arr64 m++[cv,ov])[65]?:=rfl
 rw [e,List.getElem?_append_right (by rw [arr64_len];omega),arr64_len];rfl
theorem gC_setM (nv av:Value) (m:Nat→Nat) (cv ov:Value) (i:Nat) (h:i<4096):(gC nv av m cv ov).set (2+i / 64) (.int .u64 (setM m i (i / 64):Int))=gC nv av (setM m i) cv ov:=by
 have e:(gC nv av m cv ov).set (2+i / 64) (.int .u64 (setM m i (i / 64):Int))=nv :: av :: ((arr64 m++[cv,ov]).set (i / 64) (.int .u64 (setM m i (i / 64):Int))):=by rw [Nat.add_comm];rfl
 rw [e,List.set_append_left _ _ (by rw [arr64_len];omega),arr64_set m i h];rfl
theorem gC_setC (nv av:Value) (m:Nat→Nat) (cv ov v:Value):(gC nv av m cv ov).set 66 v=gC nv av m v ov:=by
 have e:(gC nv av m cv ov).set 66 v=nv :: av :: ((arr64 m++[cv,ov]).set 64 v):=rfl
 rw [e,List.set_append_right _ _ (by rw [arr64_len];omega),arr64_len];rfl
theorem gC_setO (nv av:Value) (m:Nat→Nat) (cv ov v:Value):(gC nv av m cv ov).set 67 v=gC nv av m cv v:=by
 have e:(gC nv av m cv ov).set 67 v=nv :: av :: ((arr64 m++[cv,ov]).set 65 v):=rfl
 rw [e,List.set_append_right _ _ (by rw [arr64_len];omega),arr64_len];rfl
theorem gC_setA (nv av:Value) (m:Nat→Nat) (cv ov v:Value):(gC nv av m cv ov).set 1 v=gC nv v m cv ov:=rfl
def GrB (w:World) (p:Nat) (nv av:Value) (m:Nat→Nat) (cv ov:Value):Prop:=w.heap[p]?=some (.cells (gC nv av m cv ov).toArray 101 (0,0))∧∀ k,m k<18446744073709551616
theorem GrB.cell {w:World} {p:Nat} {nv av:Value} {m:Nat→Nat} {cv ov:Value} (h:GrB w p nv av m cv ov) (k:Nat):w.cell? ⟨p,k,none⟩=(gC nv av m cv ov)[k]?:=by simp [World.cell?,h.1]
theorem GrB.frozen {w:World} {p:Nat} {nv av:Value} {m:Nat→Nat} {cv ov:Value} (h:GrB w p nv av m cv ov) (k:Nat):w.frozen? ⟨p,k,none⟩=false:=by simp [World.frozen?,h.1]
theorem GrB.lt {w:World} {p:Nat} {nv av:Value} {m:Nat→Nat} {cv ov:Value} (h:GrB w p nv av m cv ov):p<w.heap.size:=(Array.getElem?_eq_some_iff.1 h.1).1
theorem GrB.mkAt {w:World} {p:Nat} {nv av:Value} {m:Nat→Nat} {cv ov:Value} (h:GrB w p nv av m cv ov):MkAt w p 2 m:=fun k hk=>⟨by rw [h.cell,gC_m _ _ _ _ _ k hk],h.frozen _,h.2 k⟩
theorem GrB.other {w w':World} {p:Nat} {nv av:Value} {m:Nat→Nat} {cv ov:Value} (h:GrB w p nv av m cv ov) (he:w'.heap[p]?=w.heap[p]?):GrB w' p nv av m cv ov:=⟨he.trans h.1,h.2⟩
theorem GrB.below {w w':World} {p:Nat} {nv av:Value} {m:Nat→Nat} {cv ov:Value} (h:GrB w p nv av m cv ov) (hb:Below w.heap.size w w'):GrB w' p nv av m cv ov:=h.other (hb.block p h.lt)
theorem GrB.set {w:World} {p:Nat} {nv av:Value} {m:Nat→Nat} {cv ov:Value} (h:GrB w p nv av m cv ov) (k:Nat) (v:Value):(w.setCell ⟨p,k,none⟩ v).heap[p]?=some (.cells ((gC nv av m cv ov).set k v).toArray 101 (0,0)):=by
 simp only [World.setCell,Array.getElem?_modify]
 rw [if_pos trivial,h.1]
 simp
theorem GrB.setM {w:World} {p:Nat} {nv av:Value} {m:Nat→Nat} {cv ov:Value} (h:GrB w p nv av m cv ov) {i:Nat} (hi:i<4096) (d:Nat):GrB ((w.setCell ⟨p,2+i / 64,none⟩ (.int .u64 (setM m i (i / 64):Int))).drewN d) p nv av (Go.Proofs.YtlcaedibmlidlaaGreat.setM m i) cv ov:=by
 refine⟨?_,fun k=>setM_lt m i k (h.2 k)⟩
 have:=h.set (2+i / 64) (.int .u64 (Go.Proofs.YtlcaedibmlidlaaGreat.setM m i (i / 64):Int))
 rw [gC_setM _ _ _ _ _ i hi] at this
 exact this
structure WkS (W0 : World) (p : Nat) (nv av : Value) (w : World) (m : Nat → Nat) (cv ov : Value) (mc c l : List Int) : Prop where
  blk : GrB w p nv av m cv ov
  marked : Marked m mc
  came : w.ownsRow W0.heap.size 3 1 cv c.length (c.map (Value.int .i64))
  left : w.ownsRow W0.heap.size 3 1 ov l.length (l.map (Value.int .i64))
  apart : ∀ g, cv.ownBlock = some g → ov.ownBlock ≠ some g
  grown : W0.grownBy w (some p)
  plt : p < W0.heap.size
theorem WkS.mark {W0:World} {p:Nat} {nv av:Value} {w:World} {m:Nat→Nat} {cv ov:Value} {mc c l:List Int} (h:WkS W0 p nv av w m cv ov mc c l) {i:Nat} (hi:i<4096) (d:Nat) {w3:World} (hd:w3=(w.setCell ⟨p,2+i / 64,none⟩ (.int .u64 (setM m i (i / 64):Int))).drewN d):WkS W0 p nv av w3 (setM m i) cv ov (mc++[(i:Int)]) c l:=by
 have hg:w.grownBy w3 (some p):=by
  rw [hd]
  have:=grown_setCell w p (2+i / 64) (.int .u64 (setM m i (i / 64):Int))
  exact⟨this.os,this.tape,this.output,this.size,this.block⟩
 have hp:=h.plt
 refine⟨by rw [hd];exact h.blk.setM hi d,h.marked.add i,own_grown h.came hg (fun g e e2=>by have:=(World.ownsRow.lt h.came g e2).1;cases e;omega),own_grown h.left hg (fun g e e2=>by have:=(World.ownsRow.lt h.left g e2).1;cases e;omega),h.apart,h.grown.trans hg,hp⟩
theorem WkS.below {W0:World} {p:Nat} {nv av:Value} {w w':World} {m:Nat→Nat} {cv ov:Value} {mc c l:List Int} (h:WkS W0 p nv av w m cv ov mc c l) (hb:Below w.heap.size w w'):WkS W0 p nv av w' m cv ov mc c l :=
 ⟨h.blk.below hb,h.marked,own_below h.came hb,own_below h.left hb,h.apart,h.grown.trans ⟨hb.os,hb.tape,hb.output,hb.size,fun k hk _=>hb.block k hk⟩,h.plt⟩
theorem WkS.pushC {W0:World} {p:Nat} {nv av:Value} {w w5:World} {m:Nat→Nat} {cv ov:Value} {mc c l:List Int} (h:WkS W0 p nv av w m cv ov mc c l) (i:Int) {g cap k:Nat} (hg:w.grownBy w5 cv.ownBlock) (hat:cv.ownBlock=some g∨g=w.heap.size) (ho:w5.ownsRow W0.heap.size 3 1 (.slice (some ⟨g,0,none⟩) k cap) (c++[i]).length ((c++[i]).map (Value.int .i64))):WkS W0 p nv av (w5.setCell ⟨p,66,none⟩ (.slice (some ⟨g,0,none⟩) k cap)) m (.slice (some ⟨g,0,none⟩) k cap) ov mc (c++[i]) l:=by
 have hp:=h.plt
 have hne:∀ j,cv.ownBlock=some j→W0.heap.size≤j:=fun j e=>(World.ownsRow.lt h.came j e).1
 have hb5:GrB w5 p nv av m cv ov:=h.blk.other (hg.block p h.blk.lt (fun e=>by have:=hne p e.symm;omega))
 have hs:=hb5.set 66 (.slice (some ⟨g,0,none⟩) k cap)
 rw [gC_setC] at hs
 have hl5:=own_grown h.left hg (fun j e=>h.apart j e)
 refine⟨⟨hs,h.blk.2⟩,h.marked,ownsRow_setCell_below ho (by simp;exact hp) _,ownsRow_setCell_below hl5 (by simp;exact hp) _,fun j e e2=>?_,?_,hp⟩
 ·cases e
  rcases hat with h1 | h1
  ·exact h.apart g h1 e2
  ·have:=(World.ownsRow.lt h.left g e2).2;omega
 ·exact (h.grown.andThen hg (fun j e=>.inl (hne j e))).trans (grown_setCell w5 p 66 _)
theorem WkS.pushL {W0:World} {p:Nat} {nv av:Value} {w w5:World} {m:Nat→Nat} {cv ov:Value} {mc c l:List Int} (h:WkS W0 p nv av w m cv ov mc c l) (i:Int) {g cap k:Nat} (hg:w.grownBy w5 ov.ownBlock) (hat:ov.ownBlock=some g∨g=w.heap.size) (ho:w5.ownsRow W0.heap.size 3 1 (.slice (some ⟨g,0,none⟩) k cap) (l++[i]).length ((l++[i]).map (Value.int .i64))):WkS W0 p nv av (w5.setCell ⟨p,67,none⟩ (.slice (some ⟨g,0,none⟩) k cap)) m cv (.slice (some ⟨g,0,none⟩) k cap) mc c (l++[i]):=by
 have hp:=h.plt
 have hne:∀ j,ov.ownBlock=some j→W0.heap.size≤j:=fun j e=>(World.ownsRow.lt h.left j e).1
 have hb5:GrB w5 p nv av m cv ov:=h.blk.other (hg.block p h.blk.lt (fun e=>by have:=hne p e.symm;omega))
 have hs:=hb5.set 67 (.slice (some ⟨g,0,none⟩) k cap)
 rw [gC_setO] at hs
 have hl5:=own_grown h.came hg (fun j e e2=>h.apart j e2 e)
 refine⟨⟨hs,h.blk.2⟩,h.marked,ownsRow_setCell_below hl5 (by simp;exact hp) _,ownsRow_setCell_below ho (by simp;exact hp) _,fun j e e2=>?_,?_,hp⟩
 ·cases e2
  rcases hat with h1 | h1
  ·exact h.apart g e h1
  ·have:=(World.ownsRow.lt h.came g e).2;omega
 ·exact (h.grown.andThen hg (fun j e=>.inl (hne j e))).trans (grown_setCell w5 p 67 _)
theorem WkS.old {W0:World} {p k:Nat} {nv av:Value} {w:World} {m:Nat→Nat} {cv ov:Value} {mc c l:List Int} {o:Obj} (h:WkS W0 p nv av w m cv ov mc c l) (hk:W0.heap[k]?=some o) (hne:k≠p):w.heap[k]?=some o :=
 (h.grown.block k (Array.getElem?_eq_some_iff.1 hk).1 (fun e=>hne (Option.some.inj e))).trans hk
theorem dfsK_seg (N:List (List Int)) (n:Nat) (hE:Edges n N) (f:Nat) (i:Int) (s:WalkS) (hg:GoodC n s.1) (hi:i ∉ s.1) (h0:0≤i) (h1:i<n) (hl:n - s.1.length≤f+1) (hls:s.2.length≤s.1.length) (k:Nat):GoodC n (dfsK N f i s k).1∧n - (dfsK N f i s k).1.length≤f∧(dfsK N f i s k).2.length≤(dfsK N f i s k).1.length:=by
 obtain⟨e,d,hs,_,_⟩:=(walk_all N n hE f).1 ((rowN N i.toNat).take k) (s.1++[i],s.2) (hg.snoc hi h0 h1) (fun x hx=>hE _ x (List.mem_of_mem_take hx)) (by simp;omega)
 have hc:(dfsK N f i s k).1=(s.1++[i])++e:=hs.came
 have hd:(dfsK N f i s k).2=s.2++d:=hs.left
 have hp:=hs.perm.length_eq
 refine⟨hs.good,?_,?_⟩
 ·rw [hc];simp;omega
 ·rw [hc,hd];simp;omega
theorem frame53 (t:Array Value) (h:t.size=53):t=#[slot t 0,slot t 1,slot t 2,slot t 3,slot t 4,slot t 5,slot t 6,slot t 7,slot t 8,slot t 9,slot t 10,slot t 11,slot t 12,slot t 13,slot t 14,slot t 15,slot t 16,slot t 17,slot t 18,slot t 19,slot t 20,slot t 21,slot t 22,slot t 23,slot t 24,slot t 25,slot t 26,slot t 27,slot t 28,slot t 29,slot t 30,slot t 31,slot t 32,slot t 33,slot t 34,slot t 35,slot t 36,slot t 37,slot t 38,slot t 39,slot t 40,slot t 41,slot t 42,slot t 43,slot t 44,slot t 45,slot t 46,slot t 47,slot t 48,slot t 49,slot t 50,slot t 51,slot t 52]:=(frame_eq t 53 h).trans rfl
structure WkC (W0 : World) (p GB CB lo n : Nat) (nv : Value) (N : List (List Int)) : Prop where
  typ : ∃ cs fr, W0.heap[p]? = some (.cells cs 101 fr)
  gb : W0.heap[GB]? = some (.cells #[.pointer (some ⟨p, 0, none⟩)] 42 (0, 0))
  cb : W0.heap[CB]? = some (.cells #[.func (.func 142) #[] #[.pointer (some ⟨GB, 0, none⟩), .pointer (some ⟨CB, 0, none⟩)]] 198 (0, 0))
  ngb : GB ≠ p
  ncb : CB ≠ p
  next : OwnL W0 lo nv N
  len : N.length = n
  few : n ≤ 4096
  edges : Edges n N
  rows : ∀ j, (rowN N j).length ≤ 4096
theorem WkC.row {W0:World} {p GB CB lo n:Nat} {nv av:Value} {N:List (List Int)} (hC:WkC W0 p GB CB lo n nv N) {x:Nat} (hx:x<N.length):∃ h c aj cj,nv=.slice (some ⟨h,0,none⟩) N.length c∧∀ (w:World) (m:Nat→Nat) (cv ov:Value) (mc c l:List Int),WkS W0 p nv av w m cv ov mc c l→w.cell? ⟨h,x,none⟩=some (.slice aj (rowN N x).length cj)∧View .i64 w aj (rowN N x)∧w.cell? ⟨p,0,none⟩=some nv:=by
 obtain⟨V,hV⟩:=hC.next
 obtain⟨h,c,aj,cj,e1,e2,_,_,_⟩:=rowsL_read hV hx
 refine⟨h,c,aj,cj,e1,fun w m cv ov mc c' l hS=>?_⟩
 have hV':=rowsL_same (w':=w) hV (fun g cs T fr _ hTT hg=>by
  refine (hS.grown.block g (Array.getElem?_eq_some_iff.1 hg).1 (fun e=>?_)).trans hg
  cases e
  obtain⟨cs',fr',h'⟩:=hC.typ
  rw [h'] at hg
  cases hg
  rcases hTT with e | e <;> exact absurd e (by decide))
 obtain⟨h',c2,aj',cj',e1',e2',e3',e4',_⟩:=rowsL_read hV' hx
 rw [e1] at e1'
 rw [e2] at e2'
 cases e1'
 cases e2'
 rw [e2] at e3'
 exact⟨e3',e4',by rw [hS.blk.cell];rfl⟩
set_option maxHeartbeats 8000000 in
theorem come_tail (W0:World) (p GB CB lo n:Nat) (nv av:Value) (N:List (List Int)) (hC:WkC W0 p GB CB lo n nv N) (f:Nat) (ih:∀ (i:Int) (s:WalkS) (w:World) (m:Nat→Nat) (cv ov:Value),GoodC n s.1→i ∉ s.1→0≤i→i<n→n - s.1.length≤f→s.2.length≤s.1.length→WkS W0 p nv av w m cv ov s.1 s.1 s.2 →
  Calls Tryz.prog 142 #[.int .i64 i,.pointer (some ⟨GB,0,none⟩),.pointer (some ⟨CB,0,none⟩)] w fun e w'=>e=.returned (.tuple #[])∧∃ m' cv' ov',WkS W0 p nv av w' m' cv' ov' (dfs N f i s).1 (dfs N f i s).1 (dfs N f i s).2)
  (x:Nat) (s:WalkS) (hg:GoodC n s.1) (hi:(x:Int) ∉ s.1) (hxn:x<n) (hl:n - s.1.length≤f+1) (hls:s.2.length≤s.1.length) (m:Nat→Nat) (ov:Value)
  (t:Array Value) (W:World) (cv':Value) (ht:t.size=53) (t0:slot t 0=.int .i64 (x:Int)) (t1:slot t 1=.pointer (some ⟨GB,0,none⟩)) (t2:slot t 2=.pointer (some ⟨CB,0,none⟩)) (hS:WkS W0 p nv av W (setM m x) cv' ov (s.1++[(x:Int)]) (s.1++[(x:Int)]) s.2) :
  (dropR 2 (Tryz.f142.body.getD .skip)).wp Tryz.prog (bodyPost Tryz.prog Tryz.f142 fun e w'=>e=.returned (.tuple #[])∧∃ m' cv' ov',WkS W0 p nv av w' m' cv' ov' (dfs N (f+1) (x:Int) s).1 (dfs N (f+1) (x:Int) s).1 (dfs N (f+1) (x:Int) s).2) { tmps:=t,defers:=[] } W:=by
 obtain⟨i0,hi0,hz0,hz1,hz2⟩:=info_parts GrInts.info
 have HK:=hide (fun k=>dfsK_seg N n hC.edges f (x:Int) s hg hi (by omega) (by omega) hl hls k)
 have HD:=hide (dfs_succ N f (x:Int) s)
 have HKS:=hide (dfsK_succ N f (x:Int) s)
 have HK0:=hide (dfsK_zero N f (x:Int) s)
 generalize dfs N (f+1) (x:Int) s=RES at *
 have HC:=hide hC
 have HIH:=hide ih
 clear hC ih hg hi hl hls
 rw [frame53 t ht,t0,t1,t2]
 clear ht t0 t1 t2
 generalize slot t=sl
 have hxN:x<N.length:=by rw [HC.out.len];exact hxn
 obtain⟨h,cn,aj,cj,hnv,hrd⟩:=HC.out.row (av:=av) hxN
 obtain⟨hcr,hvj,c0⟩:=hrd _ _ _ _ _ _ _ hS
 have HRD:=hide hrd
 rw [hnv] at c0
 have gbc:=(oneCell (hS.old HC.out.gb HC.out.ngb)).1
 have hxi:(x:Int)<(N.length:Int):=by omega
 have hrow:rowN N (x:Int).toNat=rowN N x:=by simp
 have HNJ:=hide (HC.out.rows x)
 rw [hrow] at HD HKS
 generalize hnj:(rowN N x).length=nj at *
 have HNL:=hide hnj
 have HS0:Hid (WkS W0 p nv av W (setM m x) cv' ov (dfsK N f (x:Int) s 0).1 (dfsK N f (x:Int) s 0).1 (dfsK N f (x:Int) s 0).2):=by show WkS _ _ _ _ _ _ _ _ _ _ _;rw [HK0.out];exact hS
 have HNV:=hide hnv
 clear hS hvj hrd hnv hnj
 have HED:Hid (∀ q,q<nj→0≤nth (rowN N x) q∧nth (rowN N x) q<n):=fun q hq=>HC.out.edges x _ (by
  have hq':q<(rowN N x).length:=by rw [HNL.out];exact hq
  have:nth (rowN N x) q=(rowN N x)[q]:=by simp [nth,List.getD,hq']
  rw [this];exact List.getElem_mem hq')
 have HHS:=hide (fun m' (yn:Nat) wx (hb:MkAt wx p 2 m') (hy:yn<4096)=>marksHas_any p 2 m' yn wx hb hy)
 have hnji:(nj:Int)≤4096:=by have:=HNJ.out;omega
 conv=>arg 2;whnf
 go_wp2_with fail
 go_loopw [29] (fun i wr=>∃ (q:Nat) (m':Nat→Nat) (cv' ov':Value),q≤nj∧i=.int .i64 q∧WkS W0 p nv av wr m' cv' ov' (dfsK N f (x:Int) s q).1 (dfsK N f (x:Int) s q).1 (dfsK N f (x:Int) s q).2) (fun i _=>nj - (intOf i).toNat)
 case atStart=>exact⟨0,_,_,_,Nat.zero_le _,rfl,HS0.out⟩
 case round =>
  obtain⟨q,m1,cv1,ov1,hq,rfl,hS⟩:=hrel
  by_cases hlt:q<nj
  ·obtain⟨_,hv1,_⟩:=HRD.out _ _ _ _ _ _ _ hS
   obtain⟨b2,o2,rfl,hb2,hcq⟩:=hv1 q (by rw [HNL.out];exact hlt)
   have hy:=HED.out q hlt
   obtain⟨yn,hye⟩:=Int.eq_ofNat_of_zero_le hy.1
   have HST:=hide (HKS.out q hlt)
   rw [hye] at hcq hy HST
   have hyn:yn<n:=by omega
   have hy4:yn<4096:=by have:=HC.out.few;omega
   have gb1:=(oneCell (hS.old HC.out.gb HC.out.ngb)).1
   have cb1:=(oneCell (hS.old HC.out.cb HC.out.ncb)).1
   have hhas:=HHS.out m1 yn _ hS.blk.mkAt hy4
   have hmk:=hS.marked yn hy4
   have hqi:(q:Int)<(nj:Int):=by omega
   have HLT:=hide hlt
   have HSS:=hide hS
   have hG:=HK.out q
   clear HS0 hS hv1 hb2 hye hlt hq c0 gbc hcr
   generalize dfsK N f (x:Int) s q=tq at *
   generalize hqq:hasM m1 yn=r at *
   cases r with
   | true =>
    have HIN:Hid (dfsK N f (x:Int) s (q+1)=tq):=by
     show _=_
     rw [HST.out];unfold stepD
     exact if_pos (of_decide_eq_true hmk.symm)
    clear hmk hqq HST hG
    go_wp2_with fail
    refine hhas.mono ?_
    rintro e w5 ⟨rfl,rfl⟩
    clear hhas
    go_wp2_with fail
    exact⟨⟨q+1,m1,cv1,ov1,HLT.out,by simp,by rw [HIN.out];exact HSS.out⟩,measZ2 HLT.out⟩
   | false =>
    have hnot:¬ (yn:Int)∈tq.1:=of_decide_eq_false hmk.symm
    have HIN:Hid (dfsK N f (x:Int) s (q+1)=dfs N f (yn:Int) tq):=by
     show _=_
     rw [HST.out];unfold stepD
     exact if_neg hnot
    have hrec:=HIH.out (yn:Int) tq _ m1 cv1 ov1 hG.1 hnot (by omega) (by omega) hG.2.1 hG.2.2 HSS.out
    have HREC:=hide hrec
    clear hmk hqq HST hG hnot hrec
    go_wp2_with fail
    refine hhas.mono ?_
    rintro e w5 ⟨rfl,rfl⟩
    clear hhas
    go_wp2_with fail
    refine HREC.out.mono ?_
    rintro e w6 ⟨rfl,m6,cv6,ov6,hS6⟩
    have HS6:=hide hS6
    clear HREC HSS hS6
    go_wp2_with fail
    exact⟨⟨q+1,m6,cv6,ov6,HLT.out,by simp,by rw [HIN.out];exact HS6.out⟩,measZ2 HLT.out⟩
  ·have e:nj=q:=by omega
   subst e
   have hG:=HK.out nj
   have HDD:Hid (RES=((dfsK N f (x:Int) s nj).1,(dfsK N f (x:Int) s nj).2++[(x:Int)])):=HD.out
   generalize dfsK N f (x:Int) s nj=tq at *
   rename World=>wl
   have hbA:Below wl.heap.size wl (wl.alloc (.cells #[.int .i64 (x:Int)] 3)).drew:=((Below.refl _ _).alloc (Nat.le_refl _) _).drew
   have hSA:=hS.below hbA
   have gbc:=(oneCell (hS.old HC.out.gb HC.out.ngb)).1
   have gbl:GB<wl.heap.size:=(Array.getElem?_eq_some_iff.1 (hS.old HC.out.gb HC.out.ngb)).1
   have pl:=hS.blk.lt
   have c67:wl.cell? ⟨p,67,none⟩=some ov1:=by rw [hS.blk.cell,gC_o]
   obtain⟨a7,c7,rfl⟩:=own_shapeG hS.left
   have f67:wl.frozen? ⟨p,67,none⟩=false:=hS.blk.frozen _
   have hob:∀ j,Value.ownBlock (.slice a7 tq.2.length c7)=some j→W0.heap.size≤j:=fun j e=>(World.ownsRow.lt hS.left j e).1
   have pW:=hS.plt
   have wW:W0.heap.size≤wl.heap.size:=hS.grown.size
   have sln:tq.2.length≤4096:=by have:=hG.1.len;have:=hG.2.2;have:=HC.out.few;omega
   have gW:GB<W0.heap.size:=(Array.getElem?_eq_some_iff.1 HC.out.gb).1
   have HSA:=hide hSA
   clear hS hSA hbA HS0 hG hq c0 hcr HRD HHS HED HIH HKS HK HD
   go_wp2_with fail
   go_region_law ((refine step_append_lies _ (by rfl) _ _ _ (by rfl) W0.heap.size 3 i0 (.int .i64 0) 1 8 Tryz.underlying26 hi0 hz0 hz1 hz2 rfl (by omega) (.slice a7 tq.2.length c7) tq.2.length _ (by rfl) HSA.out.left ⟨wl.heap.size,0,none⟩ 1 1 [.int .i64 (x:Int)] (by rfl) (by rfl) (World.news_of_block (cs:=#[.int .i64 (x:Int)]) (t:=3) (fr:=(0,0)) (heap_alloc_new wl _)) (by simp [Value.oneCell']) (by omega) (by unfold maxLen;omega) (by omega) (by simp;omega) (wl.heap.size+1) (by simp) ?_;intro g2 cap2 w1 hown1 hgrow1 hat1 hlt1';have hb1:=HSA.out.blk.other (hgrow1.block p HSA.out.blk.lt (fun e=>by have:=hob p e.symm;omega));have d67:w1.cell? ⟨p,67,none⟩=some (.slice a7 tq.2.length c7):=(by rw [hb1.cell,gC_o]);have e67:w1.frozen? ⟨p,67,none⟩=false:=hb1.frozen _;have gb1:=(oneCell ((hgrow1.block GB (Array.getElem?_eq_some_iff.1 (HSA.out.old HC.out.gb HC.out.ngb)).1 (fun e=>by have:=hob GB e.symm;omega)).trans (HSA.out.old HC.out.gb HC.out.ngb))).1))
   all_goals
    go_end0
    rw [HDD.out]
    exact⟨rfl,_,_,_,HSA.out.pushL (x:Int) hgrow1 (by simpa using hat1) (by simpa using hown1)⟩
set_option maxHeartbeats 8000000 in
theorem come_any (W0:World) (p GB CB lo n:Nat) (nv av:Value) (N:List (List Int)) (hC:WkC W0 p GB CB lo n nv N):∀ (f:Nat) (i:Int) (s:WalkS) (w:World) (m:Nat→Nat) (cv ov:Value),GoodC n s.1→i ∉ s.1→0≤i→i<n→n - s.1.length≤f→s.2.length≤s.1.length→WkS W0 p nv av w m cv ov s.1 s.1 s.2 →
  Calls Tryz.prog 142 #[.int .i64 i,.pointer (some ⟨GB,0,none⟩),.pointer (some ⟨CB,0,none⟩)] w fun e w'=>e=.returned (.tuple #[])∧∃ m' cv' ov',WkS W0 p nv av w' m' cv' ov' (dfs N f i s).1 (dfs N f i s).1 (dfs N f i s).2:=by
 intro f
 induction f with
 | zero =>
  intro i s w m cv ov hg hi h0 h1 hl _ _
  have:=(hg.snoc hi h0 h1).len
  simp at this;omega
 | succ f ih =>
  intro i s w m cv ov hg hi h0 h1 hl hls hS
  obtain⟨i0,hi0,hz0,hz1,hz2⟩:=info_parts GrInts.info
  have hgl:=hg.len
  obtain⟨x,rfl⟩:=Int.eq_ofNat_of_zero_le h0
  have hxn:x<n:=by omega
  have hx4:x<4096:=by have:=hC.few;omega
  have hset:=marksSet_any p 2 m x w hS.blk.mkAt hx4
  have gbc:=(oneCell (hS.old hC.gb hC.ngb)).1
  have HC:=hide hC
  have HS:=hide hS
  have HLEN:Hid (s.1.length≤4096∧s.2.length≤4096):=by show _∧_;have:=hC.few;omega
  have HT:=hide (come_tail W0 p GB CB lo n nv av N hC f ih x s hg hi hxn hl hls m ov)
  generalize dfs N (f+1) (x:Int) s=RES at *
  clear hC hS ih hg hi h0 h1 hl hls hgl
  go_enter Tryz.func142,Tryz.ntmps142
  go_wp2_with fail
  refine hset.mono ?_
  rintro e w3 ⟨rfl,d,hd⟩
  have hS3:=HS.out.mark hx4 d hd
  clear hset hd gbc HS
  have hbA:Below w3.heap.size w3 (w3.alloc (.cells #[.int .i64 (x:Int)] 3)).drew:=((Below.refl _ _).alloc (Nat.le_refl _) _).drew
  have hSA:=hS3.below hbA
  have gbc:=(oneCell (hS3.old HC.out.gb HC.out.ngb)).1
  have gbl:GB<w3.heap.size:=(Array.getElem?_eq_some_iff.1 (hS3.old HC.out.gb HC.out.ngb)).1
  have pl:=hS3.blk.lt
  have c66:w3.cell? ⟨p,66,none⟩=some cv:=by rw [hS3.blk.cell,gC_c]
  obtain⟨a4,c4,rfl⟩:=own_shapeG hS3.came
  have f66:w3.frozen? ⟨p,66,none⟩=false:=hS3.blk.frozen _
  have HSA:=hide hSA
  have HS3:=hide hS3
  have HBA:=hide hbA
  clear hSA hS3 hbA
  have hob:∀ j,Value.ownBlock (.slice a4 s.1.length c4)=some j→W0.heap.size≤j:=fun j e=>(World.ownsRow.lt HS3.out.came j e).1
  have pW:=HS3.out.plt
  have wW:W0.heap.size≤w3.heap.size:=HS3.out.grown.size
  have sln:=HLEN.out.1
  have gW:GB<W0.heap.size:=(Array.getElem?_eq_some_iff.1 HC.out.gb).1
  go_wp2_with fail
  rename_i K hK
  go_region_law ((refine step_append_lies _ (by rfl) _ _ _ (by rfl) W0.heap.size 3 i0 (.int .i64 0) 1 8 Tryz.underlying26 hi0 hz0 hz1 hz2 rfl (by omega) (.slice a4 s.1.length c4) s.1.length _ (by rfl) HSA.out.came ⟨w3.heap.size,0,none⟩ 1 1 [.int .i64 (x:Int)] (by rfl) (by rfl) (World.news_of_block (cs:=#[.int .i64 (x:Int)]) (t:=3) (fr:=(0,0)) (heap_alloc_new w3 _)) (by simp [Value.oneCell']) (by omega) (by unfold maxLen;omega) (by omega) (by simp;omega) (w3.heap.size+1) (by simp) ?_;intro g2 cap2 w1 hown1 hgrow1 hat1 hlt1';have hb1:=HSA.out.blk.other (hgrow1.block p HSA.out.blk.lt (fun e=>by have:=hob p e.symm;omega));have d66:w1.cell? ⟨p,66,none⟩=some (.slice a4 s.1.length c4):=(by rw [hb1.cell,gC_c]);have e66:w1.frozen? ⟨p,66,none⟩=false:=hb1.frozen _;have gb1:=(oneCell ((hgrow1.block GB (Array.getElem?_eq_some_iff.1 (HSA.out.old HC.out.gb HC.out.ngb)).1 (fun e=>by have:=hob GB e.symm;omega)).trans (HSA.out.old HC.out.gb HC.out.ngb))).1))
  all_goals
   refine hK _ _ (HT.out _ _ (.slice (some ⟨g2,0,none⟩) (s.1.length+1) cap2) rfl rfl rfl rfl ?_)
   exact HSA.out.pushC (x:Int) hgrow1 (by simpa using hat1) (by simpa using hown1)
structure GrV (w : World) (lo p : Nat) (N : List (List Int)) : Prop where
  mem : ∃ nv av m cv ov, GrB w p nv av m cv ov ∧ OwnL w lo nv N ∧ OwnL w lo av (aheadR N) ∧ Marked m (walkF N).1 ∧ w.ownsRow lo 3 1 cv (walkF N).1.length ((walkF N).1.map (Value.int .i64)) ∧ w.ownsRow lo 3 1 ov (walkF N).2.length ((walkF N).2.reverse.map (Value.int .i64))
  low : lo ≤ p
  edges : Edges N.length N
  few : N.length ≤ 4096
  some_ : 0 < N.length
  once : ∀ j, (rowN N j).Nodup
theorem GrV.below {w w':World} {lo p:Nat} {N:List (List Int)} (h:GrV w lo p N) (hb:Below w.heap.size w w'):GrV w' lo p N:=by
 obtain⟨nv,av,m,cv,ov,h1,h2,h3,h4,h5,h6⟩:=h.mem
 exact⟨⟨nv,av,m,cv,ov,h1.below hb,h2.below hb,h3.below hb,h4,own_below h5 hb,own_below h6 hb⟩,h.low,h.edges,h.few,h.some_,h.once⟩
theorem own_kept {w w':World} {lo e size n:Nat} {v:Value} {xs:List Value} {ob:Option Nat} (h:w.ownsRow lo e size v n xs) (hg:w.grownBy w' ob) (hob:∀ g,ob=some g→g<lo):w'.ownsRow lo e size v n xs :=
 own_grown h hg (fun g e e2=>by have:=(World.ownsRow.lt h g e2).1;have:=hob g e;omega)
theorem GrV.kept {w w':World} {lo p:Nat} {N:List (List Int)} {ob:Option Nat} (h:GrV w lo p N) (hg:w.grownBy w' ob) (hob:∀ g,ob=some g→g<lo):GrV w' lo p N:=by
 obtain⟨nv,av,m,cv,ov,h1,h2,h3,h4,h5,h6⟩:=h.mem
 have hlo:=h.low
 exact⟨⟨nv,av,m,cv,ov,h1.other (hg.block p h1.lt (fun e=>by have:=hob p e.symm;omega)),h2.kept hg hob,h3.kept hg hob,h4,own_kept h5 hg hob,own_kept h6 hg hob⟩,h.low,h.edges,h.few,h.some_,h.once⟩
end Go.Proofs.YtlcaedibmlidlaaGreat
namespace Go.Proofs.YtlcaedibmlidlaaGreat
open Go.RowKit
open Go.Sort (Holds putRow putCells mapBlock)
set_option linter.unusedVariables false
set_option linter.unusedSimpArgs false
set_option maxRecDepth 10000
def RevI.ren:Go.Shelf.Ren:=⟨fun | 112=>143 | n=>n,fun | 0=>0 | 3=>3 | 4=>4 | 28=>26 | n=>n,fun  | n=>n⟩
theorem RevI.lays:Go.Proofs.Lays.n112 Tryz.prog RevI.ren:={
 mixed:=by kernel_rfl
 f112:=Tryz.func143.trans (congrArg some (by kernel_rfl))
 t0:=Tryz.underlying0
 a0:=Tryz.isAgg0
 z0:=Tryz.sizeOf0
 v0:=Tryz.zeroValue0
 t3:=Tryz.underlying3
 a3:=Tryz.isAgg3
 z3:=Tryz.sizeOf3
 v3:=Tryz.zeroValue3
 t4:=Tryz.underlying4
 a4:=Tryz.isAgg4
 z4:=Tryz.sizeOf4
 v4:=Tryz.zeroValue4
 t28:=Tryz.underlying26
 a28:=Tryz.isAgg26
 z28:=Tryz.sizeOf26
 v28:=Tryz.zeroValue26 }
theorem reverse_own (v:Value) (lo:Nat) (zs:List Int) (w:World) (ho:w.ownsRow lo 3 1 v zs.length (zs.map (Value.int .i64))) (hn:zs.length≤140737488351232) :
  Calls Tryz.prog 143 #[v] w fun e w'=>e=.returned (.tuple #[])∧w.grownBy w' v.ownBlock∧w'.ownsRow lo 3 1 v zs.length (zs.reverse.map (Value.int .i64)):=by
 rcases ho.2 with ⟨rfl,h0⟩ | ⟨g,cap,cur,rfl,h2,h3,h4,h5,h6,h7⟩
 ·have hz:zs=[]:=List.eq_nil_of_length_eq_zero h0
  subst hz
  refine (Any.slices_Reverse_int_empty RevI.lays none 0 w).mono ?_
  rintro e w' ⟨rfl,rfl⟩
  exact⟨rfl,World.grownBy.refl _ _,ho⟩
 ·have hH:Holds (Value.int .i64) w g 0 zs.toArray:=fun j hj=>by
   have hj':j<zs.length:=by simpa using hj
   refine⟨?_,ho.frozenAt _⟩
   rw [Nat.zero_add,ho.cellAt j (by omega)]
   simp [hj']
  refine (Any.slices_Reverse_int RevI.lays g 0 cap zs w hH (by omega)).mono ?_
  rintro e w' ⟨rfl,n,rfl⟩
  have hb:(putRow (Value.int .i64) (Go.Sort.ahead w n) g 0 zs.reverse.toArray).heap[g]?=some (.cells (putCells (Value.int .i64) 0 zs.reverse.toArray cur) 3 (0,0)):=by
   simp [putRow,mapBlock,Go.Sort.ahead,Array.getElem?_modify,h3,Go.Sort.onCells]
  have hg:w.grownBy (putRow (Value.int .i64) (Go.Sort.ahead w n) g 0 zs.reverse.toArray) (some g):=by
   refine⟨rfl,rfl,rfl,by simp [putRow,mapBlock,Go.Sort.ahead],fun k hk hne=>?_⟩
   have:¬ g=k:=fun e=>hne (by rw [e])
   simp [putRow,mapBlock,Go.Sort.ahead,Array.getElem?_modify,this]
  refine⟨rfl,hg,⟨by simp,.inr ⟨g,cap,_,rfl,h2,hb,h4,by simpa [putCells] using h5,by simpa [putCells] using h6,?_⟩⟩⟩
  apply List.ext_getElem?
  intro j
  have hcur:∀ i,i<zs.length→i<cur.size:=fun i hi=>by
   have h7':=congrArg List.length h7
   simp at h7'
   omega
  by_cases hj:j<zs.length
  ·rw [List.getElem?_take,if_pos (by omega)]
   have hjc:=hcur j hj
   simp [putCells,hj,hjc]
  ·rw [List.getElem?_eq_none (by simp;omega),List.getElem?_eq_none (by simp;omega)]
end Go.Proofs.YtlcaedibmlidlaaGreat
namespace Go.Proofs.YtlcaedibmlidlaaGreat
open Go.RowKit
set_option linter.unusedVariables false
set_option linter.unusedSimpArgs false
set_option maxRecDepth 10000
set_option maxHeartbeats 4000000 in
theorem graphWalk_any (w:World) (p lo:Nat) (nv av:Value) (N:List (List Int)) (hb:GrB w p nv av (fun _=>0) (.slice none 0 0) (.slice none 0 0)) (hN:OwnL w lo nv N) (hE:Edges N.length N) (hn:N.length≤4096) (h0:0<N.length) (hD:∀ j,(rowN N j).Nodup) :
  Calls Tryz.prog 96 #[.pointer (some ⟨p,0,none⟩)] w fun e w'=>e=.returned (.tuple #[])∧w.grownBy w' (some p)∧∃ m cv ov,GrB w' p nv av m cv ov∧Marked m (walkF N).1∧w'.ownsRow w.heap.size 3 1 cv (walkF N).1.length ((walkF N).1.map (Value.int .i64))∧w'.ownsRow w.heap.size 3 1 ov (walkF N).2.length ((walkF N).2.reverse.map (Value.int .i64)):=by
 have hQ:=walkF_all N hE h0
 have hlen:(walkF N).2.length≤4096:=by rw [hQ.perm.length_eq];exact Nat.le_trans hQ.good.len hn
 have hpl:=hb.lt
 have hba:Below w.heap.size w ((w.alloc (.cells #[.pointer (some ⟨p,0,none⟩)] 42)).alloc (.cells #[.func (.func 142) #[] #[.pointer (some ⟨w.heap.size,0,none⟩),.pointer (some ⟨w.heap.size+1,0,none⟩)]] 198)):=((Below.refl _ _).alloc (Nat.le_refl _) _).alloc (by simp) _
 have hg0:((w.alloc (.cells #[.pointer (some ⟨p,0,none⟩)] 42)).alloc (.cells #[.func (.func 142) #[] #[.pointer (some ⟨w.heap.size,0,none⟩),.pointer (some ⟨w.heap.size+1,0,none⟩)]] 198)).heap[w.heap.size]?=some (.cells #[.pointer (some ⟨p,0,none⟩)] 42 (0,0)):=allocOld (allocNew _ _ rfl) _
 have hc0:((w.alloc (.cells #[.pointer (some ⟨p,0,none⟩)] 42)).alloc (.cells #[.func (.func 142) #[] #[.pointer (some ⟨w.heap.size,0,none⟩),.pointer (some ⟨w.heap.size+1,0,none⟩)]] 198)).heap[w.heap.size+1]?=some (.cells #[.func (.func 142) #[] #[.pointer (some ⟨w.heap.size,0,none⟩),.pointer (some ⟨w.heap.size+1,0,none⟩)]] 198 (0,0)):=allocNew _ _ (by simp)
 have hC:WkC _ p w.heap.size (w.heap.size+1) lo N.length nv N:=⟨⟨_,_,(hb.below hba).1⟩,hg0,hc0,by omega,by omega,hN.below hba,rfl,hn,hE,fun j=>Nat.le_trans (nodup_lenG N.length _ (hD j) (fun x hx=>hE j x hx)) hn⟩
 have hS0:WkS ((w.alloc (.cells #[.pointer (some ⟨p,0,none⟩)] 42)).alloc (.cells #[.func (.func 142) #[] #[.pointer (some ⟨w.heap.size,0,none⟩),.pointer (some ⟨w.heap.size+1,0,none⟩)]] 198)) p nv av ((w.alloc (.cells #[.pointer (some ⟨p,0,none⟩)] 42)).alloc (.cells #[.func (.func 142) #[] #[.pointer (some ⟨w.heap.size,0,none⟩),.pointer (some ⟨w.heap.size+1,0,none⟩)]] 198)) (fun _=>0) (.slice none 0 0) (.slice none 0 0) [] [] []:=⟨hb.below hba,marked_nil,World.ownsRow_nil _ _ _ _,World.ownsRow_nil _ _ _ _,fun g e=>(by cases e),World.grownBy.refl _ _,by simp;omega⟩
 have hcall:=come_any _ p w.heap.size (w.heap.size+1) lo N.length nv av N hC N.length 0 ([],[]) _ _ _ _ ⟨by simp,fun x hx=>by simp at hx⟩ (by simp) (by omega) (by omega) (by simp) (by simp) hS0
 have hwf:dfs N N.length 0 ([],[])=walkF N:=rfl
 rw [hwf] at hcall
 have HL:=hide hlen
 have HBA:=hide hba
 have HC:=hide hC
 clear hQ hlen hS0 hC hb hN hE hn h0 hD hwf hba
 generalize hWF:walkF N=wf at *
 clear hWF
 go_enter Tryz.func96,Tryz.ntmps96
 go_wp2_with fail
 refine hcall.mono ?_
 rintro e w2 ⟨rfl,m,cv,ov,hS⟩
 generalize hWW:((w.alloc (.cells #[.pointer (some ⟨p,0,none⟩)] 42)).alloc (.cells #[.func (.func 142) #[] #[.pointer (some ⟨w.heap.size,0,none⟩),.pointer (some ⟨w.heap.size+1,0,none⟩)]] 198))=WW at *
 have gbc:=(oneCell (hS.old HC.out.gb HC.out.ngb)).1
 have c67:w2.cell? ⟨p,67,none⟩=some ov:=by rw [hS.blk.cell,gC_o]
 obtain⟨a7,c7,rfl⟩:=own_shapeG hS.left
 have hrev:=reverse_own _ _ wf.2 w2 hS.left (by have:=HL.out;omega)
 have HS:=hide hS
 clear hcall hS hg0 hc0 hWW
 go_wp2_with fail
 refine hrev.mono ?_
 rintro e w3 ⟨rfl,hg3,ho3⟩
 have hlw:w.heap.size≤WW.heap.size:=HBA.out.size
 have hap:=HS.out.apart
 have hob:∀ g,Value.ownBlock (.slice a7 wf.2.length c7)=some g→WW.heap.size≤g:=fun g e=>(World.ownsRow.lt HS.out.left g e).1
 have hgw:w.grownBy w3 (some p):=by
  have h1:w.grownBy WW (some p):=⟨HBA.out.os,HBA.out.tape,HBA.out.output,HBA.out.size,fun k hk _=>HBA.out.block k hk⟩
  have h2:=h1.trans HS.out.grown
  exact h2.andThen hg3 (fun j e=>.inl (by have:=hob j e;omega))
 have hfin:GrB w3 p nv av m cv (.slice a7 wf.2.length c7):=HS.out.blk.other (hg3.block p HS.out.blk.lt (fun e=>by have:=hob p e.symm;have:=HS.out.plt;omega))
 have hcv:=own_grown HS.out.came hg3 (fun g e e2=>hap g e2 e)
 have HFIN:=hide (And.intro hgw (And.intro hfin (And.intro HS.out.marked (And.intro (own_mono hcv hlw) (own_mono ho3 hlw)))))
 clear hrev hg3 ho3 hgw hfin hcv hap hob
 go_wp2_with fail
 go_end0
 exact⟨rfl,HFIN.out.1,m,cv,_,HFIN.out.2.1,HFIN.out.2.2.1,HFIN.out.2.2.2.1,HFIN.out.2.2.2.2⟩
theorem gC_zero (hv:Value):Tryz.zeroCells101.setIfInBounds 0 hv=(gC hv (.slice none 0 0) (fun _=>0) (.slice none 0 0) (.slice none 0 0)).toArray:=rfl
theorem GrB.new (w:World) (hv:Value):GrB (w.alloc (.cells (Tryz.zeroCells101.setIfInBounds 0 hv) 101)) w.heap.size hv (.slice none 0 0) (fun _=>0) (.slice none 0 0) (.slice none 0 0):=by
 refine⟨?_,fun k=>by show (0:Nat)<_;omega⟩
 rw [gC_zero]
 show (w.heap.push _)[w.heap.size]?=_
 rw [Array.getElem?_push_size]
structure MdS (w wr : World) (p n k : Nat) (N : List (List Int)) : Prop where
  own : OwnL wr w.heap.size (.slice (some ⟨w.heap.size, 0, none⟩) n n) (madeQ N k)
  blk : GrB wr p (.slice (some ⟨w.heap.size, 0, none⟩) n n) (.slice none 0 0) (fun _ => 0) (.slice none 0 0) (.slice none 0 0)
  bel : Below w.heap.size w wr
  low : w.heap.size < p
theorem MdS.below {w wr wr':World} {p n k:Nat} {N:List (List Int)} (h:MdS w wr p n k N) (hb:Below wr.heap.size wr wr'):MdS w wr' p n k N:=⟨h.own.below hb,h.blk.below hb,h.bel.trans (hb.mono h.bel.size),h.low⟩
theorem MdS.put {w W w':World} {p n k:Nat} {N:List (List Int)} {v:Value} (h:MdS w W p n k N) (hl:N.length=n) (hk:k<n) (hb:Below W.heap.size W w') (hv:w'.ownsRow W.heap.size 3 1 v (onceF (rowN N k)).length ((onceF (rowN N k)).map (Value.int .i64))) :
  MdS w (w'.setCell ⟨w.heap.size,k,none⟩ v) p n (k+1) N∧(∃ u,w'.cell? ⟨w.heap.size,k,none⟩=some u)∧w'.frozen? ⟨w.heap.size,k,none⟩=false:=by
 have hml:(madeQ N k).length=n:=by rw [madeQ_len];exact hl
 have ho:OwnL W w.heap.size (.slice (some ⟨w.heap.size,0,none⟩) (madeQ N k).length n) (madeQ N k):=by rw [hml];exact h.own
 obtain⟨h1,h2,h3,h4⟩:=OwnL.put ho hb (j:=k) (by rw [hml];exact hk) h.bel.size hv
 rw [hml,madeQ_set N k (by omega)] at h1
 have hM:=h.below hb
 refine⟨⟨h1,hM.blk.other (Below.heap_setCell _ _ _ _ (fun e=>by have:=h.low;simp at e;omega)),hM.bel.grown (grown_setCell w' w.heap.size k v) hM.bel.size (fun q e=>by cases e;exact Nat.le_refl _),h.low⟩,h2,h3⟩
set_option maxHeartbeats 8000000 in
theorem made_any (a:Option Addr) (n c:Nat) (N:List (List Int)) (w:World) (hv:LV w a N) (hl:N.length=n) (h0:0<n) (hn:n≤4096) (hE:Edges n N) (hr:∀ j,8 * (rowN N j).length≤140737488351232) :
  Calls Tryz.prog 41 #[.slice a n c] w fun e w'=>∃ p,e=.returned (.pointer (some ⟨p,0,none⟩))∧GrV w' w.heap.size p (N.map onceF)∧Below w.heap.size w w':=by
 obtain⟨j0,hj,hy0,hy1,hy2⟩:=info_parts GrLists.info
 have HL:=hide hl
 have HV:=hide hv
 have HE:=hide hE
 have HN:=hide hn
 have HR:=hide hr
 have H0:=hide h0
 have hni:(n:Int)≤4096:=by omega
 clear hl hv hE hr
 go_enter Tryz.func41,Tryz.ntmps41
 go_wp2_with (at_make;refine wpList_make_full _ rfl _ _ 50 rfl w.heap.size 26 j0 (.slice none 0 0) 1 Tryz.underlying50 hj hy0 hy1 _ _ _ _ n rfl rfl (by rfl) (by rfl) (by rw [hy2];omega) (by unfold maxLen;omega) (Nat.le_refl _) ?_)
 intro w1 hown1 hgr1
 have hb1:Below w.heap.size w w1:=(Below.refl _ w).grown hgr1 (Nat.le_refl _) (by simp)
 have hO1:OwnL w1 w.heap.size (.slice (some ⟨w.heap.size,0,none⟩) n n) (madeQ N 0):=by rw [madeQ_zero,HL.out];exact OwnL.made (by simpa using hown1)
 have hlw:w.heap.size<w1.heap.size:=by
  obtain⟨_,_,_,_,_,hab⟩:=hO1.head
  have hx:=hgr1.size
  obtain⟨a',c',e',_,_,hab⟩:=hO1.head
  cases e'
  exact (hab w.heap.size 0 rfl).2
 have hbA:Below w1.heap.size w1 (w1.alloc (.cells (Tryz.zeroCells101.setIfInBounds 0 (.slice (some ⟨w.heap.size,0,none⟩) n n)) 101)):=(Below.refl _ _).alloc (Nat.le_refl _) _
 have HS0:Hid (MdS w (w1.alloc (.cells (Tryz.zeroCells101.setIfInBounds 0 (.slice (some ⟨w.heap.size,0,none⟩) n n)) 101)) w1.heap.size n 0 N):=⟨hO1.below hbA,GrB.new _ _,hb1.trans (hbA.mono hb1.size),hlw⟩
 clear hown1 hgr1 hb1 hO1 hlw hbA hn h0
 go_wp2_with fail
 generalize w1.alloc (.cells (Tryz.zeroCells101.setIfInBounds 0 (.slice (some ⟨w.heap.size,0,none⟩) n n)) 101)=W1 at *
 generalize Value.agg (Tryz.zeroCells101.setIfInBounds 0 (.slice (some ⟨w.heap.size,0,none⟩) n n))=AG at *
 generalize w1.heap.size=p at *
 go_loopw [13] (fun i wr=>∃ k:Nat,k≤n∧i=.int .i64 k∧MdS w wr p n k N) (fun i _=>n - (intOf i).toNat)
 case atStart=>exact⟨0,Nat.zero_le _,rfl,HS0.out⟩
 case round =>
  obtain⟨k,hk,rfl,hS⟩:=hrel
  by_cases hlt:k<n
  ·obtain⟨b,off,aj,nj,cj,rfl,hb,hc,hcl,hcc,hvj⟩:=HV.out k (by rw [HL.out];exact hlt)
   have hc':=(hS.bel.cell (p:=⟨b,off+k,none⟩) hb).trans hc
   have hki:(k:Int)<(n:Int):=by omega
   have HLT:=hide hlt
   have HS:=hide hS
   have hvr:=hvj.below hS.bel
   have hrk:=HR.out k
   have hek:∀ x∈rowN N k,0≤x∧x<4096:=fun x hx=>by have:=HE.out k x hx;have:=HN.out;omega
   have c0:wr.cell? ⟨p,0,none⟩=some (.slice (some ⟨w.heap.size,0,none⟩) n n):=by rw [hS.blk.cell];rfl
   have hpl:=hS.blk.lt
   have hON:=fun wx (hx:Below wr.heap.size wr wx)=>once_any aj nj cj (rowN N k) wx (hvr.below hx) hcl (by omega) hek
   have HPUT:=hide (fun wx w' v (hx:Below wr.heap.size wr wx) hb' hv'=>(HS.out.below hx).put (w':=w') (v:=v) HL.out HLT.out hb' hv')
   clear hS HS0 hk hlt hb hc hcc hvj hvr hrk hek
   have hdw:Below wr.heap.size wr wr.drew:=(Below.refl _ _).drew
   have HDW:=hide hdw
   clear hdw
   go_wp2_with fail
   go_region_with (go_at_call 94;refine (hON _ HDW.out).mono ?_;rintro e w5 ⟨v5,rfl,ho5,hb5⟩;obtain⟨a5,c5,rfl⟩:=own_shapeG ho5;obtain⟨hM5,⟨u5,hu5⟩,hf5⟩:=HPUT.out _ w5 _ HDW.out hb5 ho5;have c05:w5.cell? ⟨p,0,none⟩=some (.slice (some ⟨w.heap.size,0,none⟩) n n):=((hb5.cell (p:=⟨p,0,none⟩) (by simpa using hpl)).trans (by simpa using c0)))
   all_goals
    have HM5:=hide hM5
    clear hM5 ho5 hb5 hu5 hf5 c05 c0
    go_wp2_with fail
    exact⟨⟨k+1,HLT.out,by simp,HM5.out⟩,measZ2 HLT.out⟩
  ·have e:n=k:=by omega
   subst e
   have HW:Hid (madeQ N n=N.map onceF):=by show _=_;rw [← HL.out,madeQ_whole]
   have hML:(N.map onceF).length=n:=by rw [List.length_map];exact HL.out
   have hrow:∀ j,rowN (N.map onceF) j=onceF (rowN N j):=fun j=>by
    by_cases hj:j<N.length
    ·exact rowN_map N onceF j hj
    ·rw [rowN_out _ _ (by rw [List.length_map];omega),rowN_out _ _ (by omega)];rfl
   have hE2:Edges n (N.map onceF):=fun j x hx=>by rw [hrow,once_mem] at hx;exact HE.out j x hx
   have hD2:∀ j,(rowN (N.map onceF) j).Nodup:=fun j=>by rw [hrow];exact once_nodup _
   have hO:=hS.own
   rw [HW.out] at hO
   have c0:wr.cell? ⟨p,0,none⟩=some (.slice (some ⟨w.heap.size,0,none⟩) n n):=by rw [hS.blk.cell];rfl
   obtain⟨a',c',e',_,hLV,_⟩:=hO.head
   rw [hML] at e'
   cases e'
   have hT:=turned_any (some ⟨w.heap.size,0,none⟩) n n (N.map onceF) wr hLV hML HN.out hE2 hD2
   have HS:=hide hS
   have HO:=hide hO
   have HM:=hide hML
   have HE2:=hide hE2
   have HD2:=hide hD2
   have hpl:=hS.blk.lt
   clear hS HS0 hk hO hLV hML hE2 hD2 hrow HV HE HR HL HW
   generalize hMM:N.map onceF=M at *
   have HMM:=hide hMM
   clear hMM
   go_wp2_with fail
   refine hT.mono ?_
   rintro e w5 ⟨v5,rfl,hO5,hb5⟩
   have hB5:=HS.out.blk.below hb5
   have c15:w5.cell? ⟨p,1,none⟩=some (.slice none 0 0):=by rw [hB5.cell];rfl
   have f15:w5.frozen? ⟨p,1,none⟩=false:=hB5.frozen _
   have hB6:GrB (w5.setCell ⟨p,1,none⟩ v5) p (.slice (some ⟨w.heap.size,0,none⟩) n n) v5 (fun _=>0) (.slice none 0 0) (.slice none 0 0):=⟨by have:=hB5.set 1 v5;rw [gC_setA] at this;exact this,hB5.2⟩
   have hpt:∀ (o:Obj),True:=fun _=>trivial
   have hset:∀ g cs T fr,w.heap.size≤g→(T=3∨T=26)→w5.heap[g]?=some (.cells cs T fr)→(w5.setCell ⟨p,1,none⟩ v5).heap[g]?=some (.cells cs T fr):=fun g cs T fr _ hTT hg=>by
    refine (Below.heap_setCell _ _ _ _ (fun e=>?_)).trans hg
    simp at e
    subst e
    rw [hB5.1] at hg
    cases hg
    rcases hTT with e | e <;> exact absurd e (by decide)
   have hO6:OwnL (w5.setCell ⟨p,1,none⟩ v5) w.heap.size (.slice (some ⟨w.heap.size,0,none⟩) n n) M:=(HO.out.below hb5).same hset
   have hA6:OwnL (w5.setCell ⟨p,1,none⟩ v5) w.heap.size v5 (aheadR M):=(hO5.mono (HS.out.bel.size)).same hset
   have hb6:Below w.heap.size w (w5.setCell ⟨p,1,none⟩ v5):=by
    have h1:=HS.out.bel.trans (hb5.mono HS.out.bel.size)
    exact h1.grown (grown_setCell w5 p 1 v5) h1.size (fun q e=>by cases e;have:=HS.out.low;omega)
   obtain⟨av,ac,rfl⟩:∃ av ac,v5=.slice av n ac:=by
    obtain⟨av,ac,e1,_⟩:=hO5.head
    rw [aheadR_len,HM.out] at e1
    exact⟨av,ac,e1⟩
   have hWk:=graphWalk_any _ p w.heap.size _ _ M hB6 hO6 (by rw [HM.out];exact HE2.out) (by rw [HM.out];exact HN.out) (by rw [HM.out];exact H0.out) HD2.out
   have HO6:=hide hO6
   have HA6:=hide hA6
   have HB6:=hide hb6
   have HG6:=hide hB6
   clear hT hb5 hO5 hB5 hO6 hA6 hb6 hB6 hset hpt
   go_wp2_with fail
   generalize (w5.setCell ⟨p,1,none⟩ (.slice av n ac))=W6 at *
   refine hWk.mono ?_
   rintro e w7 ⟨rfl,hg7,m7,cv7,ov7,hB7,hM7,hc7,ho7⟩
   have hkeep:∀ g cs T fr,w.heap.size≤g→(T=3∨T=26)→W6.heap[g]?=some (.cells cs T fr)→w7.heap[g]?=some (.cells cs T fr):=fun g cs T fr _ hTT hg=>by
    refine (hg7.block g (Array.getElem?_eq_some_iff.1 hg).1 (fun e=>?_)).trans hg
    cases e
    rw [HG6.out.1] at hg
    cases hg
    rcases hTT with e | e <;> exact absurd e (by decide)
   have HV7:Hid (GrV w7 w.heap.size p M):=⟨⟨_,_,m7,cv7,ov7,hB7,HO6.out.same hkeep,HA6.out.same hkeep,hM7,own_mono hc7 HB6.out.size,own_mono ho7 HB6.out.size⟩,Nat.le_of_lt HS.out.low,by rw [HM.out];exact HE2.out,by rw [HM.out];exact HN.out,by rw [HM.out];exact H0.out,HD2.out⟩
   have HB7:Hid (Below w.heap.size w w7):=HB6.out.grown hg7 HB6.out.size (fun q e=>by cases e;have:=HS.out.low;omega)
   clear hWk hg7 hB7 hM7 hc7 ho7 hkeep
   go_wp2_with fail
   go_ret
   exact⟨p,rfl,by rw [HMM.out];exact HV7.out,HB7.out⟩
theorem graphLen_nil (w:World):Calls Tryz.prog 15 #[.pointer none] w fun e w'=>e=.returned (.int .i64 0)∧w=w':=by
 go_enter Tryz.func15,Tryz.ntmps15
 go_wp2
 go_ret
 exact⟨rfl,rfl⟩
theorem graphLen_any (w:World) (lo p:Nat) (N:List (List Int)) (h:GrV w lo p N):Calls Tryz.prog 15 #[.pointer (some ⟨p,0,none⟩)] w fun e w'=>e=.returned (.int .i64 (N.length:Int))∧w=w':=by
 obtain⟨nv,av,m,cv,ov,h1,h2,_⟩:=h.mem
 obtain⟨a,c,rfl,_,_,_⟩:=h2.head
 have c0:w.cell? ⟨p,0,none⟩=some (.slice a N.length c):=by rw [h1.cell];rfl
 clear h h1 h2
 go_enter Tryz.func15,Tryz.ntmps15
 go_wp2
 go_ret
 exact⟨rfl,rfl⟩
def nodeB (n:Nat) (i:Int):Bool:=decide (0≤i∧i<(n:Int))
set_option maxHeartbeats 1000000 in
theorem isNode_any (a:Option Addr) (n c:Nat) (i:Int) (w:World):Calls Tryz.prog 97 #[.int .i64 i,.slice a n c] w fun e w'=>e=.returned (.bool (nodeB n i))∧w=w':=by
 by_cases h0:(0:Int)≤i
 ·have h0':decide ((0:Int)≤i)=true:=by simpa using h0
  have HR:Hid (nodeB n i=decide (i<(n:Int))):=by show _=_;simp [nodeB,h0]
  go_enter Tryz.func97,Tryz.ntmps97
  go_wp2
  go_ret
  exact⟨by rw [HR.out];rfl,rfl⟩
 ·have h0':decide ((0:Int)≤i)=false:=by simpa using h0
  have HR:Hid (nodeB n i=false):=by show _=_;simp [nodeB,h0]
  clear h0
  go_enter Tryz.func97,Tryz.ntmps97
  go_wp2
  go_ret
  exact⟨by rw [HR.out];rfl,rfl⟩
theorem graphHas_nil (i:Int) (w:World):Calls Tryz.prog 42 #[.pointer none,.int .i64 i] w fun e w'=>e=.returned (.bool false)∧w=w':=by
 go_enter Tryz.func42,Tryz.ntmps42
 go_wp2
 go_ret
 exact⟨rfl,rfl⟩
theorem graphHas_any (i:Int) (w:World) (lo p:Nat) (N:List (List Int)) (h:GrV w lo p N):Calls Tryz.prog 42 #[.pointer (some ⟨p,0,none⟩),.int .i64 i] w fun e w'=>e=.returned (.bool (nodeB N.length i))∧w=w':=by
 obtain⟨nv,av,m,cv,ov,h1,h2,_⟩:=h.mem
 obtain⟨a,c,rfl,_,_,_⟩:=h2.head
 have c0:w.cell? ⟨p,0,none⟩=some (.slice a N.length c):=by rw [h1.cell];rfl
 have hI:=isNode_any a N.length c i w
 clear h h1 h2
 go_enter Tryz.func42,Tryz.ntmps42
 go_wp2_with fail
 refine hI.mono ?_
 rintro e w' ⟨rfl,rfl⟩
 go_wp2
 go_ret
 exact⟨rfl,rfl⟩
def StopC (p:Prop):Prop:=p
theorem stopC {P:Program} {ops:Array Oper} {Q:Exit→Act→World→Prop} {a:Act} {w:World} {xs:Array Operand} {ts:Array TypeId} {d:Option Tmp} {ty:TypeId} {ps:String} {af:Array Edge} {g:Option (Nat×Bool)} {rest:List Oper} (h:StopC (wpList P ops Q ({ dst:=d,op:=.call { callee:=.builtin .copy,args:=xs,argTypes:=ts },type:=ty,pos:=ps,after:=af,guard:=g } :: rest) a w)):wpList P ops Q ({ dst:=d,op:=.call { callee:=.builtin .copy,args:=xs,argTypes:=ts },type:=ty,pos:=ps,after:=af,guard:=g } :: rest) a w:=h
theorem news_view {w:World} {b off:Nat} {zs:List Int} (hv:View .i64 w (some ⟨b,off,none⟩) zs):∀ j v,(zs.map (Value.int .i64))[j]?=some v→w.cell? ((⟨b,off,none⟩:Addr).add j)=some v:=by
 intro j v hj
 rw [List.getElem?_map] at hj
 have hjl:j<zs.length:=by
  rcases Nat.lt_or_ge j zs.length with h | h
  ·exact h
  ·rw [List.getElem?_eq_none h] at hj;simp at hj
 obtain⟨b2,o2,e2,_,hc⟩:=hv j hjl
 simp at e2
 obtain⟨rfl,rfl⟩:=e2
 rw [Addr.add_lit,hc,← hj,List.getElem?_eq_getElem hjl]
 simp [nth,List.getD,hjl]
set_option maxHeartbeats 2000000 in
theorem graphCopied_any (a:Option Addr) (n c:Nat) (zs:List Int) (w:World) (hv:View .i64 w a zs) (hl:zs.length=n) (hn:8 * n≤140737488351232) :
  Calls Tryz.prog 43 #[.slice a n c] w fun e w'=>∃ g,e=.returned (.slice (some ⟨g,0,none⟩) n n)∧w'.ownsRow w.heap.size 3 1 (.slice (some ⟨g,0,none⟩) n n) n (zs.map (Value.int .i64))∧Below w.heap.size w w':=by
 obtain⟨i0,hi,hz0,hz1,hz2⟩:=info_parts GrInts.info
 have HV:=hide hv
 have HL:=hide hl
 have HN:=hide hn
 have hsz:(Tryz.prog.info? 3).map (·.size)=some 1:=by kernel_rfl
 clear hv hl hn
 go_enter Tryz.func43,Tryz.ntmps43
 go_wp2_with (at_make;refine wpList_make_full _ rfl _ _ 26 rfl w.heap.size 3 i0 (.int .i64 0) 1 Tryz.underlying26 hi hz0 hz1 _ _ _ _ n rfl rfl (by rfl) (by rfl) (by rw [hz2];have:=HN.out;omega) (by unfold maxLen;have:=HN.out;omega) (Nat.le_refl _) ?_)
 intro w1 hown1 hgr1
 have hb1:Below w.heap.size w w1:=(Below.refl _ w).grown hgr1 (Nat.le_refl _) (by simp)
 have hr1:w1.ownsRow w.heap.size 3 1 (.slice (some ⟨w.heap.size,0,none⟩) n n) n ((List.replicate n 0).map (Value.int .i64)):=by
  have:=made_row (List.replicate n 0) (by simpa using hown1)
  rw [filled_zero] at this;exact this
 have hV1:=HV.out.below hb1
 have HO:=hide hr1
 rcases hr1.2 with ⟨he,_⟩ | ⟨g,cap,cur,he,h2,h3,h4,h5,h6,h7⟩
 ·cases he
 ·cases he
  have hcur:cur.size=n:=by omega
  have hct:(cur.toList.toArray:Array Value)=cur:=by simp
  have HB1:=hide hb1
  have HV1:=hide hV1
  have H3:Hid (w1.heap[w.heap.size]?=some (.cells cur.toList.toArray 3 (0,0))):=by show _=_;rw [hct];exact h3
  have HCS:=hide hcur
  clear hown1 hgr1 hb1 hr1 hV1 h2 h3 h4 h5 h6 h7 hct hcur
  go_wp2_with (with_reducible refine stopC ?_)
  unfold StopC
  refine wpList_copy_splice rfl (.tmp 7) (.tmp 8) 26 26 rfl 3 Tryz.underlying26 hsz (some ⟨w.heap.size,0,none⟩) a n n n c rfl rfl w.heap.size 0 cur.toList 3 H3.out (zs.map (Value.int .i64)) (by rw [List.length_map,HL.out];simp) (fun hp=>⟨rfl,by
   have hp':0<zs.length:=by simpa using hp
   obtain⟨b,off,rfl,_,_⟩:=HV1.out 0 hp'
   exact⟨_,rfl,news_view HV1.out⟩⟩) (by rw [List.length_map,HL.out,Array.length_toList,HCS.out];omega) (fun v hv=>by obtain⟨y,_,rfl⟩:=List.mem_map.1 hv;rfl) w.heap.size w HB1.out (Nat.le_refl _) ?_
  intro w2 h2 hb2
  have HB2:=hide hb2
  clear hb2
  go_wp2_with fail
  go_ret
  refine⟨_,rfl,⟨by simp [HL.out],.inr ⟨w.heap.size,n,_,rfl,Nat.le_refl _,h2.out,Nat.le_refl _,by unfold maxLen;have:=HN.out;omega,?_,?_⟩⟩,HB2.out⟩
  ·simp [splice,HL.out,HCS.out]
  ·simp [splice,HL.out,HCS.out]
def nextL (N:List (List Int)) (i:Int):List Int:=if nodeB N.length i then rowN N i.toNat else []
def aheadL (N:List (List Int)) (i:Int):List Int:=if nodeB N.length i then aheadF N i else []
def reachB (N:List (List Int)) (i:Int):Bool:=nodeB N.length i && decide (i∈(walkF N).1)
def AnsI (w w':World) (e:Ending) (l:List Int):Prop:=∃ v,e=.returned v∧w'.ownsRow w.heap.size 3 1 v l.length (l.map (Value.int .i64))∧Below w.heap.size w w'
theorem ansI_nil (w:World):AnsI w w (.returned (.slice none 0 0)) []:=⟨_,rfl,World.ownsRow_nil _ _ _ _,Below.refl _ _⟩
theorem nodeB_true {n:Nat} {i:Int} (h:nodeB n i=true):∃ k:Nat,k<n∧i=(k:Int):=by
 unfold nodeB at h
 have h':=of_decide_eq_true h
 obtain⟨k,rfl⟩:=Int.eq_ofNat_of_zero_le h'.1
 exact⟨k,by omega,rfl⟩
theorem GrV.rows {w:World} {lo p:Nat} {N:List (List Int)} (h:GrV w lo p N) (j:Nat):(rowN N j).length≤4096:=Nat.le_trans (nodup_lenG N.length _ (h.once j) (fun x hx=>h.edges j x hx)) h.few
theorem graphNext_nil (i:Int) (w:World):Calls Tryz.prog 17 #[.pointer none,.int .i64 i] w fun e w'=>e=.returned (.slice none 0 0)∧w=w':=by
 have hH:=graphHas_nil i w
 go_enter Tryz.func17,Tryz.ntmps17
 go_wp2_with fail
 refine hH.mono ?_
 rintro e w' ⟨rfl,rfl⟩
 go_wp2
 go_ret
 exact⟨rfl,rfl⟩
theorem graphAhead_nil (i:Int) (w:World):Calls Tryz.prog 29 #[.pointer none,.int .i64 i] w fun e w'=>e=.returned (.slice none 0 0)∧w=w':=by
 have hH:=graphHas_nil i w
 go_enter Tryz.func29,Tryz.ntmps29
 go_wp2_with fail
 refine hH.mono ?_
 rintro e w' ⟨rfl,rfl⟩
 go_wp2
 go_ret
 exact⟨rfl,rfl⟩
theorem graphOrder_nil (w:World):Calls Tryz.prog 31 #[.pointer none] w fun e w'=>e=.returned (.slice none 0 0)∧w=w':=by
 go_enter Tryz.func31,Tryz.ntmps31
 go_wp2
 go_ret
 exact⟨rfl,rfl⟩
theorem graphReached_nil (i:Int) (w:World):Calls Tryz.prog 30 #[.pointer none,.int .i64 i] w fun e w'=>e=.returned (.bool false)∧w=w':=by
 have hH:=graphHas_nil i w
 go_enter Tryz.func30,Tryz.ntmps30
 go_wp2_with fail
 refine hH.mono ?_
 rintro e w' ⟨rfl,rfl⟩
 go_wp2
 go_ret
 exact⟨rfl,rfl⟩
set_option maxHeartbeats 2000000 in
theorem graphNext_any (i:Int) (w:World) (lo p:Nat) (N:List (List Int)) (h:GrV w lo p N):Calls Tryz.prog 17 #[.pointer (some ⟨p,0,none⟩),.int .i64 i] w fun e w'=>AnsI w w' e (nextL N i):=by
 have hH:=graphHas_any i w lo p N h
 cases hn:nodeB N.length i with
 | false =>
  rw [hn] at hH
  have HE:Hid (nextL N i=[]):=by show _=_;unfold nextL;rw [hn];rfl
  go_enter Tryz.func17,Tryz.ntmps17
  go_wp2_with fail
  refine hH.mono ?_
  rintro e w' ⟨rfl,rfl⟩
  go_wp2_with fail
  go_ret
  rw [HE.out]
  exact ansI_nil w
 | true =>
  rw [hn] at hH
  have hrl:=h.rows
  obtain⟨k,hk,rfl⟩:=nodeB_true hn
  have HE:Hid (nextL N (k:Int)=rowN N k):=by show _=_;unfold nextL;rw [hn];simp
  obtain⟨nv,av,m,cv,ov,h1,h2,_⟩:=h.mem
  obtain⟨a,c,rfl,_,hLV,_⟩:=h2.head
  have c0:w.cell? ⟨p,0,none⟩=some (.slice a N.length c):=by rw [h1.cell];rfl
  obtain⟨b,off,aj,nj,cj,rfl,hb,hc,hcl,hcc,hvj⟩:=hLV k hk
  have hki:(k:Int)<(N.length:Int):=by omega
  have hC:=graphCopied_any aj nj cj (rowN N k) w hvj hcl (by have:=hrl k;omega)
  have HCL:=hide hcl
  clear h h1 h2 hLV hb hcc hvj hn hrl hcl
  go_enter Tryz.func17,Tryz.ntmps17
  go_wp2_with fail
  refine hH.mono ?_
  rintro e w' ⟨rfl,rfl⟩
  clear hH
  go_wp2_with fail
  refine hC.mono ?_
  rintro e w' ⟨g,rfl,ho,hb⟩
  have HO:=hide (And.intro ho hb)
  clear ho hb hC
  go_wp2_with fail
  go_ret
  rw [HE.out]
  exact⟨_,rfl,by rw [HCL.out];exact HO.out.1,HO.out.2⟩
set_option maxHeartbeats 2000000 in
theorem graphAhead_any (i:Int) (w:World) (lo p:Nat) (N:List (List Int)) (h:GrV w lo p N):Calls Tryz.prog 29 #[.pointer (some ⟨p,0,none⟩),.int .i64 i] w fun e w'=>AnsI w w' e (aheadL N i):=by
 have hH:=graphHas_any i w lo p N h
 cases hn:nodeB N.length i with
 | false =>
  rw [hn] at hH
  have HE:Hid (aheadL N i=[]):=by show _=_;unfold aheadL;rw [hn];rfl
  go_enter Tryz.func29,Tryz.ntmps29
  go_wp2_with fail
  refine hH.mono ?_
  rintro e w' ⟨rfl,rfl⟩
  go_wp2_with fail
  go_ret
  rw [HE.out]
  exact ansI_nil w
 | true =>
  rw [hn] at hH
  have hfew:=h.few
  obtain⟨k,hk,rfl⟩:=nodeB_true hn
  have HE:Hid (aheadL N (k:Int)=rowN (aheadR N) k):=by show _=_;unfold aheadL;rw [hn,aheadR_row N k hk];rfl
  obtain⟨nv,av,m,cv,ov,h1,_,h2,_⟩:=h.mem
  obtain⟨a,c,rfl,_,hLV,_⟩:=h2.head
  have hal:=aheadR_len N
  have c0:w.cell? ⟨p,1,none⟩=some (.slice a N.length c):=by rw [h1.cell,hal];rfl
  obtain⟨b,off,aj,nj,cj,rfl,hb,hc,hcl,hcc,hvj⟩:=hLV k (by rw [hal];exact hk)
  have hki:(k:Int)<(N.length:Int):=by omega
  have hrl:nj≤4096:=by rw [← hcl,aheadR_row N k hk];exact Nat.le_trans (aheadT_len _ _ _) hfew
  have hC:=graphCopied_any aj nj cj (rowN (aheadR N) k) w hvj hcl (by omega)
  have HCL:=hide hcl
  clear h h1 h2 hLV hb hcc hvj hn hrl hcl hal
  go_enter Tryz.func29,Tryz.ntmps29
  go_wp2_with fail
  refine hH.mono ?_
  rintro e w' ⟨rfl,rfl⟩
  clear hH
  go_wp2_with fail
  refine hC.mono ?_
  rintro e w' ⟨g,rfl,ho,hb⟩
  have HO:=hide (And.intro ho hb)
  clear ho hb hC
  go_wp2_with fail
  go_ret
  rw [HE.out]
  exact⟨_,rfl,by rw [HCL.out];exact HO.out.1,HO.out.2⟩
set_option maxHeartbeats 2000000 in
theorem graphReached_any (i:Int) (w:World) (lo p:Nat) (N:List (List Int)) (h:GrV w lo p N):Calls Tryz.prog 30 #[.pointer (some ⟨p,0,none⟩),.int .i64 i] w fun e w'=>e=.returned (.bool (reachB N i))∧w=w':=by
 have hH:=graphHas_any i w lo p N h
 cases hn:nodeB N.length i with
 | false =>
  rw [hn] at hH
  have HE:Hid (reachB N i=false):=by show _=_;unfold reachB;rw [hn];rfl
  go_enter Tryz.func30,Tryz.ntmps30
  go_wp2_with fail
  refine hH.mono ?_
  rintro e w' ⟨rfl,rfl⟩
  go_wp2
  go_ret
  exact⟨by rw [HE.out];rfl,rfl⟩
 | true =>
  rw [hn] at hH
  have hfew:=h.few
  obtain⟨k,hk,rfl⟩:=nodeB_true hn
  obtain⟨nv,av,m,cv,ov,h1,_,_,hM,_⟩:=h.mem
  have hk4:k<4096:=by omega
  have HE:Hid (reachB N (k:Int)=hasM m k):=by show _=_;unfold reachB;rw [hn,hM k hk4];rfl
  have hA:=marksHas_any p 2 m k w h1.mkAt hk4
  generalize hasM m k=r at *
  clear h h1 hM hn
  go_enter Tryz.func30,Tryz.ntmps30
  go_wp2_with fail
  refine hH.mono ?_
  rintro e w' ⟨rfl,rfl⟩
  clear hH
  go_wp2_with fail
  refine hA.mono ?_
  rintro e w' ⟨rfl,rfl⟩
  clear hA
  go_wp2
  go_ret
  exact⟨by rw [HE.out];rfl,rfl⟩
set_option maxHeartbeats 2000000 in
theorem graphOrder_any (w:World) (lo p:Nat) (N:List (List Int)) (h:GrV w lo p N):Calls Tryz.prog 31 #[.pointer (some ⟨p,0,none⟩)] w fun e w'=>AnsI w w' e (walkF N).2.reverse:=by
 have hQ:=walkF_all N h.edges h.some_
 have hlen:(walkF N).2.length≤4096:=by rw [hQ.perm.length_eq];exact Nat.le_trans hQ.good.len h.few
 obtain⟨nv,av,m,cv,ov,h1,_,_,_,_,ho⟩:=h.mem
 have hol:(walkF N).2.length=(walkF N).2.reverse.length:=by simp
 rw [hol] at ho hlen
 generalize (walkF N).2.reverse=zs at *
 obtain⟨a,c,rfl,hv,_⟩:=View.ofOwned ho
 have c0:w.cell? ⟨p,67,none⟩=some (.slice a zs.length c):=by rw [h1.cell,gC_o]
 have hC:=graphCopied_any a zs.length c zs w hv rfl (by omega)
 clear h h1 hv ho hQ hol
 go_enter Tryz.func31,Tryz.ntmps31
 go_wp2_with fail
 refine hC.mono ?_
 rintro e w' ⟨g,rfl,ho,hb⟩
 have HO:=hide (And.intro ho hb)
 clear ho hb hC
 go_wp2_with fail
 go_ret
 exact⟨_,rfl,HO.out.1,HO.out.2⟩
end Go.Proofs.YtlcaedibmlidlaaGreat
