/-
  Texts in one: Ref04Inst3, CodeIds, MathU, MathV, RowT, RowW, Ref04Decode.
-/
import Derived.Test.YtonhnflilfjkbaaGreatDoorB28
import Derived.KernelRfl
import Derived.Deep.MidRow
namespace Go.Proofs.YtonhnflilfjkbaaGreatDoor
open Go.RowKit Go.Shelf
set_option linter.unusedVariables false
set_option linter.unusedSimpArgs false
theorem headTy_ok {zs:List Int} {b:Int} (h:¬ (headTy true zs b).2≠0):1≤zs.length∧(headTy true zs b).1=nth zs 0:=by
 unfold headTy at *
 rw [if_pos rfl] at *
 by_cases hz:zs.length≤0
 ·rw [if_pos hz] at h;exact absurd (by decide) h
 ·rw [if_neg hz];exact⟨by omega,rfl⟩
theorem headRes_ok {zs:List Int} {b:Int} {p:Nat} (h:¬ (headRes true zs b p).2≠0):p+1≤zs.length∧(headRes true zs b p).1=nth zs p:=by
 unfold headRes at *
 rw [if_pos rfl] at *
 by_cases hz:zs.length≤p
 ·rw [if_pos hz] at h;exact absurd (by decide) h
 ·rw [if_neg hz];exact⟨by omega,rfl⟩
theorem refInst_any (op b:Int) (a:Option Addr) (n cap:Nat) (zs:List Int) (w:World) (ha:View .u32 w a zs) (hl:zs.length=n) (hw:Within 4294967296 zs) (hn:4 * n≤140737488351232) (b0:0≤b) (b1:b<4294967296) (hcap:n≤cap) (hnil:a=none→cap=0) :
  Calls Tryz.prog 60 #[.agg #[.int .u16 op,.slice a n cap],.int .u32 b] w fun e w'=>RefR w (instI op zs b) e w':=by
 unfold instI
 by_cases hbig:65535≤zs.length
 ·rw [if_pos hbig];exact refInst_large op b a n cap w (by omega)
 ·rw [if_neg hbig]
  cases h2:(lookF refT op).2 with
  | false=>rw [if_pos rfl];exact refInst_none op b a n cap w (by omega) h2
  | true =>
   rw [if_neg (by simp)]
   obtain⟨f,hf⟩:∃ f,lookF refT op=(f,true):=⟨(lookF refT op).1,Prod.ext rfl h2⟩
   rw [hf]
   have hE:=heads_eq f.2.1 f.2.2.1 zs b
   have hG:=refInst_heads op b a n cap zs w f hf ha hl hw hn b0 b1 (by omega)
   unfold instF
   dsimp only
   by_cases h1:(headTy f.2.1 zs b).2≠0
   ·rw [if_pos h1] at hE ⊢
    rw [hE] at hG
    exact hG h1
   ·rw [if_neg h1] at hE ⊢
    by_cases h3:(headRes f.2.2.1 zs b f.2.1.toNat).2≠0
    ·rw [if_pos h3] at hE ⊢
     rw [hE] at hG
     exact hG h3
    ·rw [if_neg h3] at hE ⊢
     clear hG
     obtain⟨f1,ty,re,f4,f5,f6,f7⟩:=f
     dsimp only at *
     rw [ite_not,hl]
     cases ty <;> cases re
     ·exact refInst_all op b a n cap zs w f1 f4 f5 f6 f7 false false 0 0 0 (.inr (.inr (.inr ⟨rfl,rfl,rfl,rfl,rfl⟩))) hf ha hl hw hn b0 b1 (by omega) hcap hnil hE (Nat.zero_le _) _ rfl
     ·obtain⟨r1,r2⟩:=headRes_ok h3
      rw [r2]
      exact refInst_all op b a n cap zs w f1 f4 f5 f6 f7 false true 0 (nth zs 0) 1 (.inr (.inr (.inl ⟨rfl,rfl,rfl,rfl,rfl⟩))) hf ha hl hw hn b0 b1 (by omega) hcap hnil hE (by rw [← hl];exact r1) _ rfl
     ·obtain⟨r1,r2⟩:=headTy_ok h1
      rw [r2]
      exact refInst_all op b a n cap zs w f1 f4 f5 f6 f7 true false (nth zs 0) 0 1 (.inr (.inl ⟨rfl,rfl,rfl,rfl,rfl⟩)) hf ha hl hw hn b0 b1 (by omega) hcap hnil hE (by rw [← hl];exact r1) _ rfl
     ·obtain⟨r1,r2⟩:=headTy_ok h1
      obtain⟨s1,s2⟩:=headRes_ok h3
      rw [r2,s2]
      exact refInst_all op b a n cap zs w f1 f4 f5 f6 f7 true true (nth zs 0) (nth zs 1) 2 (.inl ⟨rfl,rfl,rfl,rfl,rfl⟩) hf ha hl hw hn b0 b1 (by omega) hcap hnil hE (by rw [← hl];exact s1) _ rfl
end Go.Proofs.YtonhnflilfjkbaaGreatDoor
namespace Go.Proofs.YtonhnflilfjkbaaGreatDoor
open Go.RowKit
set_option linter.unusedVariables false
set_option linter.unusedSimpArgs false
set_option maxRecDepth 10000



structure RowT (w : World) (lo g n k : Nat) (l : List InstT) : Prop where
  row : ∃ cs : Array Value, w.heap[g]? = some (.cells cs 38 (0, 0)) ∧ cs.size = n * 4
  lo : lo ≤ g
  each : ∀ j, j < k → ∃ aj cj nj, w.cell? ⟨g, j * 4, none⟩ = some (.int .u16 (nthI l j).1) ∧ w.cell? ⟨g, j * 4 + 1, none⟩ = some (.int .u32 (nthI l j).2.1) ∧ w.cell? ⟨g, j * 4 + 2, none⟩ = some (.int .u32 (nthI l j).2.2.1) ∧ w.cell? ⟨g, j * 4 + 3, none⟩ = some (.slice aj nj cj) ∧
    (nthI l j).2.2.2.length = nj ∧ w.ownsRow (g + 1) 61 3 (.slice aj nj cj) nj ((nthI l j).2.2.2.flatMap argC)
theorem RowT.far {w:World} {lo g n k:Nat} {l:List InstT} (h:RowT w lo g n k l) {b:Nat} (hb:b<g) (i:Nat) (v:Value):RowT (w.setCell ⟨b,i,none⟩ v) lo g n k l:=by
 obtain⟨⟨cs,h1,h2⟩,h0,h3⟩:=h
 have hx:(w.setCell ⟨b,i,none⟩ v).heap[g]?=w.heap[g]?:=Below.heap_setCell _ _ _ _ (by simp;omega)
 have hc:∀ j,(w.setCell ⟨b,i,none⟩ v).cell? ⟨g,j,none⟩=w.cell? ⟨g,j,none⟩:=fun j=>by simp only [World.cell?,hx]
 refine⟨⟨cs,by rw [hx];exact h1,h2⟩,h0,fun j hj=>?_⟩
 obtain⟨aj,cj,nj,c1,c2,c3,c4,c5,c6⟩:=h3 j hj
 exact⟨aj,cj,nj,by rw [hc];exact c1,by rw [hc];exact c2,by rw [hc];exact c3,by rw [hc];exact c4,c5,ownsRow_setCell_below c6 (by simp;omega) _⟩
theorem ArgsV.grownW {w w':World} {a:Option Addr} {l:List ArgT} {row:Option Nat} (h:ArgsV w a l) (hg:w.grownBy w' row) (hne:∀ b off,a=some ⟨b,off,none⟩→row≠some b):ArgsV w' a l:=by
 intro j hj
 obtain⟨b,off,e,h1,h2,h3,h4⟩:=h j hj
 have hb:w'.heap[b]?=w.heap[b]?:=hg.block b h1 (fun e2=>hne b off e e2.symm)
 have hc:∀ i,w'.cell? ⟨b,i,none⟩=w.cell? ⟨b,i,none⟩:=fun i=>by simp only [World.cell?,hb]
 exact⟨b,off,e,Nat.lt_of_lt_of_le h1 hg.size,by rw [hc];exact h2,by rw [hc];exact h3,by rw [hc];exact h4⟩
def cellsI (x:InstT) (a:Option Addr) (n c:Nat):List Value:=[.int .u16 x.1,.int .u32 x.2.1,.int .u32 x.2.2.1,.slice a n c]
def EachW (w:World) (lo:Nat) (ob:Option Nat) (l:List InstT) (cs:List Value):Prop :=
 cs.length=l.length * 4∧∀ j,j<l.length→∃ aj cj nj,cs[j * 4]?=some (.int .u16 (nthI l j).1)∧cs[j * 4+1]?=some (.int .u32 (nthI l j).2.1)∧cs[j * 4+2]?=some (.int .u32 (nthI l j).2.2.1)∧cs[j * 4+3]?=some (.slice aj nj cj)∧(nthI l j).2.2.2.length=nj∧ArgsV w aj (nthI l j).2.2.2∧nj≤cj∧∀ b off,aj=some ⟨b,off,none⟩→lo≤b∧b<w.heap.size∧ob≠some b
theorem eachW_nil (w:World) (lo:Nat) (ob:Option Nat):EachW w lo ob [] []:=⟨rfl,fun j hj=>by simp at hj⟩
theorem EachW.below {w w':World} {lo:Nat} {ob:Option Nat} {l:List InstT} {cs:List Value} (h:EachW w lo ob l cs) (hb:Below w.heap.size w w'):EachW w' lo ob l cs:=by
 refine⟨h.1,fun j hj=>?_⟩
 obtain⟨aj,cj,nj,c0,c1,c2,c3,c4,c5,c6,c7⟩:=h.2 j hj
 exact⟨aj,cj,nj,c0,c1,c2,c3,c4,c5.below hb,c6,fun b off e=>⟨(c7 b off e).1,Nat.lt_of_lt_of_le (c7 b off e).2.1 hb.size,(c7 b off e).2.2⟩⟩
theorem EachW.set {w:World} {lo:Nat} {ob:Option Nat} {l:List InstT} {cs:List Value} (h:EachW w lo ob l cs) {b:Nat} (hb:b<lo) (i:Nat) (u:Value):EachW (w.setCell ⟨b,i,none⟩ u) lo ob l cs:=by
 refine⟨h.1,fun j hj=>?_⟩
 obtain⟨aj,cj,nj,c0,c1,c2,c3,c4,c5,c6,c7⟩:=h.2 j hj
 exact⟨aj,cj,nj,c0,c1,c2,c3,c4,c5.setCell (fun b' off' e h2=>by have:=(c7 b' off' e).1;omega) u,c6,fun b' off' e=>⟨(c7 b' off' e).1,by rw [World.size_setCell];exact (c7 b' off' e).2.1,(c7 b' off' e).2.2⟩⟩
theorem nthI_snocW (l:List InstT) (x:InstT) (j:Nat) (hj:j<l.length):nthI (l++[x]) j=nthI l j:=by simp [nthI,List.getD,List.getElem?_append_left hj]
theorem nthI_lastW (l:List InstT) (x:InstT):nthI (l++[x]) l.length=x:=by simp [nthI,List.getD]
theorem EachW.push {w w':World} {lo:Nat} {ob:Option Nat} {g':Nat} {l:List InstT} {cs:List Value} {x:InstT} {a:Option Addr} {n c:Nat} (h:EachW w lo ob l cs) (hv:∀ b,ob=some b→b<w.heap.size) (ha:ArgsV w a x.2.2.2) (hl:x.2.2.2.length=n) (hc:n≤c) (hb:∀ b off,a=some ⟨b,off,none⟩→lo≤b∧b<w.heap.size∧ob≠some b)
  (hg:w.grownBy w' ob) (hat:ob=some g'∨g'=w.heap.size):EachW w' lo (some g') (l++[x]) (cs++cellsI x a n c):=by
 obtain⟨h1,h2⟩:=h
 have far:∀ b,b<w.heap.size→ob≠some b→some g'≠some b:=fun b hb1 hb2 e=>by
  cases e
  rcases hat with h | h
  ·exact hb2 h
  ·omega
 refine⟨by simp [cellsI,h1];omega,fun j hj=>?_⟩
 rw [List.length_append,List.length_singleton] at hj
 by_cases hjl:j<l.length
 ·rw [nthI_snocW l x j hjl]
  obtain⟨aj,cj,nj,c0,c1,c2,c3,c4,c5,c6,c7⟩:=h2 j hjl
  have e:∀ i,i<cs.length→(cs++cellsI x a n c)[i]?=cs[i]?:=fun i hi=>List.getElem?_append_left hi
  refine⟨aj,cj,nj,by rw [e _ (by omega)];exact c0,by rw [e _ (by omega)];exact c1,by rw [e _ (by omega)];exact c2,by rw [e _ (by omega)];exact c3,c4,c5.grownW hg (fun b off e=>(c7 b off e).2.2),c6,fun b off e=>⟨(c7 b off e).1,Nat.lt_of_lt_of_le (c7 b off e).2.1 hg.size,far b (c7 b off e).2.1 (c7 b off e).2.2⟩⟩
 ·obtain rfl:j=l.length:=by omega
  rw [nthI_lastW]
  have e:∀ i,(cs++cellsI x a n c)[l.length * 4+i]?=(cellsI x a n c)[i]?:=fun i=>by
   rw [List.getElem?_append_right (by omega)];congr 1;omega
  refine⟨a,c,n,by have h0:=e 0;rw [Nat.add_zero] at h0;rw [h0];rfl,by rw [e 1];rfl,by rw [e 2];rfl,by rw [e 3];rfl,hl,ha.grownW hg (fun b off e=>(hb b off e).2.2),hc,fun b off e=>⟨(hb b off e).1,Nat.lt_of_lt_of_le (hb b off e).2.1 hg.size,far b (hb b off e).2.1 (hb b off e).2.2⟩⟩
theorem EachW.view {w:World} {lo lo' T n c:Nat} {a:Option Addr} {l:List InstT} {cs:List Value} (h:EachW w lo' (Value.ownBlock (.slice a n c)) l cs) (ho:w.ownsRow lo T 4 (.slice a n c) n cs) (hl:l.length=n):InstsV w a l:=by
 intro j hj
 obtain⟨aj,cj,nj,c0,c1,c2,c3,c4,c5,c6,c7⟩:=h.2 j hj
 rcases ho.2 with ⟨_,h0⟩ | ⟨g,cap',cur,hv,_,hg,_⟩
 ·omega
 ·cases hv
  have hl4:=h.1
  have e:=fun i (hi:i<n * 4)=>ho.cellAt i hi
  refine⟨g,0,aj,cj,nj,rfl,(Array.getElem?_eq_some_iff.1 hg).1,?_,?_,?_,?_,c4,c5,c6⟩
  ·rw [Nat.zero_add,e _ (by omega)];exact c0
  ·rw [Nat.zero_add,e _ (by omega)];exact c1
  ·rw [Nat.zero_add,e _ (by omega)];exact c2
  ·rw [Nat.zero_add,e _ (by omega)];exact c3
theorem five_setD {W:World} {b c T U:Nat} {x0 x1 x2 y0 y1:Value} (hb:W.heap[b]?=some (.cells #[x0,x1,x2] T (0,0))) (hc:W.heap[c]?=some (.cells #[y0,y1] U (0,0))) (hne:b≠c) (u0 u1 u2 v0 v1:Value) :
  (((((W.setCell ⟨b,0,none⟩ u0).setCell ⟨b,1,none⟩ u1).setCell ⟨b,2,none⟩ u2).setCell ⟨c,0,none⟩ v0).setCell ⟨c,1,none⟩ v1).heap[b]?=some (.cells #[u0,u1,u2] T (0,0)) ∧
  (((((W.setCell ⟨b,0,none⟩ u0).setCell ⟨b,1,none⟩ u1).setCell ⟨b,2,none⟩ u2).setCell ⟨c,0,none⟩ v0).setCell ⟨c,1,none⟩ v1).heap[c]?=some (.cells #[v0,v1] U (0,0)):=by
 have hne':¬ c=b:=fun e=>hne e.symm
 constructor <;> simp [World.setCell,Array.getElem?_modify,hb,hc,hne,hne']
theorem five_belowD {w W:World} (h:Below w.heap.size w W) (u0 u1 u2 v0 v1:Value):Below w.heap.size w (((((W.setCell ⟨w.heap.size,0,none⟩ u0).setCell ⟨w.heap.size,1,none⟩ u1).setCell ⟨w.heap.size,2,none⟩ u2).setCell ⟨w.heap.size+1,0,none⟩ v0).setCell ⟨w.heap.size+1,1,none⟩ v1) :=
 ((((h.setCell (by simp) _).setCell (by simp) _).setCell (by simp) _).setCell (by simp) _).setCell (by simp) _
theorem range_ofD {w:World} {b t:Nat} {cs:List Value} {fr:Nat×Nat} (h:w.heap[b]?=some (.cells cs.toArray t fr)):w.rangeAt b 0 cs:=fun j v hv=>by
 rw [Nat.zero_add]
 simp [World.cell?,h,hv]
theorem then_normalD {K:Act→World→Prop} {Q:Exit→Act→World→Prop} {a:Act} {w:World}:Exit.then K Q .normal a w=K a w:=rfl
theorem four_setD {W:World} {b T:Nat} {x0 x1 x2 x3:Value} (h:W.heap[b]?=some (.cells #[x0,x1,x2,x3] T (0,0))) (u0 u1 u2 u3:Value):((((W.setCell ⟨b,0,none⟩ u0).setCell ⟨b,1,none⟩ u1).setCell ⟨b,2,none⟩ u2).setCell ⟨b,3,none⟩ u3).heap[b]?=some (.cells #[u0,u1,u2,u3] T (0,0)):=by simp [World.setCell,Array.getElem?_modify,h]
theorem three_setD {W:World} {b T:Nat} {x0 x1 x2:Value} (h:W.heap[b]?=some (.cells #[x0,x1,x2] T (0,0))) (u2:Value):(W.setCell ⟨b,2,none⟩ u2).heap[b]?=some (.cells #[x0,x1,u2] T (0,0)):=by simp [World.setCell,Array.getElem?_modify,h]
theorem own_lenD {w:World} {lo e size n:Nat} {v:Value} {xs:List Value} (h:w.ownsRow lo e size v n xs):∃ x c,v=.slice x n c:=by
 obtain⟨_,⟨rfl,rfl⟩ | ⟨g,cap,cur,rfl,_⟩⟩:=h
 ·exact⟨none,0,rfl⟩
 ·exact⟨_,_,rfl⟩
theorem InstI.info:(Tryz.prog.info? 38).map (fun i=>(i.zero,i.size,i.bytes))=some (some (.agg #[.int .u16 0,.int .u32 0,.int .u32 0,.slice none 0 0]),4,40):=by kernel_rfl
structure DcB (w W : World) : Prop where
  rbox : W.heap[w.heap.size]? = some (.cells #[.int .u32 0, .int .u32 0, .slice none 0 0] 25 (0, 0))
  sbox : W.heap[w.heap.size + 1]? = some (.cells #[.int .i64 0, .int .i64 0] 28 (0, 0))
  bel : Below w.heap.size w W
theorem DcB.size {w W:World} (h:DcB w W):w.heap.size+1<W.heap.size:=(Array.getElem?_eq_some_iff.1 h.sbox).1
theorem DcB.below {w W W':World} (h:DcB w W) (hb:Below W.heap.size W W'):DcB w W' :=
 ⟨(hb.block _ (Array.getElem?_eq_some_iff.1 h.rbox).1).trans h.rbox,(hb.block _ (Array.getElem?_eq_some_iff.1 h.sbox).1).trans h.sbox,h.bel.trans (hb.mono h.bel.size)⟩
theorem DcB.far {w W W':World} {ob:Option Nat} (h:DcB w W) (hg:W.grownBy W' ob) (hM:∀ g,ob=some g→w.heap.size+1<g):DcB w W':=by
 have hs:=h.size
 refine⟨(hg.block _ (by omega) (fun e=>by have:=hM _ e.symm;omega)).trans h.rbox,(hg.block _ (by omega) (fun e=>by have:=hM _ e.symm;omega)).trans h.sbox,⟨hg.os.trans h.bel.os,hg.tape.trans h.bel.tape,hg.output.trans h.bel.output,Nat.le_trans h.bel.size hg.size,fun k hk=>(hg.block k (Nat.lt_of_lt_of_le hk h.bel.size) (fun e=>by have:=hM _ e.symm;omega)).trans (h.bel.block k hk)⟩⟩
theorem dcB_new (w:World):DcB w ((w.alloc (.cells #[.int .u32 0,.int .u32 0,.slice none 0 0] 25)).alloc (.cells #[.int .i64 0,.int .i64 0] 28)):=by
 refine⟨?_,?_,((Below.refl _ w).alloc (Nat.le_refl _) _).alloc (by simp) _⟩
 ·rw [Below.heap_alloc _ _ _ (by simp)];exact heap_alloc_new _ _
 ·have:=heap_alloc_new (w.alloc (.cells #[.int .u32 0,.int .u32 0,.slice none 0 0] 25)) (.cells #[.int .i64 0,.int .i64 0] 28);simpa using this
def DecQ (w:World) (bs:List Int) (e:Ending) (w':World):Prop:=Below w.heap.size w w'∧∃ ax m cx,e=.returned (.tuple #[modV (decH bs 2) (decH bs 3) ax m cx,.agg #[.int .i64 (decE bs).1,.int .i64 (decE bs).2]])∧(decL bs).length=m∧InstsV w' ax (decL bs)
theorem decRet {w:World} {bs:List Int} {a':Act} {Z:World} {G B e1 e2:Int} {ax:Option Addr} {m cx:Nat} (q2:slot a'.tmps 2=.pointer (some ⟨w.heap.size,0,none⟩)) (q3:slot a'.tmps 3=.pointer (some ⟨w.heap.size+1,0,none⟩)) (qd:a'.defers=[]) (q5:Z.heap[w.heap.size]?=some (.cells #[.int .u32 G,.int .u32 B,.slice ax m cx] 25 (0,0))) (q6:Z.heap[w.heap.size+1]?=some (.cells #[.int .i64 e1,.int .i64 e2] 28 (0,0))) (q7:Below w.heap.size w Z)
  (h1:decH bs 2=G) (h2:decH bs 3=B) (h3:(decE bs).1=e1) (h4:((decE bs).2:Int)=e2) (h5:(decL bs).length=m) (h6:InstsV Z ax (decL bs)):bodyPost Tryz.prog Tryz.f30 (fun e w'=>DecQ w bs e w') .ret a' Z:=by
 refine bodyPost_ret (v:=.tuple #[.agg #[.int .u32 G,.int .u32 B,.slice ax m cx],.agg #[.int .i64 e1,.int .i64 e2]]) ?_ qd ⟨q7,ax,m,cx,by rw [h1,h2,h3,h4];rfl,h5,h6⟩
 have r5:=run_loadVar_mid (P:=Tryz.prog) Z w.heap.size 0 25 [.int .u32 G,.int .u32 B,.slice ax m cx] _ (range_ofD q5) Tryz.underlying25 rfl (by kernel_rfl)
 have r6:=run_loadVar_mid (P:=Tryz.prog) Z (w.heap.size+1) 0 28 [.int .i64 e1,.int .i64 e2] _ (range_ofD q6) Tryz.underlying28 rfl (by kernel_rfl)
 have hG2:a'.tmps.getD 2 undef=.pointer (some ⟨w.heap.size,0,none⟩):=q2
 have hG3:a'.tmps.getD 3 undef=.pointer (some ⟨w.heap.size+1,0,none⟩):=q3
 simp only [results,Tryz.results30,List.mapM_toArray,List.mapM_cons,List.mapM_nil,hG2,hG3,asAddr,Sem.run_bind,Sem.run_pure,Result.andThen_ok,bind_assoc,pure_bind,Sem.run_map,map_pure,r5,r6]
 rfl
set_option maxHeartbeats 16000000 in
theorem refDec_split (a:Option Addr) (n cap:Nat) (bs:List Int) (w:World) (ha:View .u8 w a bs) (hl:bs.length=n) (hw:Within 256 bs) (hS:splitErr bs≠0) :
  Calls Tryz.prog 30 #[.slice a n cap] w fun e w'=>DecQ w bs e w':=by
 have hD0:=dcB_new w
 have hSp:=refSplit_any a n cap bs _ (ha.below hD0.bel) hl hw
 have HD0:=hide hD0
 have HRET:=hide fun (a':Act) (Z:World) (G B e1 e2:Int) (ax:Option Addr) (m cx:Nat) q2 q3 qd q5 q6 q7 h1 h2 h3 h4 h5 h6=>decRet (w:=w) (bs:=bs) (a':=a') (Z:=Z) (G:=G) (B:=B) (e1:=e1) (e2:=e2) (ax:=ax) (m:=m) (cx:=cx) q2 q3 qd q5 q6 q7 h1 h2 h3 h4 h5 h6
 have HWZ:Hid (Within 4294967296 (splitL bs)):=splitL_within bs hw
 have HE:Hid (decE bs=(splitErr bs,0)):=by show _=_;unfold decE;rw [if_pos hS]
 have HLE:Hid (decL bs=[]):=by show _=_;unfold decL;rw [HE.out,if_neg hS]
 have HHE:Hid (∀ i,decH bs i=0):=fun i=>by unfold decH;rw [HE.out,if_neg hS]
 generalize splitErr bs=se at *
 have hse:(se != 0)=true:=by simpa using hS
 generalize hQQ:(fun (e:Ending) (w':World)=>DecQ w bs e w')=QQ at *
 clear hQQ hD0 ha hl
 go_enter Tryz.func30,Tryz.ntmps30
 go_wp2_with fail
 generalize ((w.alloc (.cells #[.int .u32 0,.int .u32 0,.slice none 0 0] 25)).alloc (.cells #[.int .i64 0,.int .i64 0] 28))=W0 at *
 refine hSp.mono ?_
 rintro e w1 ⟨a1,m1,rfl,hm1,hv1,_,hb1⟩
 have HD1:=hide (HD0.out.below hb1)
 obtain⟨rr,rf⟩:=one_block HD1.out.rbox
 obtain⟨ss,sf⟩:=one_block HD1.out.sbox
 have r0:=rr 0
 have r1:=rr 1
 have r2:=rr 2
 have s0:=ss 0
 have s1:=ss 1
 have HFV:=hide (five_setD HD1.out.rbox HD1.out.sbox (by omega) (.int .u32 0) (.int .u32 0) (.slice none 0 0) (.int .i64 se) (.int .i64 0))
 have HB5:=hide (five_belowD HD1.out.bel (.int .u32 0) (.int .u32 0) (.slice none 0 0) (.int .i64 se) (.int .i64 0))
 clear rr ss
 clear hSp hb1 hv1 hm1
 go_wp2_with fail
 refine HRET.out _ _ 0 0 se 0 none 0 0 ?_ ?_ ?_ HFV.out.1 HFV.out.2 HB5.out (HHE.out 2) (HHE.out 3) (by rw [HE.out]) (by rw [HE.out];rfl) (by rw [HLE.out];rfl) (by rw [HLE.out];exact instsV_nil)
 ·rfl
 ·rfl
 ·rfl
set_option maxHeartbeats 16000000 in
theorem refDec_read (a:Option Addr) (n cap:Nat) (bs:List Int) (w:World) (ha:View .u8 w a bs) (hl:bs.length=n) (hw:Within 256 bs) (hS:splitErr bs=0) (hR:(readE (splitL bs)).1≠0) :
  Calls Tryz.prog 30 #[.slice a n cap] w fun e w'=>DecQ w bs e w':=by
 have hD0:=dcB_new w
 have hSp:=refSplit_any a n cap bs _ (ha.below hD0.bel) hl hw
 have HD0:=hide hD0
 have HRET:=hide fun (a':Act) (Z:World) (G B e1 e2:Int) (ax:Option Addr) (m cx:Nat) q2 q3 qd q5 q6 q7 h1 h2 h3 h4 h5 h6=>decRet (w:=w) (bs:=bs) (a':=a') (Z:=Z) (G:=G) (B:=B) (e1:=e1) (e2:=e2) (ax:=ax) (m:=m) (cx:=cx) q2 q3 qd q5 q6 q7 h1 h2 h3 h4 h5 h6
 have HWZ:Hid (Within 4294967296 (splitL bs)):=splitL_within bs hw
 have hso:splitOut bs=splitL bs:=by unfold splitOut;rw [if_pos hS]
 rw [hS,hso] at hSp
 have HE:Hid (decE bs=readE (splitL bs)):=by show _=_;unfold decE;rw [if_neg (by simp [hS]),if_pos hR]
 have HLE:Hid (decL bs=[]):=by show _=_;unfold decL;rw [HE.out,if_neg hR]
 have HHE:Hid (∀ i,decH bs i=0):=fun i=>by unfold decH;rw [HE.out,if_neg hR]
 have HRD:=hide fun wx ax m cx (h:View .u32 wx ax (splitL bs)) (hm:(splitL bs).length=m)=>refRead_anyN ax m cx (splitL bs) wx h hm HWZ.out
 clear hso hS
 generalize hQQ:(fun (e:Ending) (w':World)=>DecQ w bs e w')=QQ at *
 clear hQQ hD0 ha hl
 go_enter Tryz.func30,Tryz.ntmps30
 go_wp2_with fail
 generalize ((w.alloc (.cells #[.int .u32 0,.int .u32 0,.slice none 0 0] 25)).alloc (.cells #[.int .i64 0,.int .i64 0] 28))=W0 at *
 refine hSp.mono ?_
 rintro e w1 ⟨a1,m1,rfl,hm1,hv1,_,hb1⟩
 have HD1:=hide (HD0.out.below hb1)
 have hrd:=HRD.out w1 a1 m1 m1 hv1 hm1
 generalize readE (splitL bs)=RE at *
 obtain⟨re1,re2⟩:=RE
 have hre:(re1 != 0)=true:=by simpa using hR
 clear hSp hb1 hv1 hm1
 simp only at *
 go_wp2_with fail
 refine hrd.mono ?_
 rintro e w2 ⟨hb2,ax,cx,m,rfl,_,_,_⟩
 have hba:Below w2.heap.size w2 ((w2.alloc (.cells #[.int .u32 (readAt (splitL bs) 2),.int .u32 (readAt (splitL bs) 3)] 106)).alloc (.cells #[.int .i64 re1,.int .i64 (re2:Int)] 28)):=((Below.refl _ w2).alloc (Nat.le_refl _) _).alloc (by simp) _
 have HD2:=hide ((HD1.out.below hb2).below hba)
 have HT:Hid (((w2.alloc (.cells #[.int .u32 (readAt (splitL bs) 2),.int .u32 (readAt (splitL bs) 3)] 106)).alloc (.cells #[.int .i64 re1,.int .i64 (re2:Int)] 28)).heap[w2.heap.size+1]?=some (.cells #[.int .i64 re1,.int .i64 (re2:Int)] 28 (0,0))):=by
  have:=heap_alloc_new (w2.alloc (.cells #[.int .u32 (readAt (splitL bs) 2),.int .u32 (readAt (splitL bs) 3)] 106)) (.cells #[.int .i64 re1,.int .i64 (re2:Int)] 28)
  rw [World.size_alloc] at this
  exact this
 have HW2:Hid (w.heap.size+1<w2.heap.size):=(HD1.out.below hb2).size
 generalize readAt (splitL bs) 2=h2 at *
 generalize readAt (splitL bs) 3=h3 at *
 clear hrd hb2 hba
 go_wp2_with fail
 generalize (w2.alloc (.cells #[.int .u32 h2,.int .u32 h3] 106)).alloc (.cells #[.int .i64 re1,.int .i64 (re2:Int)] 28)=W2 at *
 obtain⟨t0,t1,_⟩:=cell_of_two HT.out
 obtain⟨rr,rf⟩:=one_block HD2.out.rbox
 obtain⟨ss,sf⟩:=one_block HD2.out.sbox
 have r0:=rr 0
 have r1:=rr 1
 have r2:=rr 2
 have s0:=ss 0
 have s1:=ss 1
 have HFV:=hide (five_setD HD2.out.rbox HD2.out.sbox (by omega) (.int .u32 0) (.int .u32 0) (.slice none 0 0) (.int .i64 re1) (.int .i64 (re2:Int)))
 have HB5:=hide (five_belowD HD2.out.bel (.int .u32 0) (.int .u32 0) (.slice none 0 0) (.int .i64 re1) (.int .i64 (re2:Int)))
 clear rr ss
 have hw2:=HW2.out
 have hne1:w2.heap.size+1≠w.heap.size:=by omega
 have hne2:w2.heap.size+1≠w.heap.size+1:=by omega
 clear hw2
 refine wp_norm ?_
 go_region
 all_goals
  rw [onNormal_normal]
  clear r0 r1 r2 s0 s1 rf sf t0 t1
  go_wp2_with fail
  refine HRET.out _ _ 0 0 re1 (re2:Int) none 0 0 ?_ ?_ ?_ ?_ ?_ ?_ (HHE.out 2) (HHE.out 3) (by rw [HE.out]) (by rw [HE.out]) (by rw [HLE.out];rfl) (by rw [HLE.out];exact instsV_nil)
  ·rfl
  ·rfl
  ·rfl
  ·exact HFV.out.1
  ·exact HFV.out.2
  ·first | exact HB5.out.drew | exact HB5.out
set_option maxHeartbeats 16000000 in
theorem refDec_body (a:Option Addr) (n cap:Nat) (bs:List Int) (w:World) (ha:View .u8 w a bs) (hl:bs.length=n) (hw:Within 256 bs) (zs:List Int) (hz:splitL bs=zs) (hS:splitErr bs=0) (hR:(readE zs).1=0) :
  Calls Tryz.prog 30 #[.slice a n cap] w fun e w'=>DecQ w bs e w':=by
 have hD0:=dcB_new w
 have hSp:=refSplit_any a n cap bs _ (ha.below hD0.bel) hl hw
 have HD0:=hide hD0
 have HRET:=hide fun (a':Act) (Z:World) (G B e1 e2:Int) (ax:Option Addr) (m cx:Nat) q2 q3 qd q5 q6 q7 h1 h2 h3 h4 h5 h6=>decRet (w:=w) (bs:=bs) (a':=a') (Z:=Z) (G:=G) (B:=B) (e1:=e1) (e2:=e2) (ax:=ax) (m:=m) (cx:=cx) q2 q3 qd q5 q6 q7 h1 h2 h3 h4 h5 h6
 have HWZ:Hid (Within 4294967296 (splitL bs)):=splitL_within bs hw
 have hso:splitOut bs=zs:=by unfold splitOut;rw [if_pos hS,hz]
 rw [hS,hso] at hSp
 have hR0:readE zs=(0,0):=by
  rcases readE_any zs with h | h
  ·exact h
  ·exact absurd hR h
 have HE:Hid (decE bs=decF zs (nth zs 3) (rest zs 5)):=by show _=_;unfold decE;rw [hz,if_neg (by simp [hS]),if_neg (by simp [hR])]
 have HLE:Hid ((decE bs).1=0→decL bs=instsAt zs (nth zs 3) (rest zs 5)):=fun h=>by unfold decL;rw [if_pos h,hz]
 have HLN:Hid ((decE bs).1≠0→decL bs=[]∧∀ i,decH bs i=0):=fun h=>⟨by unfold decL;rw [if_neg h],fun i=>by unfold decH;rw [if_neg h]⟩
 have HHE:Hid ((decE bs).1=0→∀ i,decH bs i=nth zs i):=fun h i=>by unfold decH;rw [if_pos h,hz]
 rw [hz] at HWZ
 have hrl:readL zs=readR zs:=by unfold readL;rw [if_pos hR]
 have hra:∀ i,readAt zs i=nth zs i:=fun i=>by unfold readAt;rw [if_pos hR]
 obtain⟨hlen1,hh0,_⟩:=readE_ok zs hR
 have hh5:=(head_ok zs hh0).1
 clear hh0
 have HRD:=hide fun wx ax m cx (h:View .u32 wx ax zs) (hm:zs.length=m)=>refRead_anyN ax m cx zs wx h hm HWZ.out
 rw [hR0,hra,hra,hrl] at HRD
 have hb3:=nth_range32 HWZ.out 3
 have HIN:=hide fun (op:Int) (x:Option Addr) (m cx:Nat) (ys:List Int) wx (h:View .u32 wx x ys) (hm:ys.length=m) (hw':Within 4294967296 ys) (hn':4 * m≤140737488351232) (hc:m≤cx) (hnl:x=none→cx=0)=>refInst_any op (nth zs 3) x m cx ys wx h hm hw' hn' hb3.1 hb3.2 hc hnl
 obtain⟨i0,hi,hz0,hz1,hz2⟩:=info_parts InstI.info
 have HI:=hide (And.intro hi (And.intro hz0 (And.intro hz1 hz2)))
 clear hso hS hz hrl hra hR0 hi hz0 hz1 hz2
 generalize hQQ:(fun (e:Ending) (w':World)=>DecQ w bs e w')=QQ at *
 clear hQQ hD0 ha hl
 go_enter Tryz.func30,Tryz.ntmps30
 go_wp2_with fail
 generalize ((w.alloc (.cells #[.int .u32 0,.int .u32 0,.slice none 0 0] 25)).alloc (.cells #[.int .i64 0,.int .i64 0] 28))=W0 at *
 refine hSp.mono ?_
 rintro e w1 ⟨a1,m1,rfl,hm1,hv1,_,hb1⟩
 have HD1:=hide (HD0.out.below hb1)
 have hrd:=HRD.out w1 a1 m1 m1 hv1 hm1
 clear hSp hb1 hv1 hm1 HRD
 simp only at *
 go_wp2_with fail
 refine hrd.mono ?_
 rintro e w2 ⟨hb2,ax,cx,m,rfl,hm2,hrv,hnw⟩
 have hba:Below w2.heap.size w2 (((w2.alloc (.cells #[.int .u32 (nth zs 2),.int .u32 (nth zs 3)] 106)).alloc (.cells #[.int .i64 0,.int .i64 0] 28)).alloc (.cells #[.int .u32 (nth zs 2),.int .u32 (nth zs 3),.slice none 0 0] 25)):=(((Below.refl _ w2).alloc (Nat.le_refl _) _).alloc (by simp) _).alloc (by simp;omega) _
 have HD2:=hide ((HD1.out.below hb2).below hba)
 have HHB:Hid ((((w2.alloc (.cells #[.int .u32 (nth zs 2),.int .u32 (nth zs 3)] 106)).alloc (.cells #[.int .i64 0,.int .i64 0] 28)).alloc (.cells #[.int .u32 (nth zs 2),.int .u32 (nth zs 3),.slice none 0 0] 25)).heap[w2.heap.size]?=some (.cells #[.int .u32 (nth zs 2),.int .u32 (nth zs 3)] 106 (0,0))):=by
  show _=_
  rw [Below.heap_alloc _ _ _ (by simp;omega),Below.heap_alloc _ _ _ (by simp)];exact heap_alloc_new _ _
 have HMB:Hid ((((w2.alloc (.cells #[.int .u32 (nth zs 2),.int .u32 (nth zs 3)] 106)).alloc (.cells #[.int .i64 0,.int .i64 0] 28)).alloc (.cells #[.int .u32 (nth zs 2),.int .u32 (nth zs 3),.slice none 0 0] 25)).heap[w2.heap.size+2]?=some (.cells #[.int .u32 (nth zs 2),.int .u32 (nth zs 3),.slice none 0 0] 25 (0,0))):=by
  have:=heap_alloc_new ((w2.alloc (.cells #[.int .u32 (nth zs 2),.int .u32 (nth zs 3)] 106)).alloc (.cells #[.int .i64 0,.int .i64 0] 28)) (.cells #[.int .u32 (nth zs 2),.int .u32 (nth zs 3),.slice none 0 0] 25)
  rw [World.size_alloc,World.size_alloc] at this
  exact this
 have HSZ:Hid ((((w2.alloc (.cells #[.int .u32 (nth zs 2),.int .u32 (nth zs 3)] 106)).alloc (.cells #[.int .i64 0,.int .i64 0] 28)).alloc (.cells #[.int .u32 (nth zs 2),.int .u32 (nth zs 3),.slice none 0 0] 25)).heap.size=w2.heap.size+3):=by show _=_;simp
 have HW2:Hid (w.heap.size+1<w2.heap.size):=(HD1.out.below hb2).size
 have HRV:=hide hrv
 have HNW:=hide hnw
 have HBA:=hide hba
 have hml:m≤1048576:=by
  have h1:=rest_len zs 5
  have h2:(readR zs).length=(rest zs 5).length:=by unfold readR;simp
  omega
 have HM2:=hide hm2
 clear hrd hb2 hba hrv hnw hm2
 go_wp2_with fail
 generalize ((w2.alloc (.cells #[.int .u32 (nth zs 2),.int .u32 (nth zs 3)] 106)).alloc (.cells #[.int .i64 0,.int .i64 0] 28)).alloc (.cells #[.int .u32 (nth zs 2),.int .u32 (nth zs 3),.slice none 0 0] 25)=W3 at *
 generalize hg2:nth zs 2=z2 at *
 generalize hg3:nth zs 3=z3 at *
 have HG2:=hide hg2
 have HG3:=hide hg3
 clear hg2 hg3
 have hsz3:=HSZ.out
 go_loopw [10,11] (fun x i wr=>∃ (k p:Nat) (out:List Nat) (v:Value) (cs:List Value),k≤m∧i=.int .i64 k∧x=.int .i64 p∧out.length=k∧out++rest zs p=rest zs 5∧(∀ q∈out,(instAt zs z3 q).2=0)∧DcB w wr∧wr.heap[w2.heap.size]?=some (.cells #[.int .u32 z2,.int .u32 z3] 106 (0,0))∧wr.heap[w2.heap.size+2]?=some (.cells #[.int .u32 z2,.int .u32 z3,v] 25 (0,0))∧wr.ownsRow (w2.heap.size+3) 38 4 v k cs∧EachW wr (w2.heap.size+3) v.ownBlock (instsAt zs z3 out) cs∧Below w2.heap.size w2 wr) (fun _ i _=>m - (intOf i).toNat)
 case atStart=>exact⟨0,5,[],.slice none 0 0,[],Nat.zero_le _,rfl,rfl,rfl,rfl,fun q hq=>by simp at hq,HD2.out,HHB.out,HMB.out,World.ownsRow_nil _ _ _ _,eachW_nil _ _ _,HBA.out⟩
 case round =>
  obtain⟨k,p,out,v,cs,hk,rfl,rfl,hol,hout,hzero,hD,hHb,hMb,hO,hE,hB⟩:=hrel
  have HD:=hide hD
  have HHb:=hide hHb
  have HMb:=hide hMb
  have HO:=hide hO
  have HEa:=hide hE
  have HB:=hide hB
  have HOUT:=hide hout
  have HZERO:=hide hzero
  have HOL:=hide hol
  have hsw:=hD.size
  have hMl:=(Array.getElem?_eq_some_iff.1 hMb).1
  clear hE hzero
  by_cases hlt:k<m
  ·have hrne:rest zs p≠[]:=fun e=>by
    have h2:(readR zs).length=(rest zs 5).length:=by unfold readR;simp
    have h3:(out++rest zs p).length=(rest zs 5).length:=by rw [hout]
    rw [e,List.append_nil,hol,← h2,HM2.out] at h3
    omega
   obtain⟨q,tl,hqt⟩:∃ q tl,rest zs p=q :: tl:=by
    cases hr:rest zs p with
    | nil=>exact absurd hr hrne
    | cons q tl=>exact⟨q,tl,rfl⟩
   obtain⟨rfl,hpl,hbad,htl⟩:=rest_cons_at zs p q tl hqt
   have hcp:=cnt_pos hbad
   have hcf:=cnt_fits hbad
   have hml':=midL_len zs (p+1) (cntN zs p - 1) (by omega)
   have hnth:nthR (readR zs) k=rawAt zs p:=by
    unfold readR nthR
    rw [← hout,hqt,List.getD_eq_getElem?_getD,List.getElem?_map,List.getElem?_append_right (by omega),hol,Nat.sub_self]
    rfl
   obtain⟨rb,ro,aj,cj,nj,hax,hrb,c0,c1,hnj,hvj,hncj⟩:=HRV.out k (by rw [HM2.out];exact hlt)
   rw [hnth] at c0 hnj hvj
   have hnil:aj=none→cj=0:=fun e=>HNW.out rb ro k nj cj hax hlt (by rw [c1,e])
   have hnjc:nj=cntN zs p - 1:=by rw [← hnj];exact hml'
   have hyw:Within 4294967296 (rawAt zs p).2:=rawAt_within HWZ.out p
   have HCALL:=hide fun wx (h:Below w2.heap.size w2 wx)=>HIN.out (rawAt zs p).1 aj nj cj (rawAt zs p).2 wx (hvj.below h) hnj hyw (by omega) hncj hnil
   have HIA:Hid (instAt zs z3 p=instI (rawAt zs p).1 (rawAt zs p).2 z3):=rfl
   have HPN:Hid (rest zs p=p :: rest zs (p+cntN zs p)):=by show _=_;rw [hqt,htl]
   have HRB:Hid (rb<w2.heap.size):=hrb
   have c0':=fun w' (h:Below wr.heap.size wr w')=>((hB.trans (h.mono hB.size)).cell (p:=⟨rb,ro+k * 2,none⟩) hrb).trans c0
   have c1':=fun w' (h:Below wr.heap.size wr w')=>((hB.trans (h.mono hB.size)).cell (p:=⟨rb,ro+k * 2+1,none⟩) hrb).trans c1
   have HC0:=hide c0'
   have HC1:=hide c1'
   have HC1W:=hide c1
   have hHl:=(Array.getElem?_eq_some_iff.1 hHb).1
   have HH1:=hide fun w' (h:Below wr.heap.size wr w')=>(one_block ((h.block w2.heap.size hHl).trans HHb.out)).1 1
   have hk0:(0:Int)≤(k:Int):=by omega
   have hki:(k:Int)<(m:Int):=by omega
   generalize hII:instI (rawAt zs p).1 (rawAt zs p).2 z3=II at *
   obtain⟨⟨xo,xt,xr,xl⟩,ie⟩:=II
   generalize (rawAt zs p).1=ro1 at *
   generalize hcn:cntN zs p=cn at *
   have HNJC:=hide hnjc
   subst hax
   unfold RefR instV at HCALL
   simp only at HCALL
   clear hnjc hnj hcn hII hout hol hD hHb hMb hO hB hrne hqt htl hbad hml' hnth hvj hnil hyw c0 c1 c0' c1' hrb hHl
   go_wp2_with fail
   have hC0:Below wr.heap.size wr wr.drew:=below_drew wr
   have hmix:Tryz.prog.follows .mixedOrders=true:=by kernel_rfl
   refine (wpIn_wide (n:=0)).1 ?_
   refine wpIn_normal (wpIn_region_any hmix (wpAnyE_sound (C:=fun w'=>Below wr.heap.size wr w') (E:=fun i=>false) _ _ _ _ ?_))
   change wpAnyE _ _ _ _ _ _ _ _ _ _ _ (World.drew _)
   refine wpAnyE_takeD (i:=0) (some 47) (v:=.slice (some ⟨rb,ro,none⟩) m cx) (fun _=>trivial) (by kernel_rfl) rfl rfl (by kernel_rfl) (by kernel_rfl) (by kernel_rfl) (by kernel_rfl) (fun _ _ _ h=>by cases h.1) hC0 (Or.inl ⟨by rfl,fun w' hC=>by clear hC;go_simp⟩) ?_
   simp only [Act.put,ap1,ap2,ap3]
   refine wpAnyE_takeD (i:=1) (some 48) (v:=.int .i64 (k:Int)) (fun _=>trivial) (by kernel_rfl) rfl rfl (by kernel_rfl) (by kernel_rfl) (by kernel_rfl) (by kernel_rfl) (fun _ _ _ h=>by cases h.1) hC0 (Or.inl ⟨by rfl,fun w' hC=>by clear hC;go_simp⟩) ?_
   simp only [Act.put,ap1,ap2,ap3]
   refine wpAnyE_takeD (i:=2) (some 49) (v:=.pointer (some ⟨rb,ro+k * 2,none⟩)) (fun _=>trivial) (by kernel_rfl) rfl rfl (by kernel_rfl) (by kernel_rfl) (by kernel_rfl) (by kernel_rfl) (fun _ _ _ h=>by cases h.1) hC0 (Or.inl ⟨by rfl,fun w' hC=>by clear hC;go_simp⟩) ?_
   simp only [Act.put,ap1,ap2,ap3]
   refine wpAnyE_takeD (i:=3) (some 50) (v:=.agg #[.int .u16 ro1,.slice aj nj cj]) (fun _=>trivial) (by kernel_rfl) rfl rfl (by kernel_rfl) (by kernel_rfl) (by kernel_rfl) (by kernel_rfl) (fun _ _ _ h=>by cases h.1) hC0 (Or.inl ⟨by rfl,fun w' hC=>by have e0:=HC0.out w' hC;have e1:=HC1.out w' hC;clear hC;go_simp⟩) ?_
   simp only [Act.put,ap1,ap2,ap3]
   refine wpAnyE_takeD (i:=4) (some 51) (v:=.pointer (some ⟨w2.heap.size,1,none⟩)) (fun _=>trivial) (by kernel_rfl) rfl rfl (by kernel_rfl) (by kernel_rfl) (by kernel_rfl) (by kernel_rfl) (fun _ _ _ h=>by cases h.1) hC0 (Or.inl ⟨by rfl,fun w' hC=>by clear hC;go_simp⟩) ?_
   simp only [Act.put,ap1,ap2,ap3]
   refine wpAnyE_takeD (i:=5) (some 52) (v:=.int .u32 z3) (fun _=>trivial) (by kernel_rfl) rfl rfl (by kernel_rfl) (by kernel_rfl) (by kernel_rfl) (by kernel_rfl) (fun _ _ _ h=>by cases h.1) hC0 (Or.inl ⟨by rfl,fun w' hC=>by have e0:=HH1.out w' hC;clear hC;go_simp⟩) ?_
   simp only [Act.put,ap1,ap2,ap3]
   refine wpAnyE_ready (rs:=[6,10]) (by kernel_rfl) (by simp) ?_
   refine AllE.cons rfl (fun K hK=>?_) (AllE.cons rfl (fun K hK=>?_) AllE.nil)
   ·go_simp
    refine⟨trivial,rfl,(callsIn_wide.2 (HCALL.out wr.drew (HB.out.trans ((below_drew wr).mono HB.out.size)))).mono ?_⟩
    rintro e w5 ⟨hb5,a5,m5,c5,rfl,hm5,hn5⟩
    dsimp only
    have hC5:Below wr.heap.size wr w5:=(below_drew wr).trans (show Below wr.heap.size wr.drew w5 from hb5)
    refine hK _ _ (.inr hC5) ?_
    clear hK K
    refine wpAnyE_takeD (i:=7) (some 46) (v:=.tuple #[.agg #[.int .u16 xo,.int .u32 xt,.int .u32 xr,.slice a5 m5 c5],.int .i64 ie]) (fun _=>trivial) (by kernel_rfl) rfl rfl (by kernel_rfl) (by kernel_rfl) (by kernel_rfl) (by kernel_rfl) (fun _ _ _ h=>by cases h.1) hC5 (Or.inl ⟨by rfl,fun w' hC=>by clear hC;go_simp⟩) ?_
    simp only [Act.put,ap1,ap2,ap3]
    refine wpAnyE_takeD (i:=8) (some 54) (v:=.agg #[.int .u16 xo,.int .u32 xt,.int .u32 xr,.slice a5 m5 c5]) (fun _=>trivial) (by kernel_rfl) rfl rfl (by kernel_rfl) (by kernel_rfl) (by kernel_rfl) (by kernel_rfl) (fun _ _ _ h=>by cases h.1) hC5 (Or.inl ⟨by rfl,fun w' hC=>by clear hC;go_simp⟩) ?_
    simp only [Act.put,ap1,ap2,ap3]
    refine wpAnyE_takeD (i:=9) (some 55) (v:=.int .i64 ie) (fun _=>trivial) (by kernel_rfl) rfl rfl (by kernel_rfl) (by kernel_rfl) (by kernel_rfl) (by kernel_rfl) (fun _ _ _ h=>by cases h.1) hC5 (Or.inl ⟨by rfl,fun w' hC=>by clear hC;go_simp⟩) ?_
    simp only [Act.put,ap1,ap2,ap3]
    refine wpAnyE_ready (rs:=[10]) (by kernel_rfl) (by simp) ?_
    refine AllE.cons rfl (fun K hK=>?_) AllE.nil
    go_simp
    refine hK _ _ (.inr (hC5.alloc hC5.size _)) ?_
    clear hK K
    refine wpAnyE_ready (rs:=[11]) (by kernel_rfl) (by simp) ?_
    refine AllE.cons rfl (fun K hK=>?_) AllE.nil
    go_simp
    have hC6:Below wr.heap.size wr (w5.alloc (.cells #[.int .u16 xo,.int .u32 xt,.int .u32 xr,.slice a5 m5 c5] 38)):=hC5.alloc hC5.size _
    refine hK _ _ (.inr hC6) ?_
    clear hK K
    refine wpAnyE_ready (rs:=[12]) (by kernel_rfl) (by simp) ?_
    refine AllE.cons rfl (fun K hK=>?_) AllE.nil
    go_simp
    refine hK _ _ (.inr hC6) ?_
    clear hK K
    refine wpAnyE_done (by kernel_rfl) ⟨rfl,?_⟩ _
    have HX:=hide (heap_alloc_new w5 (.cells #[.int .u16 xo,.int .u32 xt,.int .u32 xr,.slice a5 m5 c5] 38))
    have HAV:=hide (hn5.1.below ((Below.refl w5.heap.size w5).alloc (Nat.le_refl _) (.cells #[.int .u16 xo,.int .u32 xt,.int .u32 xr,.slice a5 m5 c5] 38)))
    have HAL:Hid (∀ b off s,a5=some ⟨b,off,s⟩→wr.heap.size≤b∧b<(w5.alloc (.cells #[.int .u16 xo,.int .u32 xt,.int .u32 xr,.slice a5 m5 c5] 38)).heap.size∧b≠w5.heap.size):=fun b off s e=>by have h9:=hn5.2.1 b off s e;have h8:wr.heap.size≤b:=h9.1;refine⟨h8,by rw [World.size_alloc];omega,by omega⟩
    have HXL:Hid (wr.heap.size≤w5.heap.size∧w5.heap.size<(w5.alloc (.cells #[.int .u16 xo,.int .u32 xt,.int .u32 xr,.slice a5 m5 c5] 38)).heap.size):=⟨hC5.size,by simp⟩
    have HMC:Hid (xl.length=m5∧m5≤c5):=⟨hm5,by have:=hn5.2.2;omega⟩
    have HZ:=hide hC6
    clear hC5 hC6 hb5 hm5 hn5 hC0
    generalize w5.alloc (.cells #[.int .u16 xo,.int .u32 xt,.int .u32 xr,.slice a5 m5 c5] 38)=Z at *
    generalize w5.heap.size=X at *
    rw [then_normalD]
    have hw2:=HW2.out
    have hzs:=HZ.out.size
    have HDz:=hide (HD.out.below HZ.out)
    by_cases hie:ie=0
    ·subst hie
     obtain⟨xx,_⟩:=one_block HX.out
     have x0:=xx 0
     have x1:=xx 1
     have x2:=xx 2
     have x3:=xx 3
     obtain⟨av,cv,hvv⟩:=own_lenD HO.out
     subst hvv
     have kM:=(HZ.out.block (w2.heap.size+2) hMl).trans HMb.out
     obtain⟨mm,mf⟩:=one_block kM
     have mb2:=mm 2
     have HVB:Hid (∀ g,Value.ownBlock (.slice av k cv)=some g→w2.heap.size+3≤g∧g<wr.heap.size):=fun g e=>HO.out.lt g e
     have hbz:Below Z.heap.size Z (Z.alloc (.cells #[.int .u16 xo,.int .u32 xt,.int .u32 xr,.slice a5 m5 c5] 38)):=(Below.refl _ Z).alloc (Nat.le_refl _) _
     have hZ2:=HZ.out.trans (hbz.mono HZ.out.size)
     have N1:Hid ((Z.alloc (.cells #[.int .u16 xo,.int .u32 xt,.int .u32 xr,.slice a5 m5 c5] 38)).ownsRow (w2.heap.size+3) 38 4 (.slice av k cv) k cs):=own_below HO.out hZ2
     have N2:Hid (∀ (j:Nat) (u:Value),([.int .u16 xo,.int .u32 xt,.int .u32 xr,.slice a5 m5 c5]:List Value)[j]?=some u→(Z.alloc (.cells #[.int .u16 xo,.int .u32 xt,.int .u32 xr,.slice a5 m5 c5] 38)).cell? ((⟨Z.heap.size,0,none⟩:Addr).add j)=some u):=World.news_of_block (cs:=#[.int .u16 xo,.int .u32 xt,.int .u32 xr,.slice a5 m5 c5]) (t:=38) (fr:=(0,0)) (heap_alloc_new Z _)
     have N3:Hid (∀ u:Value,u∈([.int .u16 xo,.int .u32 xt,.int .u32 xr,.slice a5 m5 c5]:List Value)→u.oneCell'=true):=by intro u hu;simp at hu;rcases hu with rfl | rfl | rfl | rfl <;> rfl
     have HSZ2:Hid ((Z.alloc (.cells #[.int .u16 xo,.int .u32 xt,.int .u32 xr,.slice a5 m5 c5] 38)).heap.size=Z.heap.size+1):=by show _=_;simp
     have N6:Hid (w2.heap.size+3≤(Z.alloc (.cells #[.int .u16 xo,.int .u32 xt,.int .u32 xr,.slice a5 m5 c5] 38)).heap.size):=by show _≤_;rw [HSZ2.out];omega
     have HE2:=hide (HEa.out.below hZ2)
     have HA2:=hide (HAV.out.below hbz)
     have HM2z:=hide ((hbz.block (w2.heap.size+2) (by omega)).trans kM)
     have HD2z:=hide (HDz.out.below hbz)
     have HH2z:=hide ((hZ2.block w2.heap.size (by omega)).trans HHb.out)
     have HB2z:=hide (HB.out.trans (hZ2.mono HB.out.size))
     clear xx mm hbz hZ2 kM hmix
     go_wp2_with (at_builtin;refine wpList_append_lies _ rfl (.tmp 63) (.tmp 65) 23 rfl (w2.heap.size+3) 38 i0 (.agg #[.int .u16 0,.int .u32 0,.int .u32 0,.slice none 0 0]) 4 40 Tryz.underlying23 HI.out.1 HI.out.2.1 HI.out.2.2.1 HI.out.2.2.2 rfl (by decide) (.slice av k cv) k cs rfl N1.out ⟨Z.heap.size,0,none⟩ 1 1 [.int .u16 xo,.int .u32 xt,.int .u32 xr,.slice a5 m5 c5] rfl rfl N2.out N3.out (by decide) (by unfold maxLen;omega) (by omega) N6.out _ rfl ?_)
     intro g7 cap7 w7 hown7 hgr7 hat7 hlt7
     have hpush:=HE2.out.push (x:=(xo,xt,xr,xl)) (g':=g7) (fun g e=>by have:=(HVB.out g e).2;rw [HSZ2.out];omega) HA2.out HMC.out.1 HMC.out.2 (fun b' off' e=>by have h9:=HAL.out b' off' none e;refine⟨by omega,by rw [HSZ2.out];omega,fun e2=>by have:=(HVB.out _ e2).2;omega⟩) hgr7 (by rcases hat7 with h | h;exact .inl h;exact .inr (by first | exact h | (rw [HSZ2.out];exact h)))
     have hkM7:=(hgr7.block (w2.heap.size+2) (by rw [HSZ2.out];omega) (fun e=>by have:=(HVB.out _ e.symm).1;omega)).trans HM2z.out
     have hkH7:=(hgr7.block w2.heap.size (by rw [HSZ2.out];omega) (fun e=>by have:=(HVB.out _ e.symm).1;omega)).trans HH2z.out
     obtain⟨mm7,mf7⟩:=one_block hkM7
     have mb7:=mm7 2
     have mz7:=mf7 2
     have hg8:=grown_setCell w7 (w2.heap.size+2) 2 (.slice (some ⟨g7,0,none⟩) (k+1) cap7)
     have HD8:=hide ((HD2z.out.far hgr7 (fun g e=>by have:=(HVB.out g e).1;omega)).far hg8 (fun g e=>by simp at e;omega))
     have HM8:=hide (three_setD hkM7 (.slice (some ⟨g7,0,none⟩) (k+1) cap7))
     have HH8:=hide ((hg8.block w2.heap.size (by have:=(Array.getElem?_eq_some_iff.1 hkH7).1;exact this) (by simp)).trans hkH7)
     have HO8:=hide (ownsRow_setCell_below hown7 (a:=⟨w2.heap.size+2,2,none⟩) (by simp) (.slice (some ⟨g7,0,none⟩) (k+1) cap7))
     have HE8:=hide (hpush.set (b:=w2.heap.size+2) (by omega) 2 (.slice (some ⟨g7,0,none⟩) (k+1) cap7))
     have hb7:Below w2.heap.size w2 w7:=⟨hgr7.os.trans HB2z.out.os,hgr7.tape.trans HB2z.out.tape,hgr7.output.trans HB2z.out.output,Nat.le_trans HB2z.out.size hgr7.size,fun i hi=>(hgr7.block i (by rw [HSZ2.out];omega) (fun e=>by have:=(HVB.out _ e.symm).1;omega)).trans (HB2z.out.block i hi)⟩
     have HB8:=hide (hb7.setCell (p:=⟨w2.heap.size+2,2,none⟩) (by simp) (.slice (some ⟨g7,0,none⟩) (k+1) cap7))
     have cw8:=(HB8.out.cell (p:=⟨rb,ro+k * 2+1,none⟩) HRB.out).trans HC1W.out
     have hrb7:rb<w7.heap.size:=by have:=HRB.out;have:=hb7.size;omega
     have hwa:IntKind.i64.wrap ((p:Int)+1)=((p+1:Nat):Int):=by rw [IntKind.wrap_i64];omega
     have hwb:IntKind.i64.wrap (((p+1:Nat):Int)+(nj:Int))=((p+cn:Nat):Int):=by rw [IntKind.wrap_i64];have:=HNJC.out;omega
     have hwc:IntKind.i64.wrap ((p:Int)+1+(nj:Int))=((p+cn:Nat):Int):=by rw [IntKind.wrap_i64];have:=HNJC.out;omega
     have HOUT2:Hid ((out++[p])++rest zs (p+cn)=rest zs 5):=by show _=_;rw [List.append_assoc,List.singleton_append,← HPN.out];exact HOUT.out
     have HZ2:Hid (∀ q∈out++[p],(instAt zs z3 q).2=0):=fun q hq=>by
      rcases List.mem_append.1 hq with h | h
      ·exact HZERO.out q h
      ·rw [List.mem_singleton] at h;subst h;rw [HIA.out]
     have HIS:Hid (instsAt zs z3 (out++[p])=instsAt zs z3 out++[(xo,xt,xr,xl)]):=by show _=_;simp [instsAt,HIA.out]
     clear hown7 hgr7 hat7 hpush hkM7 hkH7 mm7 mf7 hg8 hb7 N1 N2 N3 N6 x0 x1 x2 x3 mb2 mf
     go_wp2_with fail
     go_roundw
     case rel=>exact⟨k+1,p+cn,out++[p],_,_,by omega,by go_num,by first | rfl | go_num,by rw [List.length_append,HOL.out];rfl,HOUT2.out,HZ2.out,HD8.out,HH8.out,HM8.out,HO8.out,by rw [HIS.out];exact HE8.out,HB8.out⟩
     case measure=>simp [intOf];omega
    ·have hie':(ie != 0)=true:=by simpa using hie
     have HEE:Hid (decE bs=(ie,p)):=by
      show _=_
      rw [HE.out,← HOUT.out,decF_app _ _ _ _ HZERO.out,HPN.out,decF,HIA.out,if_pos hie]
     obtain⟨hLN,hHN⟩:=HLN.out (by rw [HEE.out];exact hie)
     have HLN2:=hide hLN
     have HHN2:=hide hHN
     obtain⟨rr,rf⟩:=one_block HDz.out.rbox
     obtain⟨ss,sf⟩:=one_block HDz.out.sbox
     have r0:=rr 0
     have r1:=rr 1
     have r2:=rr 2
     have s0:=ss 0
     have s1:=ss 1
     have HFV:=hide (five_setD HDz.out.rbox HDz.out.sbox (by omega) (.int .u32 0) (.int .u32 0) (.slice none 0 0) (.int .i64 ie) (.int .i64 (p:Int)))
     have HB5:=hide (five_belowD HDz.out.bel (.int .u32 0) (.int .u32 0) (.slice none 0 0) (.int .i64 ie) (.int .i64 (p:Int)))
     clear rr ss hLN hHN hmix
     go_wp2_with fail
     refine HRET.out _ _ 0 0 ie (p:Int) none 0 0 ?_ ?_ ?_ HFV.out.1 HFV.out.2 HB5.out (HHN2.out 2) (HHN2.out 3) (by rw [HEE.out]) (by rw [HEE.out]) (by rw [HLN2.out];rfl) (by rw [HLN2.out];exact instsV_nil)
     ·rfl
     ·rfl
     ·rfl
   ·go_simp
    have hC4:Below wr.heap.size wr (wr.alloc (.cells #[.int .u16 0,.int .u32 0,.int .u32 0,.slice none 0 0] 38)).drew:=((Below.refl _ wr).alloc (Nat.le_refl _) _).drew
    refine hK _ _ (.inr hC4) ?_
    clear hK K
    refine wpAnyE_ready (rs:=[6]) (by kernel_rfl) (by simp) ?_
    refine AllE.cons rfl (fun K hK=>?_) AllE.nil
    have kZ:(wr.alloc (.cells #[.int .u16 0,.int .u32 0,.int .u32 0,.slice none 0 0] 38)).drew.heap[wr.heap.size]?=some (.cells #[.int .u16 0,.int .u32 0,.int .u32 0,.slice none 0 0] 38 (0,0)):=heap_alloc_new wr _
    have hs4:(wr.alloc (.cells #[.int .u16 0,.int .u32 0,.int .u32 0,.slice none 0 0] 38)).drew.heap.size=wr.heap.size+1:=by show (World.alloc _ _).heap.size=_;rw [World.size_alloc]
    generalize (wr.alloc (.cells #[.int .u16 0,.int .u32 0,.int .u32 0,.slice none 0 0] 38)).drew=W4 at *
    go_simp
    refine⟨trivial,rfl,(callsIn_wide.2 (HCALL.out W4 (HB.out.trans (hC4.mono HB.out.size)))).mono ?_⟩
    rintro e w5 ⟨hb5,a5,m5,c5,rfl,hm5,hn5⟩
    dsimp only
    have hC5:Below wr.heap.size wr w5:=hC4.trans (hb5.mono hC4.size)
    refine hK _ _ (.inr hC5) ?_
    clear hK K
    have kZ5:=(hb5.block wr.heap.size (by omega)).trans kZ
    refine wpAnyE_takeD (i:=7) (some 46) (v:=.tuple #[.agg #[.int .u16 xo,.int .u32 xt,.int .u32 xr,.slice a5 m5 c5],.int .i64 ie]) (fun _=>trivial) (by kernel_rfl) rfl rfl (by kernel_rfl) (by kernel_rfl) (by kernel_rfl) (by kernel_rfl) (fun _ _ _ h=>by cases h.1) hC5 (Or.inl ⟨by rfl,fun w' hC=>by clear hC;go_simp⟩) ?_
    simp only [Act.put,ap1,ap2,ap3]
    refine wpAnyE_takeD (i:=8) (some 54) (v:=.agg #[.int .u16 xo,.int .u32 xt,.int .u32 xr,.slice a5 m5 c5]) (fun _=>trivial) (by kernel_rfl) rfl rfl (by kernel_rfl) (by kernel_rfl) (by kernel_rfl) (by kernel_rfl) (fun _ _ _ h=>by cases h.1) hC5 (Or.inl ⟨by rfl,fun w' hC=>by clear hC;go_simp⟩) ?_
    simp only [Act.put,ap1,ap2,ap3]
    refine wpAnyE_takeD (i:=9) (some 55) (v:=.int .i64 ie) (fun _=>trivial) (by kernel_rfl) rfl rfl (by kernel_rfl) (by kernel_rfl) (by kernel_rfl) (by kernel_rfl) (fun _ _ _ h=>by cases h.1) hC5 (Or.inl ⟨by rfl,fun w' hC=>by clear hC;go_simp⟩) ?_
    simp only [Act.put,ap1,ap2,ap3]
    refine wpAnyE_ready (rs:=[11]) (by kernel_rfl) (by simp) ?_
    refine AllE.cons rfl (fun K hK=>?_) AllE.nil
    obtain⟨z,zf⟩:=one_block kZ5
    have z0:=z 0
    have z1:=z 1
    have z2':=z 2
    have z3':=z 3
    have y0:=zf 0
    have y1:=zf 1
    have y2:=zf 2
    have y3:=zf 3
    go_simp
    have hC6:Below wr.heap.size wr ((((w5.setCell ⟨wr.heap.size,0,none⟩ (.int .u16 xo)).setCell ⟨wr.heap.size,1,none⟩ (.int .u32 xt)).setCell ⟨wr.heap.size,2,none⟩ (.int .u32 xr)).setCell ⟨wr.heap.size,3,none⟩ (.slice a5 m5 c5)):=(((hC5.setCell (Nat.le_refl _) _).setCell (Nat.le_refl _) _).setCell (Nat.le_refl _) _).setCell (Nat.le_refl _) _
    refine hK _ _ (.inr hC6) ?_
    clear hK K z z0 z1 z2' z3' zf y0 y1 y2 y3
    refine wpAnyE_ready (rs:=[12]) (by kernel_rfl) (by simp) ?_
    refine AllE.cons rfl (fun K hK=>?_) AllE.nil
    go_simp
    refine hK _ _ (.inr hC6) ?_
    clear hK K
    refine wpAnyE_done (by kernel_rfl) ⟨rfl,?_⟩ _
    have HX:=hide (four_setD kZ5 (.int .u16 xo) (.int .u32 xt) (.int .u32 xr) (.slice a5 m5 c5))
    have hal:∀ b off s,a5=some ⟨b,off,s⟩→wr.heap.size+1≤b∧b<w5.heap.size:=fun b off s e=>by have h9:=hn5.2.1 b off s e;rw [hs4] at h9;exact h9
    have hne5:∀ b' off',a5=some ⟨b',off',none⟩→b'≠wr.heap.size:=fun b' off' e=>by have:=(hal b' off' none e).1;omega
    have HAV:=hide ((((hn5.1.setCell (g:=wr.heap.size) (i:=0) hne5 (.int .u16 xo)).setCell (g:=wr.heap.size) (i:=1) hne5 (.int .u32 xt)).setCell (g:=wr.heap.size) (i:=2) hne5 (.int .u32 xr)).setCell (g:=wr.heap.size) (i:=3) hne5 (.slice a5 m5 c5))
    have HAL:Hid (∀ b off s,a5=some ⟨b,off,s⟩→wr.heap.size≤b∧b<((((w5.setCell ⟨wr.heap.size,0,none⟩ (.int .u16 xo)).setCell ⟨wr.heap.size,1,none⟩ (.int .u32 xt)).setCell ⟨wr.heap.size,2,none⟩ (.int .u32 xr)).setCell ⟨wr.heap.size,3,none⟩ (.slice a5 m5 c5)).heap.size∧b≠wr.heap.size):=fun b off s e=>by have h9:=hal b off s e;simp only [World.size_setCell];omega
    have HXL:Hid (wr.heap.size≤wr.heap.size∧wr.heap.size<((((w5.setCell ⟨wr.heap.size,0,none⟩ (.int .u16 xo)).setCell ⟨wr.heap.size,1,none⟩ (.int .u32 xt)).setCell ⟨wr.heap.size,2,none⟩ (.int .u32 xr)).setCell ⟨wr.heap.size,3,none⟩ (.slice a5 m5 c5)).heap.size):=⟨Nat.le_refl _,by simp only [World.size_setCell];have:=hb5.size;omega⟩
    have HMC:Hid (xl.length=m5∧m5≤c5):=⟨hm5,by have:=hn5.2.2;omega⟩
    have HZ:=hide hC6
    obtain⟨X,hX⟩:∃ X,X=wr.heap.size:=⟨_,rfl⟩
    clear hC5 hC6 hb5 hm5 hn5 hC0 hC4 kZ kZ5 hal
    generalize ((((w5.setCell ⟨wr.heap.size,0,none⟩ (.int .u16 xo)).setCell ⟨wr.heap.size,1,none⟩ (.int .u32 xt)).setCell ⟨wr.heap.size,2,none⟩ (.int .u32 xr)).setCell ⟨wr.heap.size,3,none⟩ (.slice a5 m5 c5))=Z at *
    rw [then_normalD]
    have hw2:=HW2.out
    have hzs:=HZ.out.size
    have HDz:=hide (HD.out.below HZ.out)
    by_cases hie:ie=0
    ·subst hie
     obtain⟨xx,_⟩:=one_block HX.out
     have x0:=xx 0
     have x1:=xx 1
     have x2:=xx 2
     have x3:=xx 3
     obtain⟨av,cv,hvv⟩:=own_lenD HO.out
     subst hvv
     have kM:=(HZ.out.block (w2.heap.size+2) hMl).trans HMb.out
     obtain⟨mm,mf⟩:=one_block kM
     have mb2:=mm 2
     have HVB:Hid (∀ g,Value.ownBlock (.slice av k cv)=some g→w2.heap.size+3≤g∧g<wr.heap.size):=fun g e=>HO.out.lt g e
     have hbz:Below Z.heap.size Z (Z.alloc (.cells #[.int .u16 xo,.int .u32 xt,.int .u32 xr,.slice a5 m5 c5] 38)):=(Below.refl _ Z).alloc (Nat.le_refl _) _
     have hZ2:=HZ.out.trans (hbz.mono HZ.out.size)
     have N1:Hid ((Z.alloc (.cells #[.int .u16 xo,.int .u32 xt,.int .u32 xr,.slice a5 m5 c5] 38)).ownsRow (w2.heap.size+3) 38 4 (.slice av k cv) k cs):=own_below HO.out hZ2
     have N2:Hid (∀ (j:Nat) (u:Value),([.int .u16 xo,.int .u32 xt,.int .u32 xr,.slice a5 m5 c5]:List Value)[j]?=some u→(Z.alloc (.cells #[.int .u16 xo,.int .u32 xt,.int .u32 xr,.slice a5 m5 c5] 38)).cell? ((⟨Z.heap.size,0,none⟩:Addr).add j)=some u):=World.news_of_block (cs:=#[.int .u16 xo,.int .u32 xt,.int .u32 xr,.slice a5 m5 c5]) (t:=38) (fr:=(0,0)) (heap_alloc_new Z _)
     have N3:Hid (∀ u:Value,u∈([.int .u16 xo,.int .u32 xt,.int .u32 xr,.slice a5 m5 c5]:List Value)→u.oneCell'=true):=by intro u hu;simp at hu;rcases hu with rfl | rfl | rfl | rfl <;> rfl
     have HSZ2:Hid ((Z.alloc (.cells #[.int .u16 xo,.int .u32 xt,.int .u32 xr,.slice a5 m5 c5] 38)).heap.size=Z.heap.size+1):=by show _=_;simp
     have N6:Hid (w2.heap.size+3≤(Z.alloc (.cells #[.int .u16 xo,.int .u32 xt,.int .u32 xr,.slice a5 m5 c5] 38)).heap.size):=by show _≤_;rw [HSZ2.out];omega
     have HE2:=hide (HEa.out.below hZ2)
     have HA2:=hide (HAV.out.below hbz)
     have HM2z:=hide ((hbz.block (w2.heap.size+2) (by omega)).trans kM)
     have HD2z:=hide (HDz.out.below hbz)
     have HH2z:=hide ((hZ2.block w2.heap.size (by omega)).trans HHb.out)
     have HB2z:=hide (HB.out.trans (hZ2.mono HB.out.size))
     clear xx mm hbz hZ2 kM hmix
     go_wp2_with (at_builtin;refine wpList_append_lies _ rfl (.tmp 63) (.tmp 65) 23 rfl (w2.heap.size+3) 38 i0 (.agg #[.int .u16 0,.int .u32 0,.int .u32 0,.slice none 0 0]) 4 40 Tryz.underlying23 HI.out.1 HI.out.2.1 HI.out.2.2.1 HI.out.2.2.2 rfl (by decide) (.slice av k cv) k cs rfl N1.out ⟨Z.heap.size,0,none⟩ 1 1 [.int .u16 xo,.int .u32 xt,.int .u32 xr,.slice a5 m5 c5] rfl rfl N2.out N3.out (by decide) (by unfold maxLen;omega) (by omega) N6.out _ rfl ?_)
     intro g7 cap7 w7 hown7 hgr7 hat7 hlt7
     have hpush:=HE2.out.push (x:=(xo,xt,xr,xl)) (g':=g7) (fun g e=>by have:=(HVB.out g e).2;rw [HSZ2.out];omega) HA2.out HMC.out.1 HMC.out.2 (fun b' off' e=>by have h9:=HAL.out b' off' none e;refine⟨by omega,by rw [HSZ2.out];omega,fun e2=>by have:=(HVB.out _ e2).2;omega⟩) hgr7 (by rcases hat7 with h | h;exact .inl h;exact .inr (by first | exact h | (rw [HSZ2.out];exact h)))
     have hkM7:=(hgr7.block (w2.heap.size+2) (by rw [HSZ2.out];omega) (fun e=>by have:=(HVB.out _ e.symm).1;omega)).trans HM2z.out
     have hkH7:=(hgr7.block w2.heap.size (by rw [HSZ2.out];omega) (fun e=>by have:=(HVB.out _ e.symm).1;omega)).trans HH2z.out
     obtain⟨mm7,mf7⟩:=one_block hkM7
     have mb7:=mm7 2
     have mz7:=mf7 2
     have hg8:=grown_setCell w7 (w2.heap.size+2) 2 (.slice (some ⟨g7,0,none⟩) (k+1) cap7)
     have HD8:=hide ((HD2z.out.far hgr7 (fun g e=>by have:=(HVB.out g e).1;omega)).far hg8 (fun g e=>by simp at e;omega))
     have HM8:=hide (three_setD hkM7 (.slice (some ⟨g7,0,none⟩) (k+1) cap7))
     have HH8:=hide ((hg8.block w2.heap.size (by have:=(Array.getElem?_eq_some_iff.1 hkH7).1;exact this) (by simp)).trans hkH7)
     have HO8:=hide (ownsRow_setCell_below hown7 (a:=⟨w2.heap.size+2,2,none⟩) (by simp) (.slice (some ⟨g7,0,none⟩) (k+1) cap7))
     have HE8:=hide (hpush.set (b:=w2.heap.size+2) (by omega) 2 (.slice (some ⟨g7,0,none⟩) (k+1) cap7))
     have hb7:Below w2.heap.size w2 w7:=⟨hgr7.os.trans HB2z.out.os,hgr7.tape.trans HB2z.out.tape,hgr7.output.trans HB2z.out.output,Nat.le_trans HB2z.out.size hgr7.size,fun i hi=>(hgr7.block i (by rw [HSZ2.out];omega) (fun e=>by have:=(HVB.out _ e.symm).1;omega)).trans (HB2z.out.block i hi)⟩
     have HB8:=hide (hb7.setCell (p:=⟨w2.heap.size+2,2,none⟩) (by simp) (.slice (some ⟨g7,0,none⟩) (k+1) cap7))
     have cw8:=(HB8.out.cell (p:=⟨rb,ro+k * 2+1,none⟩) HRB.out).trans HC1W.out
     have hrb7:rb<w7.heap.size:=by have:=HRB.out;have:=hb7.size;omega
     have hwa:IntKind.i64.wrap ((p:Int)+1)=((p+1:Nat):Int):=by rw [IntKind.wrap_i64];omega
     have hwb:IntKind.i64.wrap (((p+1:Nat):Int)+(nj:Int))=((p+cn:Nat):Int):=by rw [IntKind.wrap_i64];have:=HNJC.out;omega
     have hwc:IntKind.i64.wrap ((p:Int)+1+(nj:Int))=((p+cn:Nat):Int):=by rw [IntKind.wrap_i64];have:=HNJC.out;omega
     have HOUT2:Hid ((out++[p])++rest zs (p+cn)=rest zs 5):=by show _=_;rw [List.append_assoc,List.singleton_append,← HPN.out];exact HOUT.out
     have HZ2:Hid (∀ q∈out++[p],(instAt zs z3 q).2=0):=fun q hq=>by
      rcases List.mem_append.1 hq with h | h
      ·exact HZERO.out q h
      ·rw [List.mem_singleton] at h;subst h;rw [HIA.out]
     have HIS:Hid (instsAt zs z3 (out++[p])=instsAt zs z3 out++[(xo,xt,xr,xl)]):=by show _=_;simp [instsAt,HIA.out]
     clear hown7 hgr7 hat7 hpush hkM7 hkH7 mm7 mf7 hg8 hb7 N1 N2 N3 N6 x0 x1 x2 x3 mb2 mf
     go_wp2_with fail
     go_roundw
     case rel=>exact⟨k+1,p+cn,out++[p],_,_,by omega,by go_num,by first | rfl | go_num,by rw [List.length_append,HOL.out];rfl,HOUT2.out,HZ2.out,HD8.out,HH8.out,HM8.out,HO8.out,by rw [HIS.out];exact HE8.out,HB8.out⟩
     case measure=>simp [intOf];omega
    ·have hie':(ie != 0)=true:=by simpa using hie
     have HEE:Hid (decE bs=(ie,p)):=by
      show _=_
      rw [HE.out,← HOUT.out,decF_app _ _ _ _ HZERO.out,HPN.out,decF,HIA.out,if_pos hie]
     obtain⟨hLN,hHN⟩:=HLN.out (by rw [HEE.out];exact hie)
     have HLN2:=hide hLN
     have HHN2:=hide hHN
     obtain⟨rr,rf⟩:=one_block HDz.out.rbox
     obtain⟨ss,sf⟩:=one_block HDz.out.sbox
     have r0:=rr 0
     have r1:=rr 1
     have r2:=rr 2
     have s0:=ss 0
     have s1:=ss 1
     have HFV:=hide (five_setD HDz.out.rbox HDz.out.sbox (by omega) (.int .u32 0) (.int .u32 0) (.slice none 0 0) (.int .i64 ie) (.int .i64 (p:Int)))
     have HB5:=hide (five_belowD HDz.out.bel (.int .u32 0) (.int .u32 0) (.slice none 0 0) (.int .i64 ie) (.int .i64 (p:Int)))
     clear rr ss hLN hHN hmix
     go_wp2_with fail
     refine HRET.out _ _ 0 0 ie (p:Int) none 0 0 ?_ ?_ ?_ HFV.out.1 HFV.out.2 HB5.out (HHN2.out 2) (HHN2.out 3) (by rw [HEE.out]) (by rw [HEE.out]) (by rw [HLN2.out];rfl) (by rw [HLN2.out];exact instsV_nil)
     ·rfl
     ·rfl
     ·rfl
  ·obtain rfl:k=m:=by omega
   have hrest:rest zs p=[]:=by
    have h2:(readR zs).length=(rest zs 5).length:=by unfold readR;simp
    have h3:(out++rest zs p).length=(rest zs 5).length:=by rw [hout]
    rw [List.length_append,hol,← h2,HM2.out] at h3
    exact List.eq_nil_of_length_eq_zero (by omega)
   have hall:rest zs 5=out:=by rw [← hout,hrest,List.append_nil]
   have HE0:Hid (decE bs=(0,0)):=by show _=_;rw [HE.out,hall];exact decF_all _ _ _ HZERO.out
   obtain⟨ax',cx',hv'⟩:∃ ax' cx',v=.slice ax' k cx':=own_lenD hO
   subst hv'
   have hvw:=HEa.out.view hO (by rw [show (instsAt zs z3 out).length=out.length by simp [instsAt]];exact hol)
   have HLL:Hid (decL bs=instsAt zs z3 out):=by show _=_;rw [HLE.out (by rw [HE0.out]),hall]
   obtain⟨mm,_⟩:=one_block hMb
   have q0:=mm 0
   have q1:=mm 1
   have q2:=mm 2
   obtain⟨rr,rf⟩:=one_block hD.rbox
   obtain⟨ss,sf⟩:=one_block hD.sbox
   have r0:=rr 0
   have r1:=rr 1
   have r2:=rr 2
   have s0:=ss 0
   have s1:=ss 1
   have HFV:=hide (five_setD hD.rbox hD.sbox (by omega) (.int .u32 z2) (.int .u32 z3) (.slice ax' k cx') (.int .i64 0) (.int .i64 0))
   have HB5:=hide (five_belowD hD.bel (.int .u32 z2) (.int .u32 z3) (.slice ax' k cx') (.int .i64 0) (.int .i64 0))
   have hw2:=HW2.out
   have HVF:=hide ((((((HEa.out.set (b:=w.heap.size) (by omega) 0 (.int .u32 z2)).set (b:=w.heap.size) (by omega) 1 (.int .u32 z3)).set (b:=w.heap.size) (by omega) 2 (.slice ax' k cx')).set (b:=w.heap.size+1) (by omega) 0 (.int .i64 0)).set (b:=w.heap.size+1) (by omega) 1 (.int .i64 0)).view (ownsRow_setCell_below (ownsRow_setCell_below (ownsRow_setCell_below (ownsRow_setCell_below (ownsRow_setCell_below hO (a:=⟨w.heap.size,0,none⟩) (by simp;omega) _) (a:=⟨w.heap.size,1,none⟩) (by simp;omega) _) (a:=⟨w.heap.size,2,none⟩) (by simp;omega) _) (a:=⟨w.heap.size+1,0,none⟩) (by simp;omega) _) (a:=⟨w.heap.size+1,1,none⟩) (by simp;omega) _) (by simp [instsAt];exact hol))
   have hne1:w2.heap.size+2≠w.heap.size:=by omega
   have hne2:w2.heap.size+2≠w.heap.size+1:=by omega
   clear hMb hD hO hHb mm rr ss hvw hB hout hrest hall
   go_wp2_with fail
   refine HRET.out _ _ z2 z3 0 0 ax' k cx' ?_ ?_ ?_ HFV.out.1 HFV.out.2 HB5.out (by rw [HHE.out (by rw [HE0.out]),HG2.out]) (by rw [HHE.out (by rw [HE0.out]),HG3.out]) (by rw [HE0.out]) (by rw [HE0.out];rfl) (by rw [HLL.out];simp [instsAt];exact HOL.out) (by rw [HLL.out];exact HVF.out)
   ·rfl
   ·rfl
   ·rfl
theorem refDecode4_any (a:Option Addr) (n cap:Nat) (bs:List Int) (w:World) (ha:View .u8 w a bs) (hl:bs.length=n) (hw:Within 256 bs) :
  Calls Tryz.prog 30 #[.slice a n cap] w fun e w'=>DecQ w bs e w':=by
 by_cases hS:splitErr bs=0
 ·by_cases hR:(readE (splitL bs)).1=0
  ·exact refDec_body a n cap bs w ha hl hw (splitL bs) rfl hS hR
  ·exact refDec_read a n cap bs w ha hl hw hS hR
 ·exact refDec_split a n cap bs w ha hl hw hS
end Go.Proofs.YtonhnflilfjkbaaGreatDoor
