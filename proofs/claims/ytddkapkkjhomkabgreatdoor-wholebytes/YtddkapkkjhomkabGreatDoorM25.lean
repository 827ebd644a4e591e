/-
  Texts laid together in one: LexTok1, LexTokens, AsmRowOf, AsmBuilder, AsmAddInst, AsmLineF.
-/
import Derived.Test.YtddkapkkjhomkabGreatDoorM24
import Derived.WalkSpells
import Derived.WalkMore
import Derived.BigRegion
import Derived.Deep.RegionWith
import Derived.Test.YtddkapkkjhomkabGreatDoorProg
import Derived.Test.YtddkapkkjhomkabGreatDoorM16
import Derived.Test.YtddkapkkjhomkabGreatDoorM22
import Derived.Test.YtddkapkkjhomkabGreatDoorM19
import Derived.Test.YtddkapkkjhomkabGreatDoorM17
import Derived.Test.YtddkapkkjhomkabGreatDoorM20
import Derived.Deep.RegionLaw
import Derived.Deep.AppendLies
import Derived.Test.YtddkapkkjhomkabGreatDoorM23
import Derived.Test.YtddkapkkjhomkabGreatDoorM07
set_option linter.unusedVariables false
set_option linter.unusedSimpArgs false
set_option maxRecDepth 10000
namespace Go.Proofs.YtddkapkkjhomkabGreatDoor
open Go.RowKit
set_option maxRecDepth 100000
attribute [local go_sem] jumps_normal jumps_exit jumps_ret jumps_panic jumps_goto onNormal_normal

def tokIf (l:List Int) (K:Int) (fr p0 e:Nat):TokR:=if tokOk K (cutL l fr e)=true then consR (K,strOfNums (cutL l fr e),(p0:Int)) (toksP l e) else ([],62,(p0:Int))
theorem kind_cases (c:Int):(kindL c=3∧letterB c=true) ∨ (kindL c=4∧digitB c=true∧letterB c=false) ∨ (kindL c=2∧blankB c=true) ∨ (kindL c=5∧c=37) ∨ (kindL c=6∧c=45) ∨ (kindL c=7∧c=34) ∨ (kindL c=9∧c=61) ∨ (kindL c=10∧c=59) ∨ ((kindL c=8 ∨ kindL c=1)∧letterB c=false∧digitB c=false∧blankB c=false∧c≠37∧c≠45∧c≠34∧c≠61∧c≠59):=by
 cases h1:letterB c
 ·cases h2:digitB c
  ·cases h3:blankB c
   ·by_cases h4:c=37
    ·subst h4;simp [kindL,letterB,digitB,blankB]
    ·by_cases h5:c=45
     ·subst h5;simp [kindL,letterB,digitB,blankB]
     ·by_cases h6:c=34
      ·subst h6;simp [kindL,letterB,digitB,blankB]
      ·by_cases h7:c=61
       ·subst h7;simp [kindL,letterB,digitB,blankB]
       ·by_cases h8:c=59
        ·subst h8;simp [kindL,letterB,digitB,blankB]
        ·by_cases h9:c=92
         ·subst h9;simp [kindL,letterB,digitB,blankB]
         ·simp [kindL,h1,h2,h3,h4,h5,h6,h7,h8,h9]
   ·simp [kindL,h1,h2,h3]
  ·simp [kindL,h1,h2]
 ·simp [kindL,h1]
theorem letter_not {c:Int} (h:letterB c=true):blankB c=false∧c≠59:=by
 refine ⟨?_,fun e=>by subst e;exact absurd h (by decide)⟩
 cases e:blankB c
 ·rfl
 ·simp only [blankB,Bool.or_eq_true,beq_iff_eq] at e
  rcases e with (rfl | rfl) | rfl <;> exact absurd h (by decide)
theorem digit_not {c:Int} (h:digitB c=true):blankB c=false∧c≠59∧c≠37:=by
 simp only [digitB,decide_eq_true_eq] at h
 refine ⟨?_,by omega,by omega⟩
 cases e:blankB c
 ·rfl
 ·simp only [blankB,Bool.or_eq_true,beq_iff_eq] at e
  omega
theorem cut_len (l:List Int) (a b:Nat) (h:b≤l.length):(cutL l a b).length=b - a:=by
 unfold cutL;rw [List.length_drop,List.length_take];omega
theorem nth_cut (l:List Int) (a b i:Nat) (h:a+i < b):nth (cutL l a b) i=nth l (a+i):=by
 unfold cutL nth
 simp [List.getD,List.getElem?_drop,List.getElem?_take,h]
theorem runE_run {l:List Int} {p i:Nat} (h:p≤i) (hi:i < runE l p):runB (nth l i)=true:=by
 have key:∀ (m:List Int) (j:Nat),j < (m.takeWhile runB).length→runB (nth m j)=true:=by
  intro m
  induction m with
  | nil=>intro j hj;simp at hj
  | cons c m ih =>
   intro j hj
   by_cases hc:runB c=true
   ·rw [List.takeWhile_cons_of_pos hc] at hj
    cases j with
    | zero=>exact hc
    | succ j =>
     have:=ih j (by simpa using hj)
     simpa [nth,List.getD] using this
   ·rw [List.takeWhile_cons_of_neg hc] at hj;simp at hj
 unfold runE at hi
 have:=key (l.drop p) (i - p) (by omega)
 have e:nth (l.drop p) (i - p)=nth l i:=by
  unfold nth;simp [List.getD,List.getElem?_drop,show p+(i - p)=i by omega]
 rwa [e] at this
theorem runE_stop (l:List Int) (p:Nat) (h:runE l p < l.length):runB (nth l (runE l p))=false:=by
 have key:∀ (m:List Int),(m.takeWhile runB).length < m.length→runB (nth m (m.takeWhile runB).length)=false:=by
  intro m
  induction m with
  | nil=>intro h;simp at h
  | cons c m ih =>
   intro h
   by_cases hc:runB c=true
   ·rw [List.takeWhile_cons_of_pos hc] at h ⊢
    have:=ih (by simpa using h)
    simpa [nth,List.getD] using this
   ·rw [List.takeWhile_cons_of_neg hc];simpa [nth,List.getD] using hc
 have h':=h
 unfold runE at h
 have:=key (l.drop p) (by rw [List.length_drop];omega)
 have e:nth (l.drop p) ((l.drop p).takeWhile runB).length=nth l (runE l p):=by
  unfold nth runE;simp [List.getD,List.getElem?_drop]
 rwa [e] at this
theorem runE_step {l:List Int} {p:Nat} (h:p < l.length) (hr:runB (nth l p)=true):runE l p=runE l (p+1):=by
 refine runE_spec (Nat.le_trans (by omega) (runE_ge l (p+1))) (runE_le l (p+1) (by omega)) (fun i h1 h2=>?_) ?_
 ·by_cases e:i=p
  ·subst e;exact hr
  ·exact runE_run (by omega) h2
 ·rcases Nat.lt_or_ge (runE l (p+1)) l.length with h' | h'
  ·exact .inr (runE_stop _ _ h')
  ·exact .inl (by have:=runE_le l (p+1) (by omega);omega)
theorem word_run {l:List Int} {p:Nat} (h:p < l.length) (hc:letterB (nth l p)=true):wordB (cutL l p (runE l p))=true:=by
 have hr:runB (nth l p)=true:=by simp [runB,hc]
 have h1:=runE_gt h hr
 have h2:=runE_le l p (by omega)
 have hl:=cut_len l p (runE l p) h2
 rw [word_all (fun e=>by rw [e] at hl;simp at hl;omega) (fun k hk=>?_),nth_cut l p (runE l p) 0 (by omega)]
 ·exact hc
 ·rw [hl] at hk
  rw [nth_cut l p (runE l p) k (by omega)]
  exact runE_run (p:=p) (by omega) (by omega)
theorem toks_letter {l:List Int} {p:Nat} (h:p < l.length) (hc:letterB (nth l p)=true):toksP l p=tokIf l 1 p p (runE l p):=by
 obtain ⟨h1,h2⟩:=letter_not hc
 have ht:tokP l p=.inr (1,cutL l p (runE l p),runE l p):=by unfold tokP;rw [if_pos hc]
 rw [toksP_tok h h2 h1 ht,tokIf,if_pos]
 exact word_run h hc
theorem toks_percent {l:List Int} {p:Nat} (h:p < l.length) (hc:nth l p=37):toksP l p=tokIf l 2 (p+1) p (runE l (p+1)):=by
 have h1:blankB (nth l p)=false:=by rw [hc];rfl
 have h2:nth l p≠59:=by rw [hc];decide
 have h3:¬ letterB (nth l p)=true:=by rw [hc];decide
 unfold tokIf
 cases e:plainB (cutL l (p+1) (runE l (p+1)))
 ·rw [if_neg (by show ¬ plainB _=true;simp [e])]
  exact toksP_err h h2 h1 (by unfold tokP;rw [if_neg h3,if_pos hc,if_neg (by simp [e])])
 ·rw [if_pos (by show plainB _=true;exact e)]
  exact toksP_tok h h2 h1 (by unfold tokP;rw [if_neg h3,if_pos hc,if_pos e])
theorem toks_number {l:List Int} {p:Nat} (h:p < l.length) (hl:letterB (nth l p)=false) (hb:blankB (nth l p)=false) (hs:nth l p≠59) (hp:nth l p≠37) (hc:(digitB (nth l p) || decide (nth l p=45))=true):toksP l p=tokIf l 3 p p (runE l (p+1)):=by
 unfold tokIf
 cases e:numB (cutL l p (runE l (p+1)))
 ·rw [if_neg (by show ¬ numB _=true;simp [e])]
  exact toksP_err h hs hb (by unfold tokP;rw [if_neg (by simp [hl]),if_neg hp,if_pos hc,if_neg (by simp [e])])
 ·rw [if_pos (by show numB _=true;exact e)]
  exact toksP_tok h hs hb (by unfold tokP;rw [if_neg (by simp [hl]),if_neg hp,if_pos hc,if_pos e])
theorem toks_quote {l:List Int} {p:Nat} (h:p < l.length) (hc:nth l p=34):toksP l p=match quotP l (p+1) with
  | some (t,q)=>consR (4,strOfNums t,(p:Int)) (toksP l q)
  | none=>([],61,(p:Int)):=by
 have h1:blankB (nth l p)=false:=by rw [hc];rfl
 have h2:nth l p≠59:=by rw [hc];decide
 have h3:¬ letterB (nth l p)=true:=by rw [hc];decide
 have h4:¬ nth l p=37:=by rw [hc];decide
 have h5:¬ (digitB (nth l p) || decide (nth l p=45))=true:=by rw [hc];decide
 cases e:quotP l (p+1) with
 | none=>exact toksP_err h h2 h1 (by unfold tokP;rw [if_neg h3,if_neg h4,if_neg h5,if_pos hc,e])
 | some r =>
  obtain ⟨t,q⟩:=r
  exact toksP_tok h h2 h1 (by unfold tokP;rw [if_neg h3,if_neg h4,if_neg h5,if_pos hc,e])
theorem toks_equal {l:List Int} {p:Nat} (h:p < l.length) (hc:nth l p=61):toksP l p=tokIf l 5 p p (p+1):=by
 have h1:blankB (nth l p)=false:=by rw [hc];rfl
 have h2:nth l p≠59:=by rw [hc];decide
 have h3:¬ letterB (nth l p)=true:=by rw [hc];decide
 have h4:¬ nth l p=37:=by rw [hc];decide
 have h5:¬ (digitB (nth l p) || decide (nth l p=45))=true:=by rw [hc];decide
 have h6:¬ nth l p=34:=by rw [hc];decide
 have ec:cutL l p (p+1)=[61]:=by
  unfold cutL
  rw [take_snoc l p h,hc,List.drop_append_of_le_length (by rw [List.length_take];omega),List.drop_eq_nil_of_le (by rw [List.length_take];omega)];rfl
 rw [toksP_tok h h2 h1 (by unfold tokP;rw [if_neg h3,if_neg h4,if_neg h5,if_neg h6,if_pos hc]),tokIf,ec,if_pos (by decide)]
theorem toks_stray {l:List Int} {p:Nat} (h:p < l.length) (h1:letterB (nth l p)=false) (h2:digitB (nth l p)=false) (h3:blankB (nth l p)=false) (h4:nth l p≠37) (h5:nth l p≠45) (h6:nth l p≠34) (h7:nth l p≠61) (h8:nth l p≠59):toksP l p=([],60,(p:Int)) :=
 toksP_err h h8 h3 (by unfold tokP;rw [if_neg (by simp [h1]),if_neg h4,if_neg (by simp [h2,h5]),if_neg h6,if_neg h7])
set_option maxHeartbeats 8000000 in
theorem tok_between (b:Nat) (s:ByteArray) (w:World) (R:TokR) (Q:Exit→Act→World→Prop) (hb:b < w.heap.size) (hs:32 * s.size+64≤140737488351232) (hQ:TokQ b s w R Q)
  (n:Nat) (a:Act) (w1:World) (hJ:TokJ b s w R 0 a w1) (hN:TokM b s w 0 a w1≤n) :
  (behind (findLabel (inScope (Tryz.f34.body.getD .skip)) 0)).wp Tryz.prog (jumps (fun l' a' w'=>TokJ b s w R l' a' w'∧TokM b s w l' a' w' < n) Q) a w1:=by
 obtain ⟨p,acc,v,x,y,z,⟨f,rfl,hsz,h0,h3,h4,h5⟩,hS,hB,hR,hacc⟩:=hJ
 conv=>arg 2;whnf
 rw [frame99 f hsz,h0,h3,h4,h5]
 clear h0 h3 h4 h5 hsz
 obtain ⟨x0,x1,x2,xf⟩:=hB.cells
 obtain ⟨s0,s1,s2,s3,sf⟩:=scn_cells hS.scn
 have hle:=hS.at_le
 have HM:Hid ((s.size - p) * (s.size+3)+(s.size+2)≤n):=by
  unfold TokM at hN
  rw [if_pos rfl,pos_scn hS.scn] at hN
  exact hN
 have f0:=xf 0
 have f1:=xf 1
 have f2:=xf 2
 have hS2:=TokS.drew (((hS.box hb 0 (.int .u8 0)).box hb 1 (.string ⟨#[]⟩)).box hb 2 (.int .i64 p))
 have hB2:=BoxT.drew (((hB.set0 (.int .u8 0)).set1 (.string ⟨#[]⟩)).set2 (.int .i64 p))
 have HS2:=hide (hS2)
 have HB2:=hide (hB2)
 have HR:Hid (R=joinR acc (toksP (strI s) p)):=hR
 have HLen:Hid ((strI s).length=s.size):=strI_len s
 clear hS hB hR hN xf sf hS2 hB2
 go_wp2_with fail
 refine wp_norm ?_
 go_region
 rw [onNormal_normal]
 have hS3:=HS2.out
 have hB3:=HB2.out
 clear HS2 HB2 x0 x1 x2 f0 f1 f2 s0 s1 s2 s3
 generalize (((w1.setCell ⟨w.heap.size+1,0,none⟩ (.int .u8 0)).setCell ⟨w.heap.size+1,1,none⟩ (.string ⟨#[]⟩)).setCell ⟨w.heap.size+1,2,none⟩ (.int .i64 p)).drew=w2 at hS3 hB3 ⊢
 obtain ⟨x0,x1,x2,xf⟩:=hB3.cells
 obtain ⟨s0,s1,s2,s3,sf⟩:=scn_cells hS3.scn
 obtain ⟨z0,z1,zf⟩:=hS3.cells
 have f0:=xf 0
 have f1:=xf 1
 have g0:=zf 0
 have g1:=zf 1
 have HS:Hid (TokS b s w p acc v w2):=hS3
 have HB:Hid (BoxT w w2 (.int .u8 0) (.string ⟨#[]⟩) (.int .i64 p)):=hB3
 have HBK:Hid (∀ K:Int,TokS b s w p acc v (w2.setCell ⟨w.heap.size+1,0,none⟩ (.int .u8 K))∧BoxT w (w2.setCell ⟨w.heap.size+1,0,none⟩ (.int .u8 K)) (.int .u8 K) (.string ⟨#[]⟩) (.int .i64 p)):=fun K=>⟨hS3.box hb 0 _,hB3.set0 _⟩
 have HEND:Hid (∀ w3:World,TokS b s w p acc v w3→(toksP (strI s) p=([],0,0))→∀ a':Act,a'.tmps.getD 2 undef=v→a'.tmps.getD 3 undef=.pointer (some ⟨w.heap.size,0,none⟩)→a'.defers=[]→Q .ret a' ((w3.setCell ⟨w.heap.size,0,none⟩ (.int .i64 0)).setCell ⟨w.heap.size,1,none⟩ (.int .i64 0))):=fun w3 h3 ht a' q2 q3 q4=>by
  have hRv:R=(acc,0,0):=by rw [HR.out,ht];simp [joinR]
  refine hQ a' _ v q2 q3 q4 ?_ ?_ (setCell_high (setCell_high h3.grown (Nat.le_refl _) _ _) (Nat.le_refl _) _ _)
  ·rw [hRv];exact spot_put h3.spot _ _
  ·rw [hRv];exact ownsRow_setCell_below (ownsRow_setCell_below h3.row (by simp) _) (by simp) _
 have HERR:Hid (∀ (w3:World) (er:Int),(w3.heap[w.heap.size]?=some (.cells #[.int .i64 0,.int .i64 0] 28 (0,0))∧w.grownBy w3 (some b))→er≠0→toksP (strI s) p=([],er,(p:Int))→∀ a':Act,a'.tmps.getD 2 undef=.slice none 0 0→a'.tmps.getD 3 undef=.pointer (some ⟨w.heap.size,0,none⟩)→a'.defers=[]→Q .ret a' ((w3.setCell ⟨w.heap.size,0,none⟩ (.int .i64 er)).setCell ⟨w.heap.size,1,none⟩ (.int .i64 p)).drew):=fun w3 er h3 he ht a' q2 q3 q4=>by
  have hRv:R=([],er,(p:Int)):=by rw [HR.out,ht];simp [joinR,he]
  refine hQ a' _ (.slice none 0 0) q2 q3 q4 ?_ ?_ (grown_drew1 (setCell_high (setCell_high h3.2 (Nat.le_refl _) _ _) (Nat.le_refl _) _ _))
  ·rw [hRv];exact spot_put h3.1 _ _
  ·rw [hRv];exact World.ownsRow_nil _ _ _ _
 clear hS3 hB3 xf sf zf
 by_cases hlt:p < s.size
 ·have hll:p < (strI s).length:=by rw [HLen.out];exact hlt
  have hka:kAt (strI s) p=kindL (nth (strI s) p):=by unfold kAt;rw [if_pos hll]
  rw [hka] at s3
  have hST:=fun w3 (h:Scn b s p w3)=>step_any b p s w3 h (by omega) (by omega)
  have HMU:Hid (∀ (w3:World) (a':Act) (l':Nat) (X Y:Value),l'≠0→BoxT w w3 X Y (.int .i64 p)→TokM b s w l' a' w3 < n):=fun w3 a' l' X Y hl hB=>by
   unfold TokM
   rw [if_neg hl,box_at hB]
   have:=HM.out
   split <;> omega
  rcases kind_cases (nth (strI s) p) with ⟨k,hc⟩ | ⟨k,hc,hnl⟩ | ⟨k,hc⟩ | ⟨k,hc⟩ | ⟨k,hc⟩ | ⟨k,hc⟩ | ⟨k,hc⟩ | ⟨k,hc⟩ | ⟨k,c1,c2,c3,c4,c5,c6,c7,c8⟩
  ·have HT:Hid (R=tokRes (strI s) acc 1 p p (runE (strI s) p)):=by show _=_;rw [HR.out,toks_letter hll hc];rfl
   have HE:Hid (p+1≤runE (strI s) p):=runE_gt hll (by simp [runB,hc])
   rw [k] at s3
   obtain ⟨q1,q2⟩:=HBK.out 1
   have Q1:=hide (q1)
   have Q2:=hide (q2)
   clear hc k hka hST HEND HERR HBK q1 q2
   generalize nth (strI s) p=c at s2
   go_wp2_with fail
   go_step3
   exact ⟨⟨p,p,p,p,1,acc,v,_,⟨_,rfl,rfl,rfl,rfl,rfl,rfl,rfl⟩,Q1.out,Q2.out,HT.out,fun i h1 h2=>by omega,Nat.le_refl _,Nat.le_refl _,HE.out,by decide,by decide,hacc⟩,HMU.out _ _ 1 _ _ (by decide) Q2.out⟩
  ·have hd:=digit_not hc
   have hr:runB (nth (strI s) p)=true:=by simp [runB,hc]
   have HT:Hid (R=tokRes (strI s) acc 3 p p (runE (strI s) p)):=by show _=_;rw [HR.out,toks_number hll hnl hd.1 hd.2.1 hd.2.2 (by simp [hc]),runE_step hll hr];rfl
   have HE:Hid (p+1≤runE (strI s) p):=runE_gt hll hr
   rw [k] at s3
   obtain ⟨q1,q2⟩:=HBK.out 3
   have Q1:=hide (q1)
   have Q2:=hide (q2)
   clear hc k hka hST HEND HERR HBK q1 q2 hnl hd hr
   generalize nth (strI s) p=c at s2
   go_wp2_with fail
   go_step3
   exact ⟨⟨p,p,p,p,3,acc,v,_,⟨_,rfl,rfl,rfl,rfl,rfl,rfl,rfl⟩,Q1.out,Q2.out,HT.out,fun i h1 h2=>by omega,Nat.le_refl _,Nat.le_refl _,HE.out,by decide,by decide,hacc⟩,HMU.out _ _ 1 _ _ (by decide) Q2.out⟩
  ·have HT:Hid (R=joinR acc (toksP (strI s) (p+1))):=by show _=_;rw [HR.out,toksP_blank hll hc]
   rw [k] at s3
   have hST2:=hST _ HS.out.scn
   clear hc k hka hST HEND HERR HBK
   generalize nth (strI s) p=c at s2
   go_wp2_with fail
   refine hST2.mono ?_
   rintro e w3 ⟨rfl,hSc,hg⟩
   have Q1:=hide (TokS.next hb HS.out hg hSc (by omega))
   have Q2:=hide (BoxT.next hb HB.out hg)
   clear hST2 hSc hg s0 s1 s2 s3 x0 x1 x2 z0 z1
   go_wp2_with fail
   go_step3
   refine ⟨⟨p+1,acc,v,_,_,_,⟨_,rfl,rfl,rfl,rfl,rfl,rfl⟩,Q1.out,Q2.out,HT.out,by omega⟩,?_⟩
   unfold TokM
   rw [if_pos rfl,pos_scn Q1.out.scn]
   have h1:=mul_step (L:=s.size) (Nat.le_refl (p+1)) (by omega)
   have h2:=HM.out
   omega
  ·have HT:Hid (R=tokRes (strI s) acc 2 (p+1) p (runE (strI s) (p+1))):=by show _=_;rw [HR.out,toks_percent hll hc];rfl
   rw [k] at s3
   obtain ⟨q1,q2⟩:=HBK.out 2
   have hST2:=hST _ q1.scn
   have Q1:=hide (q1)
   have Q2:=hide (q2)
   clear hc k hka hST HEND HERR HBK q1 q2
   generalize nth (strI s) p=c at s2
   go_wp2_with fail
   refine hST2.mono ?_
   rintro e w3 ⟨rfl,hSc,hg⟩
   have Q3:=hide (TokS.next hb Q1.out hg hSc (by omega))
   have Q4:=hide (BoxT.next hb Q2.out hg)
   obtain ⟨_,t1,_,_,_⟩:=scn_cells hSc
   rw [show ((p+1:Nat):Int)=(p:Int)+1 by omega] at t1
   clear hST2 hSc hg s0 s1 s2 s3 x0 x1 x2 z0 z1 Q1 Q2
   go_wp2_with fail
   go_step3
   exact ⟨⟨p+1,p,p+1,p+1,2,acc,v,_,⟨_,rfl,rfl,rfl,rfl,rfl,rfl,rfl⟩,Q3.out,Q4.out,HT.out,fun i h1 h2=>by omega,Nat.le_refl _,Nat.le_refl _,runE_ge _ _,by decide,by decide,hacc⟩,HMU.out _ _ 1 _ _ (by decide) Q4.out⟩
  ·have HT:Hid (R=tokRes (strI s) acc 3 p p (runE (strI s) (p+1))):=by show _=_;rw [HR.out,toks_number hll (by rw [hc];decide) (by rw [hc];decide) (by rw [hc];decide) (by rw [hc];decide) (by rw [hc];decide)];rfl
   rw [k] at s3
   have hST2:=hST _ HS.out.scn
   clear hc k hka hST HEND HERR HBK
   generalize nth (strI s) p=c at s2
   go_wp2_with fail
   refine hST2.mono ?_
   rintro e w3 ⟨rfl,hSc,hg⟩
   have q1:=TokS.next hb HS.out hg hSc (by omega)
   have q2:=BoxT.next hb HB.out hg
   obtain ⟨y0,_,_,yf⟩:=q2.cells
   have y1:=yf 0
   have Q3:=hide (q1.box hb 0 (.int .u8 3))
   have Q4:=hide (q2.set0 (.int .u8 3))
   clear hST2 hSc hg s0 s1 s2 s3 x0 x1 x2 z0 z1 q1 q2 yf
   go_wp2_with fail
   go_step3
   exact ⟨⟨p+1,p,p,p+1,3,acc,v,_,⟨_,rfl,rfl,rfl,rfl,rfl,rfl,rfl⟩,Q3.out,Q4.out,HT.out,fun i h1 h2=>by omega,by omega,Nat.le_refl _,runE_ge _ _,by decide,by decide,hacc⟩,HMU.out _ _ 1 _ _ (by decide) Q4.out⟩
  ·have HT:=toks_quote hll hc
   rw [k] at s3
   obtain ⟨q1,q2⟩:=HBK.out 4
   have hQU:=quoted_any b p s _ q1.scn hlt (by omega)
   have Q1:=hide (q1)
   have Q2:=hide (q2)
   have HEQ:Hid (∀ t q,quotP (strI s) (p+1)=some (t,q)→p+1+1≤q∧q≤s.size):=fun t q h=>by have:=quotP_end h;rw [HLen.out] at this;exact this
   clear hc k hka hST HBK q1 q2
   generalize nth (strI s) p=c at s2
   cases hq:quotP (strI s) (p+1) with
   | none =>
    rw [hq] at HT hQU
    have HTT:Hid (toksP (strI s) p=([],61,(p:Int))):=HT
    clear HT HEND HEQ
    go_wp2_with fail
    refine hQU.mono ?_
    rintro e w3 ⟨rfl,hg,_⟩
    have q2:=BoxT.next hb Q2.out hg
    obtain ⟨_,y1,_,yf⟩:=q2.cells
    have y2:=yf 1
    have hsp:w3.heap[w.heap.size]?=some (.cells #[.int .i64 0,.int .i64 0] 28 (0,0)):=(hg.block _ (by have:=Q1.out.size;omega) (by simp;omega)).trans Q1.out.spot
    have q3:=q2.set1 (.string ⟨#[]⟩)
    obtain ⟨_,_,y3,_⟩:=q3.cells
    have hsp2:(w3.setCell ⟨w.heap.size+1,1,none⟩ (.string ⟨#[]⟩)).heap[w.heap.size]?=some (.cells #[.int .i64 0,.int .i64 0] 28 (0,0)):=(Below.heap_setCell _ _ _ _ (by simp)).trans hsp
    have hgr2:w.grownBy (w3.setCell ⟨w.heap.size+1,1,none⟩ (.string ⟨#[]⟩)) (some b):=setCell_high (grown_trans Q1.out.grown hg) (by omega) _ _
    have e0:(w3.setCell ⟨w.heap.size+1,1,none⟩ (.string ⟨#[]⟩)).cell? ⟨w.heap.size,0,none⟩=some (.int .i64 0):=by rw [Lib.cell_of_heap hsp2];rfl
    have e1:(w3.setCell ⟨w.heap.size+1,1,none⟩ (.string ⟨#[]⟩)).cell? ⟨w.heap.size,1,none⟩=some (.int .i64 0):=by rw [Lib.cell_of_heap hsp2];rfl
    have e2:(w3.setCell ⟨w.heap.size+1,1,none⟩ (.string ⟨#[]⟩)).frozen? ⟨w.heap.size,0,none⟩=false:=Lib.frozen_of_heap hsp2 0
    have e3:(w3.setCell ⟨w.heap.size+1,1,none⟩ (.string ⟨#[]⟩)).frozen? ⟨w.heap.size,1,none⟩=false:=Lib.frozen_of_heap hsp2 1
    have HSP:=hide (And.intro hsp2 hgr2)
    clear hQU hg s0 s1 s2 s3 x0 x1 x2 z0 z1 q2 q3 yf Q1 Q2 hsp hsp2 hgr2
    simp only [quotS,Option.isSome]
    go_wp2_with fail
    generalize w3.setCell ⟨w.heap.size+1,1,none⟩ (.string ⟨#[]⟩)=w4 at *
    refine wp_norm ?_
    go_region
    rw [onNormal_normal]
    go_wp2_with fail
    rw [jumps_ret]
    exact HERR.out _ 61 HSP.out (by decide) HTT.out _ rfl rfl rfl
   | some r =>
    obtain ⟨t,q⟩:=r
    rw [hq] at HT hQU
    have HTT:Hid (R=joinR (acc ++ [(4,strOfNums t,(p:Int))]) (toksP (strI s) q)):=by show _=_;rw [HR.out,HT,join_cons]
    have hqq:=HEQ.out t q hq
    clear HT HEND HERR HEQ hq
    go_wp2_with fail
    refine hQU.mono ?_
    rintro e w3 ⟨rfl,hg,hsc⟩
    have q1:=TokS.next hb Q1.out hg (hsc t q rfl) (by omega)
    have q2:=BoxT.next hb Q2.out hg
    obtain ⟨_,y1,_,yf⟩:=q2.cells
    have y2:=yf 1
    have Q3:=hide (q1.box hb 1 (.string (strOfNums t)))
    have Q4:=hide (q2.set1 (.string (strOfNums t)))
    clear hQU hg hsc s0 s1 s2 s3 x0 x1 x2 z0 z1 q1 q2 yf Q1 Q2
    simp only [quotS,Option.isSome]
    go_wp2_with fail
    go_step3
    exact ⟨⟨q,p,4,strOfNums t,acc,v,⟨_,rfl,rfl,rfl,rfl,rfl,rfl⟩,Q3.out,Q4.out,HTT.out,by omega,hacc⟩,HMU.out _ _ 2 _ _ (by decide) Q4.out⟩
  ·have HT:Hid (R=tokRes (strI s) acc 5 p p (p+1)):=by show _=_;rw [HR.out,toks_equal hll hc];rfl
   rw [k] at s3
   obtain ⟨q1,q2⟩:=HBK.out 5
   have hST2:=hST _ q1.scn
   have Q1:=hide (q1)
   have Q2:=hide (q2)
   clear hc k hka hST HEND HERR HBK q1 q2
   generalize nth (strI s) p=c at s2
   go_wp2_with fail
   refine hST2.mono ?_
   rintro e w3 ⟨rfl,hSc,hg⟩
   have Q3:=hide (TokS.next hb Q1.out hg hSc (by omega))
   have Q4:=hide (BoxT.next hb Q2.out hg)
   clear hST2 hSc hg s0 s1 s2 s3 x0 x1 x2 z0 z1 Q1 Q2
   go_wp2_with fail
   go_step3
   exact ⟨⟨p+1,p,p,5,acc,v,_,⟨_,rfl,rfl,rfl,rfl,rfl,rfl,rfl⟩,Q3.out,Q4.out,HT.out,by omega,Nat.le_refl _,by decide,by decide,hacc⟩,HMU.out _ _ 3 _ _ (by decide) Q4.out⟩
  ·have HTT:Hid (toksP (strI s) p=([],0,0)):=toksP_end (fun h=>h.2 hc)
   rw [k] at s3
   clear hc k hka hST HERR HBK
   generalize nth (strI s) p=c at s2
   go_wp2_with fail
   rw [jumps_ret]
   exact HEND.out _ HS.out HTT.out _ rfl rfl rfl
  ·have HTT:Hid (toksP (strI s) p=([],60,(p:Int))):=toks_stray hll c1 c2 c3 c4 c5 c6 c7 c8
   clear c1 c2 c3 c4 c5 c6 c7 c8 hka hST HEND HBK
   rcases k with k | k
   ·rw [k] at s3
    clear k
    generalize nth (strI s) p=c at s2
    go_wp2_with fail
    refine wp_norm ?_
    go_region
    rw [onNormal_normal]
    go_wp2_with fail
    rw [jumps_ret]
    exact HERR.out _ 60 ⟨HS.out.spot,HS.out.grown⟩ (by decide) HTT.out _ rfl rfl rfl
   ·rw [k] at s3
    clear k
    generalize nth (strI s) p=c at s2
    go_wp2_with fail
    refine wp_norm ?_
    go_region
    rw [onNormal_normal]
    go_wp2_with fail
    rw [jumps_ret]
    exact HERR.out _ 60 ⟨HS.out.spot,HS.out.grown⟩ (by decide) HTT.out _ rfl rfl rfl
 ·have HTT:Hid (toksP (strI s) p=([],0,0)):=toksP_end (fun h=>by rw [HLen.out] at h;exact hlt h.1)
  have hka:kAt (strI s) p=0:=by unfold kAt;rw [if_neg (by rw [HLen.out];exact hlt)]
  rw [hka] at s3
  clear hka HERR HBK
  generalize nth (strI s) p=c at s2
  go_wp2_with fail
  rw [jumps_ret]
  exact HEND.out _ HS.out HTT.out _ rfl rfl rfl
end Go.Proofs.YtddkapkkjhomkabGreatDoor
namespace Go.Proofs.YtddkapkkjhomkabGreatDoor
open Go.RowKit
set_option maxRecDepth 100000
attribute [local go_sem] jumps_normal jumps_exit jumps_ret jumps_panic jumps_goto onNormal_normal

set_option maxHeartbeats 4000000 in
theorem scanTokens_any (b p:Nat) (s:ByteArray) (w:World) (h:Scn b s p w) (hp:p≤s.size) (hs:32 * s.size+64≤140737488351232) :
  Calls Tryz.prog 34 #[.pointer (some ⟨b,0,none⟩)] w fun e w'=>∃ v,e=.returned (.tuple #[v,.agg #[.int .i64 (toksP (strI s) p).2.1,.int .i64 (toksP (strI s) p).2.2]])∧w'.ownsRow w.heap.size 41 3 v (toksP (strI s) p).1.length ((toksP (strI s) p).1.flatMap tokC)∧w.grownBy w' (some b):=by
 have hblt:b < w.heap.size:=(Array.getElem?_eq_some_iff.1 h).1
 obtain ⟨R,hR⟩:∃ R,R=toksP (strI s) p:=⟨_,rfl⟩
 rw [← hR]
 have HR:Hid (R=joinR [] (toksP (strI s) p)):=by show _=_;rw [join_nil];exact hR
 have HRET:Hid (TokQ b s w R (bodyPost Tryz.prog Tryz.f34 fun e w'=>∃ v,e=.returned (.tuple #[v,.agg #[.int .i64 R.2.1,.int .i64 R.2.2]])∧w'.ownsRow w.heap.size 41 3 v R.1.length (R.1.flatMap tokC)∧w.grownBy w' (some b))):=by
  intro a' w' v q2 q3 q4 q5 q6 q7
  have c0:w'.cell? ⟨w.heap.size,0,none⟩=some (.int .i64 R.2.1):=by rw [Lib.cell_of_heap q5];rfl
  have c1:w'.cell? ⟨w.heap.size,1,none⟩=some (.int .i64 R.2.2):=by rw [Lib.cell_of_heap q5];rfl
  refine bodyPost_ret (v:=.tuple #[v,.agg #[.int .i64 R.2.1,.int .i64 R.2.2]]) ?_ q4 ⟨v,rfl,?_,q7⟩
  ·simp only [results,Tryz.results34]
   have q2':a'.tmps[2]?.getD undef=v:=by rw [← Array.getD_eq_getD_getElem?];exact q2
   have q3':a'.tmps[3]?.getD undef=.pointer (some ⟨w.heap.size,0,none⟩):=by rw [← Array.getD_eq_getD_getElem?];exact q3
   simp [go_sem,q2',q3',c0,c1]
  ·refine ⟨q6.1,?_⟩
   rcases q6.2 with hn | ⟨g,cap,cur,e1,e2,rest⟩
   ·exact .inl hn
   ·exact .inr ⟨g,cap,cur,e1,by omega,rest⟩
 have HS:Hid (TokS b s w p [] (.slice none 0 0) ((w.alloc (.cells #[.int .i64 0,.int .i64 0] 28)).alloc (.cells #[.int .u8 0,.string ⟨#[]⟩,.int .i64 0] 41))):=by
  refine ⟨?_,?_,World.ownsRow_nil _ _ _ _,grown_trans (World.grownBy_alloc _ _ _) (World.grownBy_alloc _ _ _),by simp,hp⟩
  ·show ((w.alloc _).alloc _).heap[b]?=_
   rw [Below.heap_alloc _ _ _ (by simp;omega),Below.heap_alloc _ _ _ hblt];exact h
  ·rw [Below.heap_alloc _ _ _ (by simp)];exact heap_alloc_new w _
 have HB:Hid (BoxT w ((w.alloc (.cells #[.int .i64 0,.int .i64 0] 28)).alloc (.cells #[.int .u8 0,.string ⟨#[]⟩,.int .i64 0] 41)) (.int .u8 0) (.string ⟨#[]⟩) (.int .i64 0)):=by
  have e:(w.alloc (.cells #[.int .i64 0,.int .i64 0] 28)).heap.size=w.heap.size+1:=by simp
  show (World.alloc _ _).heap[w.heap.size+1]?=_
  rw [← e];exact heap_alloc_new _ _
 clear h hR
 go_enter Tryz.func34,Tryz.ntmps34
 go_wp2_with fail
 refine wp_scope_ranked (TokJ b s w R) (TokM b s w) (fun l=>if l=2 then 0 else if l=3 then 1 else if l=1 then 2 else 3) ?hf ?pass ?first
 case hf =>
  intro l a w1 hJ
  match l,hJ with
  | 0,_=>rfl
  | 1,_=>rfl
  | 2,_=>rfl
  | 3,_=>rfl
 case first =>
  intro hP
  go_wp2_with fail
  refine wp_label ?_
  rename_i Kx hKx
  exact hKx _ _ (hP 0 _ _ ⟨p,[],.slice none 0 0,_,_,_,⟨_,rfl,rfl,rfl,rfl,rfl,rfl⟩,HS.out,HB.out,HR.out,Nat.zero_le _⟩)
 case pass =>
  intro l hprev N a w1 hJ hN
  match l,hJ with
  | 0,hJ=>exact tok_between b s w R _ hblt hs HRET.out N a w1 hJ hN
  | 1,hJ=>exact tok_run b s w R _ hblt hs (hprev 3 (by decide)) N a w1 hJ hN
  | 2,hJ=>exact tok_taken b s w R _ hblt hs N a w1 hJ hN
  | 3,hJ=>exact tok_whole b s w R _ hblt hs HRET.out (hprev 2 (by decide)) N a w1 hJ hN
theorem tokens_any (s:ByteArray) (w:World) (hs:32 * s.size+64≤140737488351232) :
  Calls Tryz.prog 13 #[.string s] w fun e w'=>∃ v,e=.returned (.tuple #[v,.agg #[.int .i64 (toksP (strI s) 0).2.1,.int .i64 (toksP (strI s) 0).2.2]])∧w'.ownsRow w.heap.size 41 3 v (toksP (strI s) 0).1.length ((toksP (strI s) 0).1.flatMap tokC)∧Below w.heap.size w w':=by
 have e:(w.alloc (.cells #[.int .i64 0,.int .i64 0] 28)).heap.size=w.heap.size+1:=by simp
 have hcell:((w.alloc (.cells #[.int .i64 0,.int .i64 0] 28)).alloc (.cells #[.string s,.int .i64 0,.int .u8 0,.int .u8 0] 80)).heap[w.heap.size+1]?=some (scnC s 0 (.int .u8 0) (.int .u8 0)):=by
  rw [← e];exact heap_alloc_new _ _
 have hspot:((w.alloc (.cells #[.int .i64 0,.int .i64 0] 28)).alloc (.cells #[.string s,.int .i64 0,.int .u8 0,.int .u8 0] 80)).heap[w.heap.size]?=some (.cells #[.int .i64 0,.int .i64 0] 28 (0,0)):=by
  rw [Below.heap_alloc _ _ _ (by simp)];exact heap_alloc_new w _
 have hbel:Below w.heap.size w ((w.alloc (.cells #[.int .i64 0,.int .i64 0] 28)).alloc (.cells #[.string s,.int .i64 0,.int .u8 0,.int .u8 0] 80)):=((Below.refl _ w).alloc (Nat.le_refl _) _).alloc (by simp) _
 have hsz:w.heap.size+2≤((w.alloc (.cells #[.int .i64 0,.int .i64 0] 28)).alloc (.cells #[.string s,.int .i64 0,.int .u8 0,.int .u8 0] 80)).heap.size:=by simp
 have hLK:=look_any (w.heap.size+1) 0 s _ _ _ hcell (by omega) (by omega)
 clear e hcell
 go_enter Tryz.func13,Tryz.ntmps13
 go_wp2_with fail
 generalize (w.alloc (.cells #[.int .i64 0,.int .i64 0] 28)).alloc (.cells #[.string s,.int .i64 0,.int .u8 0,.int .u8 0] 80)=W0 at *
 refine hLK.mono ?_
 rintro e w1 ⟨rfl,hS1,hg1⟩
 have hTK:=scanTokens_any (w.heap.size+1) 0 s w1 hS1 (Nat.zero_le _) hs
 clear hLK
 go_wp2_with fail
 refine hTK.mono ?_
 rintro e w2 ⟨v,rfl,hrow,hg2⟩
 have hs1:=hg1.size
 have hs2:=hg2.size
 have hsp2:w2.heap[w.heap.size]?=some (.cells #[.int .i64 0,.int .i64 0] 28 (0,0)):=(hg2.block _ (by omega) (by simp)).trans ((hg1.block _ (by omega) (by simp)).trans hspot)
 have hb2:Below w.heap.size w w2:=(hbel.grown hg1 (by omega) (fun k e=>by simp at e;omega)).grown hg2 (by omega) (fun k e=>by simp at e;omega)
 have hrow2:w2.ownsRow (w.heap.size+1) 41 3 v (toksP (strI s) 0).1.length ((toksP (strI s) 0).1.flatMap tokC):=by
  refine ⟨hrow.1,?_⟩
  rcases hrow.2 with hn | ⟨g,cap,cur,e1,e2,rest⟩
  ·exact .inl hn
  ·exact .inr ⟨g,cap,cur,e1,by omega,rest⟩
 generalize her:(toksP (strI s) 0).2.1=er at *
 generalize hat:(toksP (strI s) 0).2.2=at_ at *
 have HER:=hide her
 have HAT:=hide hat
 clear her hat
 have z0:w2.cell? ⟨w.heap.size,0,none⟩=some (.int .i64 0):=by rw [Lib.cell_of_heap hsp2];rfl
 have z1:w2.cell? ⟨w.heap.size,1,none⟩=some (.int .i64 0):=by rw [Lib.cell_of_heap hsp2];rfl
 have f0:w2.frozen? ⟨w.heap.size,0,none⟩=false:=Lib.frozen_of_heap hsp2 0
 have f1:w2.frozen? ⟨w.heap.size,1,none⟩=false:=Lib.frozen_of_heap hsp2 1
 have hsp3:=spot_put hsp2 (.int .i64 er) (.int .i64 at_)
 have hrow3:=ownsRow_setCell_below (ownsRow_setCell_below hrow2 (a:=⟨w.heap.size,0,none⟩) (by simp) (.int .i64 er)) (a:=⟨w.heap.size,1,none⟩) (by simp) (.int .i64 at_)
 have hb3:=(hb2.setCell (p:=⟨w.heap.size,0,none⟩) (Nat.le_refl _) (.int .i64 er)).setCell (p:=⟨w.heap.size,1,none⟩) (Nat.le_refl _) (.int .i64 at_)
 have HSP:=hide hsp3
 have HROW:=hide hrow3
 have HB3:=hide hb3
 clear hTK hrow hrow2 hsp2 hsp3 hrow3 hb3 hb2 hspot hbel hg1 hg2 hS1
 go_wp2_with fail
 generalize (w2.setCell ⟨w.heap.size,0,none⟩ (.int .i64 er)).setCell ⟨w.heap.size,1,none⟩ (.int .i64 at_)=w3 at *
 have c0:w3.cell? ⟨w.heap.size,0,none⟩=some (.int .i64 er):=by rw [Lib.cell_of_heap HSP.out];rfl
 have c1:w3.cell? ⟨w.heap.size,1,none⟩=some (.int .i64 at_):=by rw [Lib.cell_of_heap HSP.out];rfl
 refine bodyPost_ret (v:=.tuple #[v,.agg #[.int .i64 er,.int .i64 at_]]) ?_ rfl ⟨v,by rw [HER.out,HAT.out],?_,HB3.out⟩
 ·simp only [results,Tryz.results13]
  simp [go_sem,c0,c1]
 ·refine ⟨HROW.out.1,?_⟩
  rcases HROW.out.2 with hn | ⟨g,cap,cur,e1,e2,rest⟩
  ·exact .inl hn
  ·exact .inr ⟨g,cap,cur,e1,by omega,rest⟩
end Go.Proofs.YtddkapkkjhomkabGreatDoor
namespace Go.Proofs.YtddkapkkjhomkabGreatDoor
open Go.RowKit

theorem own_shape7 {w:World} {B e size n:Nat} {v:Value} {xs:List Value} (h:w.ownsRow B e size v n xs):∃ a c,v=.slice a n c:=by
 rcases h.2 with ⟨rfl,h0⟩ | ⟨g,cap,cur,rfl,_⟩
 ·exact ⟨none,0,by rw [h0]⟩
 ·exact ⟨_,_,rfl⟩
theorem own_mono7 {w:World} {B B' e size n:Nat} {v:Value} {xs:List Value} (h:w.ownsRow B e size v n xs) (hB:B'≤B):w.ownsRow B' e size v n xs:=by
 refine ⟨h.1,?_⟩
 rcases h.2 with hn | ⟨g,cap,cur,e1,e2,rest⟩
 ·exact .inl hn
 ·exact .inr ⟨g,cap,cur,e1,Nat.le_trans hB e2,rest⟩
theorem toks_of_own {w:World} {B n c:Nat} {a:Option Addr} {l:List TokT} (h:w.ownsRow B 41 3 (.slice a n c) n (l.flatMap tokC)) (hl:l.length=n):ToksV w a l∧∀ b off,a=some ⟨b,off,none⟩→B≤b∧b < w.heap.size:=by
 have hh:=h
 rcases h.2 with ⟨e,h0⟩ | ⟨g,cap,cur,e,h1,hg,_⟩
 ·simp only [Value.slice.injEq] at e
  obtain ⟨rfl,rfl,rfl⟩:=e
  have:l=[]:=List.length_eq_zero_iff.1 hl
  subst this
  exact ⟨toksV_nil,fun b off e=>by simp at e⟩
 ·simp only [Value.slice.injEq,true_and] at e
  obtain ⟨rfl,rfl⟩:=e
  refine ⟨ToksV.ofRow hh hl,fun b off e=>?_⟩
  simp only [Option.some.injEq,Addr.mk.injEq] at e
  obtain ⟨rfl,_,_⟩:=e
  exact ⟨h1,(Array.getElem?_eq_some_iff.1 hg).1⟩
set_option maxHeartbeats 2000000 in
theorem rowOf_any (s:ByteArray) (w:World) (hs:32 * s.size+64≤140737488351232) :
  Calls Tryz.prog 92 #[.string s] w fun e w'=>∃ a c,e=.returned (.tuple #[.agg #[.slice a (toksP (strI s) 0).1.length c,.int .i64 0,.int .i64 (s.size:Int)],.agg #[.int .i64 (toksP (strI s) 0).2.1,.int .i64 (toksP (strI s) 0).2.2]])∧w'.ownsRow w.heap.size 41 3 (.slice a (toksP (strI s) 0).1.length c) (toksP (strI s) 0).1.length ((toksP (strI s) 0).1.flatMap tokC)∧Below w.heap.size w w':=by
 have hT:=fun wx=>tokens_any s wx hs
 obtain ⟨R,hR⟩:∃ R,R=toksP (strI s) 0:=⟨_,rfl⟩
 rw [← hR] at hT ⊢
 clear hR
 obtain ⟨l,er,at_⟩:=R
 simp only at hT ⊢
 have kT:((w.alloc (.cells #[.slice none 0 0,.int .i64 0,.int .i64 0] 174)).alloc (.cells #[.int .i64 0,.int .i64 0] 28)).heap[w.heap.size]?=some (.cells #[.slice none 0 0,.int .i64 0,.int .i64 0] 174 (0,0)):=(Below.heap_alloc _ _ _ (by simp)).trans (heap_alloc_new w _)
 have kS:((w.alloc (.cells #[.slice none 0 0,.int .i64 0,.int .i64 0] 174)).alloc (.cells #[.int .i64 0,.int .i64 0] 28)).heap[w.heap.size+1]?=some (.cells #[.int .i64 0,.int .i64 0] 28 (0,0)):=by simpa using heap_alloc_new (w.alloc (.cells #[.slice none 0 0,.int .i64 0,.int .i64 0] 174)) (.cells #[.int .i64 0,.int .i64 0] 28)
 have hb:Below w.heap.size w ((w.alloc (.cells #[.slice none 0 0,.int .i64 0,.int .i64 0] 174)).alloc (.cells #[.int .i64 0,.int .i64 0] 28)):=((Below.refl _ w).alloc (Nat.le_refl _) _).alloc (by simp) _
 go_enter Tryz.func92,Tryz.ntmps92
 go_wp2_with fail
 generalize (w.alloc (.cells #[.slice none 0 0,.int .i64 0,.int .i64 0] 174)).alloc (.cells #[.int .i64 0,.int .i64 0] 28)=W at *
 refine (hT _).mono ?_
 rintro e w1 ⟨v1,rfl,hrow,hb1⟩
 obtain ⟨a1,c1,rfl⟩:=own_shape7 hrow
 have sS:=(Array.getElem?_eq_some_iff.1 kS).1
 have hba:Below w1.heap.size w1 (w1.alloc (.cells #[.int .i64 er,.int .i64 at_] 28)):=(Below.refl _ w1).alloc (Nat.le_refl _) _
 have hb1a:=hb1.trans (hba.mono hb1.size)
 have HT:=hide ((hb1a.block _ (by omega)).trans kT)
 have HS:=hide ((hb1a.block _ sS).trans kS)
 have HB:=hide (hb.trans (hb1a.mono hb.size))
 have HO:=hide (own_below hrow hba)
 have HK:=hide (heap_alloc_new w1 (.cells #[.int .i64 er,.int .i64 at_] 28))
 have s1:w.heap.size+1 < w1.heap.size:=Nat.lt_of_lt_of_le sS hb1.size
 clear hT hrow hb1 hba hb1a kT kS hb
 go_wp2_with fail
 generalize w1.alloc (.cells #[.int .i64 er,.int .i64 at_] 28)=W2 at *
 obtain ⟨ct,ft⟩:=blk_cells HT.out
 obtain ⟨cp,fp⟩:=blk_cells HS.out
 obtain ⟨ck,_⟩:=blk_cells HK.out
 have t0:=ct 0
 have t1:=ct 1
 have t2:=ct 2
 have p0:=cp 0
 have p1:=cp 1
 have k0:=ck 0
 have k1:=ck 1
 have n1:w1.heap.size≠w.heap.size:=by omega
 have n2:w1.heap.size≠w.heap.size+1:=by omega
 obtain ⟨x1,x2,x3⟩:=five_drew HT.out HS.out (.slice a1 l.length c1) (.int .i64 0) (.int .i64 (s.size:Int)) (.int .i64 er) (.int .i64 at_)
 have hOX:(((((((W2.setCell ⟨w.heap.size,0,none⟩ (.slice a1 l.length c1)).setCell ⟨w.heap.size,1,none⟩ (.int .i64 0)).setCell ⟨w.heap.size,2,none⟩ (.int .i64 (s.size:Int))).setCell ⟨w.heap.size+1,0,none⟩ (.int .i64 er)).setCell ⟨w.heap.size+1,1,none⟩ (.int .i64 at_))).drew).ownsRow w.heap.size 41 3 (.slice a1 l.length c1) l.length (l.flatMap tokC):=by
  have hlt:=sS
  have h5:=ownsRow_setCell_below (ownsRow_setCell_below (ownsRow_setCell_below (ownsRow_setCell_below (ownsRow_setCell_below HO.out (a:=⟨w.heap.size,0,none⟩) (by simp;omega) (.slice a1 l.length c1)) (a:=⟨w.heap.size,1,none⟩) (by simp;omega) (.int .i64 0)) (a:=⟨w.heap.size,2,none⟩) (by simp;omega) (.int .i64 (s.size:Int))) (a:=⟨w.heap.size+1,0,none⟩) (by simp;omega) (.int .i64 er)) (a:=⟨w.heap.size+1,1,none⟩) (by simp;omega) (.int .i64 at_)
  generalize (((((W2.setCell ⟨w.heap.size,0,none⟩ (.slice a1 l.length c1)).setCell ⟨w.heap.size,1,none⟩ (.int .i64 0)).setCell ⟨w.heap.size,2,none⟩ (.int .i64 (s.size:Int))).setCell ⟨w.heap.size+1,0,none⟩ (.int .i64 er)).setCell ⟨w.heap.size+1,1,none⟩ (.int .i64 at_))=Y at *
  exact own_mono7 (own_below h5 (Below.refl _ _).drew) (by omega)
 have HOX:=hide hOX
 have HY:=hide (HB.out.trans x3)
 have HY1:=hide x1
 have HY2:=hide x2
 clear x1 x2 x3 ct cp ck HT HS HK HO HB hOX
 go_region
 generalize ((((((W2.setCell ⟨w.heap.size,0,none⟩ (.slice a1 l.length c1)).setCell ⟨w.heap.size,1,none⟩ (.int .i64 0)).setCell ⟨w.heap.size,2,none⟩ (.int .i64 (s.size:Int))).setCell ⟨w.heap.size+1,0,none⟩ (.int .i64 er)).setCell ⟨w.heap.size+1,1,none⟩ (.int .i64 at_))).drew=X at *
 clear t0 t1 t2 p0 p1 k0 k1 ft fp
 go_wp2
 obtain ⟨e1,_⟩:=blk_cells HY1.out
 obtain ⟨e2,_⟩:=blk_cells HY2.out
 have a0:=e1 0
 have a1':=e1 1
 have a2:=e1 2
 have b0:=e2 0
 have b1:=e2 1
 refine bodyPost_ret (v:=.tuple #[.agg #[.slice a1 l.length c1,.int .i64 0,.int .i64 (s.size:Int)],.agg #[.int .i64 er,.int .i64 at_]]) ?_ rfl ⟨a1,c1,rfl,HOX.out,HY.out⟩
 simp [results,Tryz.results92,go_sem,a0,a1',a2,b0,b1]
def MBld (w:World) (B:Nat) (gen bnd:Int) (v:Value) (wd:Int):Prop:=w.heap[B]?=some (.cells #[.int .u32 gen,.int .u32 bnd,v,.int .i64 wd] 116 (0,0))
theorem MBld.lt {w:World} {B:Nat} {gen bnd:Int} {v:Value} {wd:Int} (h:MBld w B gen bnd v wd):B < w.heap.size:=(Array.getElem?_eq_some_iff.1 h).1
theorem MBld.below {w w':World} {B:Nat} {gen bnd:Int} {v:Value} {wd:Int} (h:MBld w B gen bnd v wd) (hb:Below w.heap.size w w'):MBld w' B gen bnd v wd:=(hb.block _ h.lt).trans h
theorem MBld.setWords {w:World} {B:Nat} {gen bnd:Int} {v:Value} {wd:Int} (h:MBld w B gen bnd v wd) (x:Int):MBld (w.setCell ⟨B,3,none⟩ (.int .i64 x)) B gen bnd v x:=by
 unfold MBld at *;simp [World.setCell,Array.getElem?_modify,h]
theorem MBld.setInsts {w:World} {B:Nat} {gen bnd:Int} {v:Value} {wd:Int} (h:MBld w B gen bnd v wd) (x:Value):MBld (w.setCell ⟨B,2,none⟩ x) B gen bnd x wd:=by
 unfold MBld at *;simp [World.setCell,Array.getElem?_modify,h]
structure Two (w : World) (B : Nat) (ob : Option Nat) (w' : World) : Prop where
  os : w'.os = w.os
  tape : w'.tape = w.tape
  output : w'.output = w.output
  size : w.heap.size ≤ w'.heap.size
  block : ∀ k, k < w.heap.size → k ≠ B → some k ≠ ob → w'.heap[k]? = w.heap[k]?
theorem Two.of_grown {w w':World} {B:Nat} {ob:Option Nat} (h:w.grownBy w' (some B)):Two w B ob w':=⟨h.os,h.tape,h.output,h.size,fun k hk hB _=>h.block k hk (by simpa using hB)⟩
theorem Two.of_below {w w':World} {B:Nat} {ob:Option Nat} (h:Below w.heap.size w w'):Two w B ob w':=⟨h.os,h.tape,h.output,h.size,fun k hk _ _=>h.block k hk⟩
set_option maxHeartbeats 1000000 in
theorem headed_any (B:Nat) (gen bnd:Int) (v:Value) (wd:Int) (w:World) (h:MBld w B gen bnd v wd) :
  Calls Tryz.prog 49 #[.pointer (some ⟨B,0,none⟩)] w fun e w'=>e=.returned (.bool (decide (0 < wd)))∧w=w':=by
 have c3:w.cell? ⟨B,3,none⟩=some (.int .i64 wd):=(blk_cells h).1 3
 clear h
 go_enter Tryz.func49,Tryz.ntmps49
 go_wp2
 go_ret
 exact ⟨rfl,rfl⟩
set_option maxHeartbeats 4000000 in
theorem addHead_any (B:Nat) (gen bnd:Int) (v:Value) (wd:Int) (a:Option Addr) (n c:Nat) (len:Int) (l:List TokT) (w:World) (h:MBld w B gen bnd v wd) (hv:ToksV w a l) (hl:l.length=n) (hn:32 * n≤140737488351232) (hin:ToksIn l) (hfar:∀ b off,a=some ⟨b,off,none⟩→b < w.heap.size) :
  Calls Tryz.prog 94 #[.pointer (some ⟨B,0,none⟩),.agg #[.slice a n c,.int .i64 0,.int .i64 len]] w fun e w'=>e=.returned (.int .i64 (headP l len).2.2.1)∧w.grownBy w' (some B)∧((headP l len).2.2.1=0→MBld w' B (headP l len).1 (headP l len).2.1 (.slice none 0 0) 5):=by
 have hba:Below w.heap.size w (w.alloc (.cells #[.slice a n c,.int .i64 0,.int .i64 len] 174)):=(Below.refl _ w).alloc (Nat.le_refl _) _
 have hR:RowAt (w.alloc (.cells #[.slice a n c,.int .i64 0,.int .i64 len] 174)) w.heap.size a n c 0 len #[] 174:=heap_alloc_new w _
 have hH:=rowHead_any w.heap.size a n c len #[] 174 l _ hR (hv.below hba) hl hn hin (fun b off e=>by have:=hfar b off e;exact ⟨by omega,by simp;omega⟩)
 have hB:=h.lt
 have HB:=hide (h.below hba)
 have HBA:=hide hba
 generalize headP l len=R at *
 obtain ⟨H1,H2,H3,H4⟩:=R
 simp only at hH ⊢
 have HSZ:Hid (w.heap.size < (w.alloc (.cells #[.slice a n c,.int .i64 0,.int .i64 len] 174)).heap.size):=by show _ < _;simp
 clear hba hR h hv hl hn hin hfar
 go_enter Tryz.func94,Tryz.ntmps94
 go_wp2_with fail
 generalize w.alloc (.cells #[.slice a n c,.int .i64 0,.int .i64 len] 174)=W at *
 refine hH.mono ?_
 rintro x w1 ⟨rfl,hg1⟩
 have hs:=HSZ.out
 have hs1:=hg1.size
 have hB1:MBld w1 B gen bnd v wd:=(hg1.block B (by omega) (by simp;omega)).trans HB.out
 have hG1:w.grownBy w1 (some B):=⟨hg1.os.trans HBA.out.os,hg1.tape.trans HBA.out.tape,hg1.output.trans HBA.out.output,Nat.le_trans HBA.out.size hg1.size,fun k hk _=>(hg1.block k (by omega) (by simp;omega)).trans (HBA.out.block k hk)⟩
 have hba:Below w1.heap.size w1 ((w1.alloc (.cells #[.int .u32 H1,.int .u32 H2] 100)).alloc (.cells #[.int .i64 H3,.int .i64 H4] 28)):=((Below.refl _ w1).alloc (Nat.le_refl _) _).alloc (by simp) _
 have HG2:=hide (grown_bel hG1 hba)
 obtain ⟨cb,fb⟩:=blk_cells hB1
 have b0:=cb 0
 have b1:=cb 1
 have b2:=cb 2
 have b3:=cb 3
 have HX:Hid (MBld ((((w1.setCell ⟨B,0,none⟩ (.int .u32 H1)).setCell ⟨B,1,none⟩ (.int .u32 H2)).setCell ⟨B,2,none⟩ (.slice none 0 0)).setCell ⟨B,3,none⟩ (.int .i64 5)) B H1 H2 (.slice none 0 0) 5∧w.grownBy ((((w1.setCell ⟨B,0,none⟩ (.int .u32 H1)).setCell ⟨B,1,none⟩ (.int .u32 H2)).setCell ⟨B,2,none⟩ (.slice none 0 0)).setCell ⟨B,3,none⟩ (.int .i64 5)) (some B)):=by
  refine ⟨?_,grown_set (grown_set (grown_set (grown_set hG1 0 _) 1 _) 2 _) 3 _⟩
  have hB1':w1.heap[B]?=some (.cells #[.int .u32 gen,.int .u32 bnd,v,.int .i64 wd] 116 (0,0)):=hB1
  unfold MBld
  simp [World.setCell,Array.getElem?_modify,hB1']
 have hlb:B < w1.heap.size:=by omega
 clear hH hs hs1 hB1 hG1 hba hg1 HB HBA cb
 by_cases hE:H3=0
 ·subst hE
  go_wp2_with fail
  generalize (((w1.setCell ⟨B,0,none⟩ (.int .u32 H1)).setCell ⟨B,1,none⟩ (.int .u32 H2)).setCell ⟨B,2,none⟩ (.slice none 0 0)).setCell ⟨B,3,none⟩ (.int .i64 5)=X at *
  have hbx:Below X.heap.size X ((X.alloc (.cells #[.int .u32 H1,.int .u32 H2] 100)).alloc (.cells #[.int .i64 0,.int .i64 H4] 28)):=((Below.refl _ X).alloc (Nat.le_refl _) _).alloc (by simp) _
  go_ret
  exact ⟨rfl,grown_bel HX.out.2 hbx,HX.out.1.below hbx⟩
 ·have hE':(H3 != 0)=true:=by simpa using hE
  have HE:=hide hE
  clear hE
  go_wp2_with fail
  go_ret
  exact ⟨rfl,HG2.out,fun h=>absurd h HE.out⟩
theorem Inst7.info:(Tryz.prog.info? 49).map (fun i=>(i.zero,i.size,i.bytes))=some (some (.agg #[.int .u16 0,.int .u32 0,.int .u32 0,.slice none 0 0]),4,40):=by kernel_rfl
structure Insts (w : World) (B lo : Nat) (v : Value) (xs : List InstT) : Prop where
  row : ∃ cs, w.ownsRow lo 49 4 v xs.length cs ∧ RowI w lo v.ownBlock xs cs
  lt : B < lo
  le : lo ≤ w.heap.size
def AddQ (w w':World) (B lo:Nat) (gen bnd:Int) (v:Value) (wd:Int) (xs:List InstT) (R:LineR) (E:Int):Prop :=
 (E≠0∧R.2.1=false∧E=R.2.2.1) ∨ (E=4∧R.2.1=true∧1048576 < wd+(1+((rawWs R.1 bnd).length:Int))) ∨
 (E=0∧R.2.1=true∧InstOk R.1∧rawE R.1 bnd=0∧wd+(1+((rawWs R.1 bnd).length:Int))≤1048576∧∃ v',MBld w' B gen bnd v' (wd+(1+((rawWs R.1 bnd).length:Int)))∧Insts w' B lo v' (xs ++ [R.1]))
set_option maxHeartbeats 8000000 in
theorem addInst_any (B lo:Nat) (gen bnd:Int) (v:Value) (wd:Int) (xs:List InstT) (a:Option Addr) (n c:Nat) (len:Int) (l:List TokT) (w:World) (h:MBld w B gen bnd v wd) (hi:Insts w B lo v xs) (hw0:0≤wd) (hw1:wd≤1048576) (hx:xs.length≤16777216) (hv:ToksV w a l) (hl:l.length=n) (hn:32 * n≤140737488351232) (hin:ToksIn l) (hkd:∀ t ∈ l,t.1≠0) (h1:0 < n) (hfar:∀ b off,a=some ⟨b,off,none⟩→b < w.heap.size) :
  Calls Tryz.prog 95 #[.pointer (some ⟨B,0,none⟩),.agg #[.slice a n c,.int .i64 0,.int .i64 len]] w fun e w'=>∃ E:Int,e=.returned (.int .i64 E)∧Two w B v.ownBlock w'∧AddQ w w' B lo gen bnd v wd xs (lineP l len bnd) E:=by
 obtain ⟨R,hRR⟩:∃ R,R=lineP l len bnd:=⟨_,rfl⟩
 rw [← hRR]
 have HRR0:=hide hRR
 clear hRR
 have hba:Below w.heap.size w (w.alloc (.cells #[.slice a n c,.int .i64 0,.int .i64 len] 174)):=(Below.refl _ w).alloc (Nat.le_refl _) _
 have hB:=h.lt
 have HB:=hide (h.below hba)
 have HV:=hide (hv.below hba)
 have HBA:=hide hba
 have HI:=hide hi
 have HIN:=hide hin
 have HKD:=hide hkd
 have HFAR:=hide hfar
 have r0:(w.alloc (.cells #[.slice a n c,.int .i64 0,.int .i64 len] 174)).cell? ⟨w.heap.size,0,none⟩=some (.slice a n c):=(blk_cells (heap_alloc_new w _)).1 0
 have r1:(w.alloc (.cells #[.slice a n c,.int .i64 0,.int .i64 len] 174)).cell? ⟨w.heap.size,1,none⟩=some (.int .i64 0):=(blk_cells (heap_alloc_new w _)).1 1
 have r2:(w.alloc (.cells #[.slice a n c,.int .i64 0,.int .i64 len] 174)).cell? ⟨w.heap.size,2,none⟩=some (.int .i64 len):=(blk_cells (heap_alloc_new w _)).1 2
 have HR:=hide (And.intro r0 (And.intro r1 r2))
 have b1:(w.alloc (.cells #[.slice a n c,.int .i64 0,.int .i64 len] 174)).cell? ⟨B,1,none⟩=some (.int .u32 bnd):=(blk_cells HB.out).1 1
 have HB1:=hide b1
 have HSZ:Hid (w.heap.size < (w.alloc (.cells #[.slice a n c,.int .i64 0,.int .i64 len] 174)).heap.size):=by show _ < _;simp
 clear hba h hv hin hkd hfar hi r0 r1 r2 b1
 go_enter Tryz.func95,Tryz.ntmps95
 go_wp2_with fail
 generalize w.alloc (.cells #[.slice a n c,.int .i64 0,.int .i64 len] 174)=W at *
 obtain ⟨r0,r1,r2⟩:=HR.out
 have b1:=HB1.out
 have lB:B < W.heap.size:=HB.out.lt
 have lw:=HSZ.out
 go_region
 have hba2:Below W.heap.size W (W.alloc (.cells #[.slice a n c,.int .i64 0,.int .i64 len,.int .u32 bnd,.int .u16 0,.string ⟨#[]⟩,.bool false,.bool false,.string ⟨#[]⟩,.string ⟨#[]⟩,.int .i64 0,.int .u8 0,.int .u16 0,.int .u32 0,.int .u32 0,.slice none 0 0,.int .i64 0] 203)).drew:=((Below.refl _ W).alloc (Nat.le_refl _) _).drew
 have hrd:Rea (W.alloc (.cells #[.slice a n c,.int .i64 0,.int .i64 len,.int .u32 bnd,.int .u16 0,.string ⟨#[]⟩,.bool false,.bool false,.string ⟨#[]⟩,.string ⟨#[]⟩,.int .i64 0,.int .u8 0,.int .u16 0,.int .u32 0,.int .u32 0,.slice none 0 0,.int .i64 0] 203)).drew W.heap.size a n c 0 len bnd 0 noFrm 0 0 0 (.slice none 0 0) 0:=Rea.mk (heap_alloc_new W _)
 have hC:=read_any W.heap.size a n c len bnd l _ hrd (HV.out.below hba2) hl hn HIN.out HKD.out h1 (fun g off e=>by have:=HFAR.out g off e;omega)
 have HB2:=hide (HB.out.below hba2)
 have HBA2:=hide (HBA.out.trans (hba2.mono HBA.out.size))
 have HSZ2:Hid (W.heap.size < (W.alloc (.cells #[.slice a n c,.int .i64 0,.int .i64 len,.int .u32 bnd,.int .u16 0,.string ⟨#[]⟩,.bool false,.bool false,.string ⟨#[]⟩,.string ⟨#[]⟩,.int .i64 0,.int .u8 0,.int .u16 0,.int .u32 0,.int .u32 0,.slice none 0 0,.int .i64 0] 203)).drew.heap.size):=by show _ < (W.alloc _).heap.size;simp
 clear r0 r1 r2 b1 hba2 hrd HB HBA HB1 HR HV
 go_wp2_with fail
 generalize (W.alloc (.cells #[.slice a n c,.int .i64 0,.int .i64 len,.int .u32 bnd,.int .u16 0,.string ⟨#[]⟩,.bool false,.bool false,.string ⟨#[]⟩,.string ⟨#[]⟩,.int .i64 0,.int .u8 0,.int .u16 0,.int .u32 0,.int .u32 0,.slice none 0 0,.int .i64 0] 203)).drew=W2 at *
 refine hC.mono ?_
 rintro x w3 ⟨E,P,rfl,hg3,hq3⟩
 have s2:=HSZ2.out
 have s3:=hg3.size
 have hb3:Below w.heap.size w w3:=⟨hg3.os.trans HBA2.out.os,hg3.tape.trans HBA2.out.tape,hg3.output.trans HBA2.out.output,Nat.le_trans HBA2.out.size hg3.size,fun j hj=>(hg3.block j (by omega) (by simp;omega)).trans (HBA2.out.block j hj)⟩
 have hB3:MBld w3 B gen bnd v wd:=(hg3.block B (by omega) (by simp;omega)).trans HB2.out
 have hba3:Below w3.heap.size w3 (w3.alloc (.cells #[.int .i64 E,.int .i64 P] 28)):=(Below.refl _ _).alloc (Nat.le_refl _) _
 have HB3:=hide hb3
 have HBD3:=hide hB3
 rw [← HRR0.out] at hq3
 rcases hq3 with ⟨hE,hR⟩ | ⟨hE,hP,o,t,r,ys,ax,m,cx,k,q1,q2,q3,q4,q5,q6⟩
 ·have hE':(E != 0)=true:=by simpa using hE
  have HE:=hide hE
  have HRR:=hide hR
  clear hE hR hg3 hb3 hB3 hba3 hC HI HIN HKD HFAR
  go_wp2_with fail
  refine bodyPost_ret (v:=.int .i64 E) ?_ rfl ⟨E,rfl,Two.of_below (HB3.out.trans (((Below.refl _ w3).alloc (Nat.le_refl _) _).mono HB3.out.size)),.inl ⟨HE.out,by rw [HRR.out];rfl,by rw [HRR.out];rfl⟩⟩
  simp [results,Tryz.results95,go_sem]
 ·subst hE
  subst hP
  have HQ1:=hide q1
  generalize hrl:1+((rawWs ((o:Int),t,r,ys) bnd).length:Int)=rl at *
  have hrl1:1≤rl∧rl≤65536:=by have:=rawWs_len ((o:Int),t,r,ys) bnd;omega
  have HRL:=hide hrl
  have q2a:=q2.below hba3
  have hB3a:=hB3.below hba3
  have q3a:=own_below q3 hba3
  have hb3a:=hb3.trans (hba3.mono hb3.size)
  obtain ⟨cr,_⟩:=blk_cells q2a.block
  obtain ⟨cb,fb⟩:=blk_cells hB3a
  have z12:(w3.alloc (.cells #[.int .i64 0,.int .i64 0] 28)).cell? ⟨W.heap.size,12,none⟩=some (.int .u16 (o:Int)):=cr 12
  have z13:(w3.alloc (.cells #[.int .i64 0,.int .i64 0] 28)).cell? ⟨W.heap.size,13,none⟩=some (.int .u32 t):=cr 13
  have z14:(w3.alloc (.cells #[.int .i64 0,.int .i64 0] 28)).cell? ⟨W.heap.size,14,none⟩=some (.int .u32 r):=cr 14
  have z15:(w3.alloc (.cells #[.int .i64 0,.int .i64 0] 28)).cell? ⟨W.heap.size,15,none⟩=some (.slice ax m cx):=cr 15
  have z16:(w3.alloc (.cells #[.int .i64 0,.int .i64 0] 28)).cell? ⟨W.heap.size,16,none⟩=some (.int .i64 rl):=cr 16
  have y2:(w3.alloc (.cells #[.int .i64 0,.int .i64 0] 28)).cell? ⟨B,2,none⟩=some v:=cb 2
  have y3:(w3.alloc (.cells #[.int .i64 0,.int .i64 0] 28)).cell? ⟨B,3,none⟩=some (.int .i64 wd):=cb 3
  have HZ:=hide (And.intro z12 (And.intro z13 (And.intro z14 (And.intro z15 (And.intro z16 (And.intro y2 (And.intro y3 fb)))))))
  have HO3:=hide q3a
  have HREA:=hide q2a.block
  have HB4:=hide hB3a
  have HBB:=hide hb3a
  have HQ:=hide (And.intro q4 (And.intro q5 q6))
  have HSP:=hide (And.intro ((blk_cells (heap_alloc_new w3 (.cells #[.int .i64 0,.int .i64 0] 28))).1 0) ((blk_cells (heap_alloc_new w3 (.cells #[.int .i64 0,.int .i64 0] 28))).1 1))
  have HSW:Hid (w3.heap.size < (w3.alloc (.cells #[.int .i64 0,.int .i64 0] 28)).heap.size∧W.heap.size < w3.heap.size):=⟨by simp,by omega⟩
  have HSW2:Hid (W2.heap.size≤w3.heap.size):=s3
  have hsum:IntKind.i64.wrap (wd+rl)=wd+rl:=by rw [IntKind.wrap_i64];omega
  clear q1 q2 q3 q4 q5 q6 q2a hB3a q3a hb3a cr cb fb hg3 hb3 hB3 hba3 hC HBD3 HIN HKD HFAR HB2 HBA2 HB3 hrl s3
  go_wp2_with fail
  generalize w3.alloc (.cells #[.int .i64 0,.int .i64 0] 28)=W4 at *
  obtain ⟨z12,z13,z14,z15,z16,y2,y3,fb⟩:=HZ.out
  have nB:W.heap.size≠B:=by omega
  have nB2:B≠W.heap.size:=by omega
  go_region
  all_goals
   have hB5:=HB4.out.setWords (wd+rl)
   have HB5:Hid (MBld (W4.setCell ⟨B,3,none⟩ (.int .i64 (wd+rl))).drew B gen bnd v (wd+rl)):=hB5
   have HZ5:Hid ((W4.setCell ⟨B,3,none⟩ (.int .i64 (wd+rl))).drew.heap[W.heap.size]?=W4.heap[W.heap.size]?):=Below.heap_setCell _ _ _ _ (by simpa using nB)
   have HW0:Hid (Below (w.setCell ⟨B,3,none⟩ (.int .i64 (wd+rl))).heap.size (w.setCell ⟨B,3,none⟩ (.int .i64 (wd+rl))) (W4.setCell ⟨B,3,none⟩ (.int .i64 (wd+rl))).drew):=by
    have hb:=HBB.out
    refine ⟨hb.os,hb.tape,hb.output,by show _≤(W4.setCell _ _).heap.size;rw [World.size_setCell,World.size_setCell];exact hb.size,fun k hk=>?_⟩
    rw [World.size_setCell] at hk
    show (W4.setCell _ _).heap[k]?=_
    simp only [World.setCell,Array.getElem?_modify,hb.block k hk]
   have HO5:Hid ((W4.setCell ⟨B,3,none⟩ (.int .i64 (wd+rl))).drew.ownsRow (W2.heap.size+3) 87 3 (.slice ax m cx) m (ys.flatMap argC)):=own_below (ownsRow_setCell_below HO3.out (a:=⟨B,3,none⟩) (by simp;omega) _) (Below.refl _ _).drew
   have HSZ5:Hid (W2.heap.size≤(W4.setCell ⟨B,3,none⟩ (.int .i64 (wd+rl))).drew.heap.size∧W.heap.size < (W4.setCell ⟨B,3,none⟩ (.int .i64 (wd+rl))).drew.heap.size):=by
    have:(W4.setCell ⟨B,3,none⟩ (.int .i64 (wd+rl))).drew.heap.size=W4.heap.size:=World.size_setCell _ _ _
    rw [this]
    have:=HSW.out
    have:=HSW2.out
    exact ⟨by omega,by omega⟩
   clear hB5 z12 z13 z14 z15 z16 y2 y3 fb HZ HB4
   have HZ6:Hid (W4.heap[W.heap.size]?=some (.cells (rdCells a n c k len bnd (o:Int) (opF o) (o:Int) t r (.slice ax m cx) rl) 203 (0,0))):=HREA.out
   generalize (W4.setCell ⟨B,3,none⟩ (.int .i64 (wd+rl))).drew=W5 at *
   have kR:=HZ5.out.trans HZ6.out
   obtain ⟨cr,_⟩:=blk_cells kR
   obtain ⟨cb,fb⟩:=blk_cells HB5.out
   have b3:W5.cell? ⟨B,3,none⟩=some (.int .i64 (wd+rl)):=cb 3
   have b2:W5.cell? ⟨B,2,none⟩=some v:=cb 2
   have z12:W5.cell? ⟨W.heap.size,12,none⟩=some (.int .u16 (o:Int)):=cr 12
   have z13:W5.cell? ⟨W.heap.size,13,none⟩=some (.int .u32 t):=cr 13
   have z14:W5.cell? ⟨W.heap.size,14,none⟩=some (.int .u32 r):=cr 14
   have z15:W5.cell? ⟨W.heap.size,15,none⟩=some (.slice ax m cx):=cr 15
   have hwe:(w.setCell ⟨B,3,none⟩ (.int .i64 (wd+rl))).heap.size=w.heap.size:=World.size_setCell _ _ _
   have HTW:Hid (∀ k,k < w.heap.size→k≠B→W5.heap[k]?=w.heap[k]?):=fun k hk hkB=>(HW0.out.block k (by rw [hwe];exact hk)).trans (Below.heap_setCell _ _ _ _ (by simpa using hkB))
   clear kR cr cb HZ5 HZ6 HREA
   by_cases hbig:1048576 < wd+rl
   ·have hbig':decide ((1048576:Int) < wd+rl)=true:=by simpa using hbig
    have HBIG:=hide hbig
    clear hbig b2 z12 z13 z14 z15 hwe
    go_wp2_with fail
    refine bodyPost_ret (v:=.int .i64 4) ?_ rfl ⟨4,rfl,⟨HW0.out.os,HW0.out.tape,HW0.out.output,by have:=HW0.out.size;rw [World.size_setCell] at this;exact this,fun k hk hB _=>HTW.out k hk hB⟩,.inr (.inl ⟨rfl,by rw [HQ1.out],?_⟩)⟩
    ·simp [results,Tryz.results95,go_sem]
    ·rw [HQ1.out];simp only;rw [HRL.out];exact HBIG.out
   ·have hbig':decide ((1048576:Int) < wd+rl)=false:=by simpa using hbig
    have HBIG:=hide hbig
    obtain ⟨cs,hown,hrow⟩:=HI.out.row
    have hloB:=HI.out.lt
    have hlow:=HI.out.le
    have hown0:=ownsRow_setCell_below hown (a:=⟨B,3,none⟩) (by simpa using hloB) (.int .i64 (wd+rl))
    have hrow0:=hrow.grown (grown_set (World.grownBy.refl w (some B)) 3 (.int .i64 (wd+rl))) (fun g e=>by simp only [Option.some.injEq] at e;subst e;exact .inl hloB)
    have hown5:=own_below hown0 HW0.out
    have hob:∀ g,v.ownBlock=some g→lo≤g∧g < w.heap.size:=fun g e=>hown.lt g e
    obtain ⟨i0,hi,hz0,hz1,hz2⟩:=info_parts Inst7.info
    have hba:Below W5.heap.size W5 (W5.alloc (.cells #[.int .u16 (o:Int),.int .u32 t,.int .u32 r,.slice ax m cx] 49)).drew:=((Below.refl _ W5).alloc (Nat.le_refl _) _).drew
    have hszw:w.heap.size≤W5.heap.size:=by have:=HW0.out.size;rw [hwe] at this;exact this
    have HBA5:=hide hba
    have HROW0:=hide hrow0
    have HOWN5:=hide hown5
    have HOB:=hide hob
    have HSX:=hide HSZ5.out
    have HSYZ:Hid ((W5.alloc (.cells #[.int .u16 (o:Int),.int .u32 t,.int .u32 r,.slice ax m cx] 49)).drew.heap.size=W5.heap.size+1):=by show (W5.alloc _).heap.size=_;simp
    have lB5:B < W5.heap.size:=by omega
    have lW5:W.heap.size < W5.heap.size:=HSZ5.out.2
    clear hbig hown hrow hown0 hrow0 hown5 hba HI HSZ5 hob hwe
    go_wp2_with fail
    go_region_law ((refine step_append_lies _ (by rfl) _ _ _ (by rfl) lo 49 i0 (.agg #[.int .u16 0,.int .u32 0,.int .u32 0,.slice none 0 0]) 4 40 Tryz.underlying23 hi hz0 hz1 hz2 rfl (by omega) v xs.length cs (by rfl) ((HOWN5.out.alloc _).drew) ⟨W5.heap.size,0,none⟩ 1 1 [.int .u16 (o:Int),.int .u32 t,.int .u32 r,.slice ax m cx] (by rfl) (by rfl) (World.news_of_block (cs:=#[.int .u16 (o:Int),.int .u32 t,.int .u32 r,.slice ax m cx]) (t:=49) (fr:=(0,0)) (heap_alloc_new W5 _)) (by simp [Value.oneCell']) (by omega) (by unfold maxLen;omega) (by omega) (by simp;omega) (W5.heap.size+1) (by simp) ?_;intro g6 cap6 w6 hown6 hgrow6 hat6 hlt6;have HB6:Hid (MBld w6 B gen bnd v (wd+rl)):=(hgrow6.block B (by simp;omega) (fun e=>by have:=HOB.out B e.symm;omega)).trans ((HBA5.out.block B lB5).trans HB5.out);have d2:w6.cell? ⟨B,2,none⟩=some v:=(blk_cells HB6.out).1 2;have e2:w6.frozen? ⟨B,2,none⟩=false:=(blk_cells HB6.out).2 2;have HO6:=hide hown6;have HG6:=hide hgrow6;have HA6:=hide hat6;clear hown6 hgrow6 hat6))
    all_goals
     have hpush:=RowI.push (w0:=w.setCell ⟨B,3,none⟩ (.int .i64 (wd+rl))) (x:=((o:Int),t,r,ys)) HROW0.out (HW0.out.trans (HBA5.out.mono HW0.out.size)) (own_mono7 (own_below HO5.out HBA5.out) (B':=(w.setCell ⟨B,3,none⟩ (.int .i64 (wd+rl))).heap.size) (by rw [World.size_setCell];have:=HSX.out;omega)) HQ.out.1 (fun b e=>by rw [World.size_setCell];exact (HOB.out b e).2) (by rw [World.size_setCell];exact hlow) HG6.out (by rw [HSYZ.out];exact HA6.out)
     have HB7:=hide (HB6.out.setInsts (.slice (some ⟨g6,0,none⟩) (xs.length+1) cap6))
     have HO7:=hide (ownsRow_setCell_below HO6.out (a:=⟨B,2,none⟩) (by simpa using hloB) (.slice (some ⟨g6,0,none⟩) (xs.length+1) cap6))
     have HR7:=hide (hpush.grown (grown_set (World.grownBy.refl w6 (some B)) 2 (.slice (some ⟨g6,0,none⟩) (xs.length+1) cap6)) (fun g e=>by simp only [Option.some.injEq] at e;subst e;exact .inl hloB))
     have HT7:Hid (Two w B v.ownBlock (w6.setCell ⟨B,2,none⟩ (.slice (some ⟨g6,0,none⟩) (xs.length+1) cap6))):=by
      have h0:=HW0.out
      have h5:=HBA5.out
      have h6:=HG6.out
      refine ⟨h6.os.trans (h5.os.trans h0.os),h6.tape.trans (h5.tape.trans h0.tape),h6.output.trans (h5.output.trans h0.output),?_,fun k hk hB hne=>?_⟩
      ·rw [World.size_setCell];exact Nat.le_trans hszw (Nat.le_trans h5.size h6.size)
      ·rw [Below.heap_setCell _ _ _ _ (by simpa using hB)]
       exact (h6.block k (by rw [HSYZ.out];omega) hne).trans ((h5.block k (by omega)).trans (HTW.out k hk hB))
     have HLE7:Hid (lo≤(w6.setCell ⟨B,2,none⟩ (.slice (some ⟨g6,0,none⟩) (xs.length+1) cap6)).heap.size):=by
      show _≤_
      rw [World.size_setCell]
      have:=HG6.out.size
      rw [HSYZ.out] at this
      omega
     clear hpush HB6 HO6 HG6 HA6 d2 e2 b3 b2 z12 z13 z14 z15 HO5 HW0 HBA5 HROW0 HOWN5
     generalize w6.setCell ⟨B,2,none⟩ (.slice (some ⟨g6,0,none⟩) (xs.length+1) cap6)=Z at *
     go_wp2_with fail
     refine bodyPost_ret (v:=.int .i64 0) ?_ rfl ⟨0,rfl,HT7.out,.inr (.inr ?_)⟩
     ·simp [results,Tryz.results95,go_sem]
     ·rw [HQ1.out]
      refine ⟨rfl,rfl,HQ.out.2.1,HQ.out.2.2,by rw [HRL.out];have:=HBIG.out;omega,.slice (some ⟨g6,0,none⟩) (xs.length+1) cap6,by rw [HRL.out];exact HB7.out,⟨⟨_,by rw [List.length_append];exact HO7.out,HR7.out⟩,hloB,HLE7.out⟩⟩
theorem wok_kind {l:List TokT} (h:wOk l=true):∀ t ∈ l,t.1≠0:=by
 intro t ht e
 have:=List.all_eq_true.1 h t ht
 rw [e] at this
 simp [tokOk] at this
end Go.Proofs.YtddkapkkjhomkabGreatDoor
