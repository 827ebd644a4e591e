/-
  Texts in one: Law05Same, GraphSame, GraphContains, ArgFunc, Draw, DrawE, GraphFuncsAt, MapU, IdsMakers.
-/
import Derived.Test.YtlcaedibmlidlaaGreatB09
import Derived.Test.YtlcaedibmlidlaaGreatB04
import Derived.OrdersIn
import Derived.Maps.OwnSet
namespace Go.Proofs.YtlcaedibmlidlaaGreat
open Go.RowKit
set_option linter.unusedVariables false
set_option linter.unusedSimpArgs false
set_option maxRecDepth 10000
def FuncsR (w:World) (v:Value) (fs:List FuncT):Prop :=
 ∃ x c,v=.slice x fs.length c∧∀ j,j<fs.length→∃ F xp cp xq cq,x=some ⟨F,0,none⟩∧F<w.heap.size ∧
   w.cell? ⟨F,j * 5,none⟩=some (.int .u32 (nthF fs j).1)∧w.cell? ⟨F,j * 5+1,none⟩=some (.int .i64 (nthF fs j).2.1)∧w.cell? ⟨F,j * 5+2,none⟩=some (.slice xp (nthF fs j).2.2.1.length cp)∧w.cell? ⟨F,j * 5+3,none⟩=some (.slice xq (nthF fs j).2.2.2.1.length cq)∧w.cell? ⟨F,j * 5+4,none⟩=some (.int .i64 (nthF fs j).2.2.2.2) ∧
   View .i64 w xp (nthF fs j).2.2.1 ∧
   ∀ k,k<(nthF fs j).2.2.2.1.length→∃ G,xq=some ⟨G,0,none⟩∧G<w.heap.size∧w.cell? ⟨G,k * 3,none⟩=some (.int .u32 (nthB (nthF fs j).2.2.2.1 k).1)∧w.cell? ⟨G,k * 3+1,none⟩=some (.int .i64 (nthB (nthF fs j).2.2.2.1 k).2.1)∧w.cell? ⟨G,k * 3+2,none⟩=some (.int .i64 (nthB (nthF fs j).2.2.2.1 k).2.2)
theorem FuncsAt.readV {w:World} {lo:Nat} {fv:Value} {fs:List FuncT} (h:FuncsAt w lo fv fs):FuncsR w fv fs:=by
 obtain⟨V,hV⟩:=h
 have htop:=hV.own none trivial
 obtain⟨x,c,hx⟩:=own_len htop
 simp only [rowF] at hx
 refine⟨x,c,hx,fun j hj=>?_⟩
 obtain⟨F,c1,e,h1,h2,h3,h4,h5⟩:=own_form htop (show 0<fs.length by omega)
 simp only [rowF] at e h5
 have hp:=hV.own (some (false,j)) hj
 have hq:=hV.own (some (true,j)) hj
 obtain⟨xp,cp,hxp⟩:=own_len hp
 obtain⟨xq,cq,hxq⟩:=own_len hq
 simp only [rowF] at hxp hxq
 have hc:∀ i,i<5→w.cell? ⟨F,j * 5+i,none⟩=(fC (nthF fs j) (V false j) (V true j))[i]?:=fun i hi=>by
  rw [h5 _ (by have:=hj;omega),cellsF_get fs V _ j i hj hi]
 rw [hxp,hxq] at hc
 rw [hx] at e
 injection e with e _ _
 simp only [rowF,RowX.own] at hp
 rw [hxp] at hp
 refine⟨F,xp,cp,xq,cq,e,h2,hc 0 (by omega),hc 1 (by omega),hc 2 (by omega),hc 3 (by omega),hc 4 (by omega),View.ofOwn hp rfl,fun k hk=>?_⟩
 obtain⟨G,c2,e2,k1,k2,k3,k4,k5⟩:=own_form hq (show 0<_ by exact Nat.lt_of_le_of_lt (Nat.zero_le k) hk)
 simp only [rowF] at e2 k5
 rw [hxq] at e2
 injection e2 with e2 _ _
 have hc2:∀ i,i<3→w.cell? ⟨G,k * 3+i,none⟩=(bC (nthB (nthF fs j).2.2.2.1 k))[i]?:=fun i hi=>by
  rw [k5 _ (by have:=hk;omega),bC_get _ k i hk hi]
 exact⟨G,e2,k2,hc2 0 (by omega),hc2 1 (by omega),hc2 2 (by omega)⟩
theorem FuncsR.nil (w:World):FuncsR w (.slice none 0 0) []:=⟨none,0,rfl,fun j hj=>absurd hj (Nat.not_lt_zero j)⟩
theorem FuncsR.below {w w':World} {v:Value} {fs:List FuncT} (h:FuncsR w v fs) (hb:Below w.heap.size w w'):FuncsR w' v fs:=by
 obtain⟨x,c,hx,h⟩:=h
 refine⟨x,c,hx,fun j hj=>?_⟩
 obtain⟨F,xp,cp,xq,cq,e,h2,q0,q1,q2,q3,q4,hv,hk⟩:=h j hj
 refine⟨F,xp,cp,xq,cq,e,Nat.lt_of_lt_of_le h2 hb.size,(hb.cell (p:=⟨F,j * 5,none⟩) h2).trans q0,(hb.cell (p:=⟨F,j * 5+1,none⟩) h2).trans q1,(hb.cell (p:=⟨F,j * 5+2,none⟩) h2).trans q2,(hb.cell (p:=⟨F,j * 5+3,none⟩) h2).trans q3,(hb.cell (p:=⟨F,j * 5+4,none⟩) h2).trans q4,hv.below hb,fun k hkk=>?_⟩
 obtain⟨G,e2,k2,t0,t1,t2⟩:=hk k hkk
 exact⟨G,e2,Nat.lt_of_lt_of_le k2 hb.size,(hb.cell (p:=⟨G,k * 3,none⟩) k2).trans t0,(hb.cell (p:=⟨G,k * 3+1,none⟩) k2).trans t1,(hb.cell (p:=⟨G,k * 3+2,none⟩) k2).trans t2⟩
def FewF (fs:List FuncT):Prop:=fs.length≤1048576∧∀ j,(nthF fs j).2.2.1.length≤1048576∧(nthF fs j).2.2.2.1.length≤1048576
def BlkV (w:World) (x:Option Addr) (bs:List (Int×Int×Int)):Prop :=
 ∀ k,k<bs.length→∃ G o,x=some ⟨G,o,none⟩∧G<w.heap.size∧w.cell? ⟨G,o+k * 3,none⟩=some (.int .u32 (nthB bs k).1)∧w.cell? ⟨G,o+k * 3+1,none⟩=some (.int .i64 (nthB bs k).2.1)∧w.cell? ⟨G,o+k * 3+2,none⟩=some (.int .i64 (nthB bs k).2.2)
theorem BlkV.below {w w':World} {x:Option Addr} {bs:List (Int×Int×Int)} (h:BlkV w x bs) (hb:Below w.heap.size w w'):BlkV w' x bs:=fun k hk=>by
 obtain⟨G,o,e,h1,h2,h3,h4⟩:=h k hk
 exact⟨G,o,e,Nat.lt_of_lt_of_le h1 hb.size,(hb.cell (p:=⟨G,o+k * 3,none⟩) h1).trans h2,(hb.cell (p:=⟨G,o+k * 3+1,none⟩) h1).trans h3,(hb.cell (p:=⟨G,o+k * 3+2,none⟩) h1).trans h4⟩
theorem takeB_ext {α:Type} (d:α) {l m:List α} (h:l.length=m.length) (h2:∀ k,k<l.length→l.getD k d=m.getD k d):l=m:=by
 apply List.ext_getElem h
 intro k h1 h3
 have:=h2 k h1
 simpa [List.getD,h1,h3] using this
theorem drewS {w wx:World} (h:Below w.heap.size w wx) (q:Nat):Below w.heap.size w (wx.drewN q):=by
 induction q generalizing wx with
 | zero=>exact h
 | succ q ih=>exact (ih h).drew
set_option maxHeartbeats 2000000 in
theorem equalInts_any (a b:Option Addr) (ca cb:Nat) (l m:List Int) (w:World) (ha:View .i64 w a l) (hb:View .i64 w b m) (hl:l.length≤17592186044416) (hm:m.length≤17592186044416) :
  Calls Tryz.prog 89 #[.slice a l.length ca,.slice b m.length cb] w fun e w'=>(∃ r,e=.returned (.bool r)∧(r=true↔l=m))∧Below w.heap.size w w':=by
 by_cases hlen:l.length=m.length
 ·have HA:=hide ha
  have HB:=hide hb
  have HE:Hid ((∀ k,k<l.length→nth l k=nth m k)→l=m):=fun h=>takeB_ext 0 hlen h
  have hnn:((l.length:Int) != (m.length:Int))=false:=by simp [hlen]
  have hni:(l.length:Int)≤17592186044416:=by omega
  rw [← hlen] at hnn ⊢
  generalize hnl:l.length=n at *
  have HN:=hide hnl
  have HM:=hide (show m.length=n by omega)
  clear ha hb hl hm hlen hnl
  go_enter Tryz.func89,Tryz.ntmps89
  go_wp2_with fail
  go_loopw [13] (fun i wr=>∃ k:Nat,k≤n∧i=.int .i64 k∧(∀ j,j<k→nth l j=nth m j)∧Below w.heap.size w wr) (fun i _=>n - (intOf i).toNat)
  case atStart=>exact⟨0,Nat.zero_le _,rfl,fun j hj=>by omega,Below.refl _ _⟩
  case round =>
   obtain⟨k,hk,rfl,hall,hbr⟩:=hrel
   by_cases hlt:k<n
   ·obtain⟨b1,o1,rfl,_,c1⟩:=(HA.out.below hbr) k (by rw [HN.out];exact hlt)
    obtain⟨b2,o2,rfl,_,c2⟩:=(HB.out.below hbr) k (by rw [HM.out];exact hlt)
    have hki:(k:Int)<(n:Int):=by omega
    have hk0:(0:Int)≤(k:Int):=by omega
    have HLT:=hide hlt
    have HALL:=hide hall
    have HBR:=hide hbr
    have hcase:(nth l k != nth m k)=true∨(nth l k != nth m k)=false:=by cases (nth l k != nth m k) <;> simp
    rcases hcase with hc | hc
    ·have HNE:Hid (¬ l=m):=fun e=>by rw [e] at hc;simp at hc
     generalize nth l k=y1 at *
     generalize nth m k=y2 at *
     clear hall hlt hk hbr
     go_wp2
     go_quiet (fail)
     go_wp2
     go_ret
     exact⟨⟨false,rfl,fun h=>Bool.noConfusion h,fun h=>absurd h HNE.out⟩,drewS HBR.out _⟩
    ·have HEQ:Hid (nth l k=nth m k):=by show _=_;simpa using hc
     generalize hy1:nth l k=y1 at *
     generalize hy2:nth m k=y2 at *
     have HY:=hide (And.intro hy1 hy2)
     clear hall hlt hk hy1 hy2 hbr
     go_wp2
     go_quiet (fail)
     go_wp2
     refine⟨⟨k+1,HLT.out,by simp,fun j hj=>?_,drewS HBR.out _⟩,measZ2 HLT.out⟩
     by_cases e:j=k
     ·subst e;rw [HY.out.1,HY.out.2];exact HEQ.out
     ·exact HALL.out j (by omega)
   ·have e:n=k:=by omega
    subst e
    have HEQ:=hide (HE.out hall)
    have HBR:=hide hbr
    clear hall hk hbr
    go_wp2_with fail
    go_ret
    exact⟨⟨true,rfl,fun _=>HEQ.out,fun _=>rfl⟩,HBR.out⟩
 ·have hnn:((l.length:Int) != (m.length:Int))=true:=by simp;omega
  have HNE:Hid (¬ l=m):=fun e=>hlen (by rw [e])
  clear ha hb hl hm hlen
  generalize l.length=n1 at *
  generalize m.length=n2 at *
  go_enter Tryz.func89,Tryz.ntmps89
  go_wp2_with fail
  go_ret
  exact⟨⟨false,rfl,fun h=>Bool.noConfusion h,fun h=>absurd h HNE.out⟩,Below.refl _ _⟩
set_option maxHeartbeats 2000000 in
theorem equalBlocks_any (a b:Option Addr) (ca cb:Nat) (l m:List (Int×Int×Int)) (w:World) (ha:BlkV w a l) (hb:BlkV w b m) (hl:l.length≤17592186044416) (hm:m.length≤17592186044416) :
  Calls Tryz.prog 90 #[.slice a l.length ca,.slice b m.length cb] w fun e w'=>(∃ r,e=.returned (.bool r)∧(r=true↔l=m))∧Below w.heap.size w w':=by
 by_cases hlen:l.length=m.length
 ·have HA:=hide ha
  have HB:=hide hb
  have HE:Hid ((∀ k,k<l.length→nthB l k=nthB m k)→l=m):=fun h=>takeB_ext _ hlen h
  have hnn:((l.length:Int) != (m.length:Int))=false:=by simp [hlen]
  have hni:(l.length:Int)≤17592186044416:=by omega
  rw [← hlen] at hnn ⊢
  generalize hnl:l.length=n at *
  have HN:=hide hnl
  have HM:=hide (show m.length=n by omega)
  clear ha hb hl hm hlen hnl
  go_enter Tryz.func90,Tryz.ntmps90
  go_wp2_with fail
  go_loopw [13] (fun i wr=>∃ k:Nat,k≤n∧i=.int .i64 k∧(∀ j,j<k→nthB l j=nthB m j)∧Below w.heap.size w wr) (fun i _=>n - (intOf i).toNat)
  case atStart=>exact⟨0,Nat.zero_le _,rfl,fun j hj=>by omega,Below.refl _ _⟩
  case round =>
   obtain⟨k,hk,rfl,hall,hbr⟩:=hrel
   by_cases hlt:k<n
   ·obtain⟨b1,o1,rfl,_,c1,c11,c12⟩:=(HA.out.below hbr) k (by rw [HN.out];exact hlt)
    obtain⟨b2,o2,rfl,_,c2,c21,c22⟩:=(HB.out.below hbr) k (by rw [HM.out];exact hlt)
    have hki:(k:Int)<(n:Int):=by omega
    have hk0:(0:Int)≤(k:Int):=by omega
    have HLT:=hide hlt
    have HALL:=hide hall
    have HBR:=hide hbr
    rcases Decidable.em (nthB l k=nthB m k) with hc | hc
    ·have HEQ:=hide hc
     rw [← hc] at c2 c21 c22
     generalize hy:nthB l k=y at *
     have HY:=hide hy
     obtain⟨p1,p2,p3⟩:=y
     simp only at c1 c11 c12 c2 c21 c22
     clear hall hlt hk hc hy hbr
     go_wp2
     go_quiet (fail)
     go_wp2
     refine⟨⟨k+1,HLT.out,by simp,fun j hj=>?_,drewS HBR.out _⟩,measZ2 HLT.out⟩
     by_cases e:j=k
     ·subst e;rw [HY.out];exact HEQ.out
     ·exact HALL.out j (by omega)
    ·have HNE:Hid (¬ l=m):=fun e=>hc (by rw [e])
     generalize nthB l k=y1 at *
     generalize nthB m k=y2 at *
     obtain⟨p1,p2,p3⟩:=y1
     obtain⟨q1,q2,q3⟩:=y2
     have hcase:(p1==q1)=false∨(p1=q1∧(p2==q2)=false)∨(p1=q1∧p2=q2∧(p3==q3)=false):=by
      by_cases h1:p1=q1
      ·by_cases h2:p2=q2
       ·by_cases h3:p3=q3
        ·exact absurd (by rw [h1,h2,h3]) hc
        ·exact .inr (.inr ⟨h1,h2,by simpa using h3⟩)
       ·exact .inr (.inl ⟨h1,by simpa using h2⟩)
      ·exact .inl (by simpa using h1)
     simp only at c1 c11 c12 c2 c21 c22
     clear hall hlt hk hc hbr
     rcases hcase with h1 | ⟨rfl,h1⟩ | ⟨rfl,rfl,h1⟩
     all_goals
      go_wp2
      go_quiet (fail)
      go_wp2
      go_ret
      exact⟨⟨false,rfl,fun h=>Bool.noConfusion h,fun h=>absurd h HNE.out⟩,drewS HBR.out _⟩
   ·have e:n=k:=by omega
    subst e
    have HEQ:=hide (HE.out hall)
    have HBR:=hide hbr
    clear hall hk hbr
    go_wp2_with fail
    go_ret
    exact⟨⟨true,rfl,fun _=>HEQ.out,fun _=>rfl⟩,HBR.out⟩
 ·have hnn:((l.length:Int) != (m.length:Int))=true:=by simp;omega
  have HNE:Hid (¬ l=m):=fun e=>hlen (by rw [e])
  clear ha hb hl hm hlen
  generalize l.length=n1 at *
  generalize m.length=n2 at *
  go_enter Tryz.func90,Tryz.ntmps90
  go_wp2_with fail
  go_ret
  exact⟨⟨false,rfl,fun h=>Bool.noConfusion h,fun h=>absurd h HNE.out⟩,Below.refl _ _⟩
structure FnR (w : World) (v : Value) (f : FuncT) : Prop where
  form : ∃ xp cp xq cq, v = .agg #[.int .u32 f.1, .int .i64 f.2.1, .slice xp f.2.2.1.length cp, .slice xq f.2.2.2.1.length cq, .int .i64 f.2.2.2.2] ∧ View .i64 w xp f.2.2.1 ∧ BlkV w xq f.2.2.2.1
  few : f.2.2.1.length ≤ 17592186044416 ∧ f.2.2.2.1.length ≤ 17592186044416
theorem FnR.below {w w':World} {v:Value} {f:FuncT} (h:FnR w v f) (hb:Below w.heap.size w w'):FnR w' v f:=by
 obtain⟨xp,cp,xq,cq,e,h1,h2⟩:=h.form
 exact⟨⟨xp,cp,xq,cq,e,h1.below hb,h2.below hb⟩,h.few⟩
theorem fiveCells {w:World} {p T:Nat} {a b c d e:Value} (h:w.heap[p]?=some (.cells #[a,b,c,d,e] T (0,0))):w.cell? ⟨p,0,none⟩=some a∧w.cell? ⟨p,1,none⟩=some b∧w.cell? ⟨p,2,none⟩=some c∧w.cell? ⟨p,3,none⟩=some d∧w.cell? ⟨p,4,none⟩=some e:=by
 refine⟨?_,?_,?_,?_,?_⟩ <;> simp [World.cell?,h]
set_option maxHeartbeats 4000000 in
theorem sameFunc_any (va vb:Value) (f g:FuncT) (w:World) (ha:FnR w va f) (hb:FnR w vb g) :
  Calls Tryz.prog 39 #[va,vb] w fun e w'=>(∃ r,e=.returned (.bool r)∧(r=true↔f=g))∧Below w.heap.size w w':=by
 obtain⟨xp,cp,xq,cq,rfl,hv1,hq1⟩:=ha.form
 obtain⟨yp,dp,yq,dq,rfl,hv2,hq2⟩:=hb.form
 obtain⟨fw1,fw2⟩:=ha.few
 obtain⟨fw3,fw4⟩:=hb.few
 obtain⟨fi,fa,fp,fb,fe⟩:=f
 obtain⟨gi,ga,gp,gb,ge⟩:=g
 simp only at *
 have hba:Below w.heap.size w ((w.alloc (.cells #[.int .u32 fi,.int .i64 fa,.slice xp fp.length cp,.slice xq fb.length cq,.int .i64 fe] 29)).alloc (.cells #[.int .u32 gi,.int .i64 ga,.slice yp gp.length dp,.slice yq gb.length dq,.int .i64 ge] 29)):=((Below.refl _ w).alloc (Nat.le_refl _) _).alloc (by simp) _
 have k0:=allocOld (allocNew w (.cells #[.int .u32 fi,.int .i64 fa,.slice xp fp.length cp,.slice xq fb.length cq,.int .i64 fe] 29) rfl) (.cells #[.int .u32 gi,.int .i64 ga,.slice yp gp.length dp,.slice yq gb.length dq,.int .i64 ge] 29)
 have k1:=allocNew (w.alloc (.cells #[.int .u32 fi,.int .i64 fa,.slice xp fp.length cp,.slice xq fb.length cq,.int .i64 fe] 29)) (.cells #[.int .u32 gi,.int .i64 ga,.slice yp gp.length dp,.slice yq gb.length dq,.int .i64 ge] 29) (n:=w.heap.size+1) (by simp)
 have HEI:=hide (fun wx (hx:Below w.heap.size w wx)=>equalInts_any xp yp cp dp fp gp wx (hv1.below hx) (hv2.below hx) fw1 fw3)
 have HEB:=hide (fun wx (hx:Below w.heap.size w wx)=>equalBlocks_any xq yq cq dq fb gb wx (hq1.below hx) (hq2.below hx) fw2 fw4)
 have HBA:=hide hba
 have K0:=hide k0
 have K1:=hide k1
 have hcase:((fi==gi)=false)∨(fi=gi∧(fa==ga)=false)∨(fi=gi∧fa=ga∧(fe==ge)=false)∨(fi=gi∧fa=ga∧fe=ge):=by
  by_cases h1:fi=gi
  ·by_cases h2:fa=ga
   ·by_cases h3:fe=ge
    ·exact .inr (.inr (.inr ⟨h1,h2,h3⟩))
    ·exact .inr (.inr (.inl ⟨h1,h2,by simpa using h3⟩))
   ·exact .inr (.inl ⟨h1,by simpa using h2⟩)
  ·exact .inl (by simpa using h1)
 have HNE:Hid ((fi=gi∧fa=ga∧fe=ge)∨¬ ((fi,fa,fp,fb,fe):FuncT)=(gi,ga,gp,gb,ge)):=by
  by_cases h:fi=gi∧fa=ga∧fe=ge
  ·exact .inl h
  ·refine .inr fun e=>h ?_
   simp only [Prod.mk.injEq] at e
   exact⟨e.1,e.2.1,e.2.2.2.2⟩
 obtain⟨a0,a1,a2,a3,a4⟩:=fiveCells k0
 obtain⟨b0,b1,b2,b3,b4⟩:=fiveCells k1
 clear ha hb hv1 hq1 hv2 hq2 fw1 fw2 fw3 fw4 hba k0 k1
 go_enter Tryz.func39,Tryz.ntmps39
 generalize hnp:fp.length=np at *
 generalize hnb:fb.length=nb at *
 generalize hmp:gp.length=mp at *
 generalize hmb:gb.length=mb at *
 go_wp2_with fail
 all_goals try (
  subst_vars
  go_ret
  refine⟨⟨false,rfl,?_⟩,HBA.out⟩
  simp only [Bool.false_eq_true,false_iff,Prod.mk.injEq,not_and]
  omega)
 subst_vars
 refine (HEI.out _ HBA.out).mono ?_
 rintro e w5 ⟨⟨r,rfl,hr⟩,hb5⟩
 have c0:=(fiveCells ((hb5.block _ (Array.getElem?_eq_some_iff.1 K0.out).1).trans K0.out)).2.2.2.1
 have c1:=(fiveCells ((hb5.block _ (Array.getElem?_eq_some_iff.1 K1.out).1).trans K1.out)).2.2.2.1
 have HR:=hide hr
 have HB:=hide (HBA.out.trans (hb5.mono HBA.out.size))
 clear hb5 hr a0 a1 a2 a3 a4 b0 b1 b2 b3 b4 K0 K1 hcase HNE
 cases r with
 | false =>
  go_wp2_with fail
  go_ret
  refine⟨⟨false,rfl,?_⟩,HB.out⟩
  constructor
  ·intro h;cases h
  ·intro h
   simp only [Prod.mk.injEq] at h
   exact absurd (HR.out.2 h.2.2.1) (by simp)
 | true =>
  go_wp2_with fail
  refine (HEB.out _ HB.out).mono ?_
  rintro e w6 ⟨⟨r,rfl,hr⟩,hb6⟩
  have HR2:=hide hr
  have HB6:=hide (HB.out.trans (hb6.mono HB.out.size))
  clear hb6 hr c0 c1
  go_wp2_with fail
  go_ret
  refine⟨⟨r,rfl,?_⟩,HB6.out⟩
  rw [HR2.out,HR.out.1 (by simp)]
  simp
end Go.Proofs.YtlcaedibmlidlaaGreat
namespace Go.Proofs.YtlcaedibmlidlaaGreat
open Go.ChangeShapes Go.WideShapes Go.ChangeAt Go.RowKit
set_option maxRecDepth 100000
theorem ArgFunc.cellsB:Tryz.prog.cellsOf 65=3:=by kernel_rfl
theorem ArgFunc.cellsN:Tryz.prog.cellsOf 3=1:=by kernel_rfl
theorem ArgFunc.bytesB:Tryz.prog.bytesOf 65=24:=by kernel_rfl
theorem ArgFunc.bytesN:Tryz.prog.bytesOf 3=8:=by kernel_rfl
theorem ArgFunc.cellsF:Tryz.prog.cellsOf 29=5:=by kernel_rfl
theorem ArgFunc.cellsLN:Tryz.prog.cellsOf 26=1:=by kernel_rfl
theorem ArgFunc.cellsLB:Tryz.prog.cellsOf 27=1:=by kernel_rfl
theorem array5F {α:Type} {cs:Array α} (h:cs.size=5):∃ c0 c1 c2 c3 c4,cs=#[c0,c1,c2,c3,c4]:=by
 obtain⟨l⟩:=cs
 match l,h with
 | [c0,c1,c2,c3,c4],_=>exact⟨c0,c1,c2,c3,c4,rfl⟩
theorem blkV_mk {w:World} {x:Addr} {n:Nat} {f:Nat→Int×Int×Int} (h:∀ i,i<n→w.cell? (x.add (i * 3))=some (.int .u32 (f i).1)∧w.cell? (x.add (i * 3+1))=some (.int .i64 (f i).2.1)∧w.cell? (x.add (i * 3+2))=some (.int .i64 (f i).2.2)):BlkV w (some x) ((List.range n).map f):=by
 intro j hj
 rw [List.length_map,List.length_range] at hj
 have h0:=(h 0 (by omega)).1
 obtain⟨b,off,spot⟩:=x
 have hs:spot=none:=by simpa [Addr.add] using World.cell?_spot h0
 subst hs
 obtain⟨h1,h2,h3⟩:=h j hj
 rw [Addr.add_lit] at h1 h2 h3
 have e:nthB ((List.range n).map f) j=f j:=by simp [nthB,List.getD,hj]
 rw [e]
 exact⟨b,off,rfl,World.block_lt_of_cell? _ _ h1,h1,by rw [Nat.add_assoc];exact h2,by rw [Nat.add_assoc];exact h3⟩
set_option maxHeartbeats 1000000 in
theorem open_blocks {H:Type} {enc:TypeId×Value→H} {w:World} {base fuel:Nat} {held:Bool} {a:Option Addr} {len cap:Nat} {d:DataW H} {ps:List MemPlace}
  (hf:DataW.trod enc Tryz.prog w base (fun _=>true) held fuel 27 [.slice a len cap]=some (d,ps)) (hs:∀ n∈d.weights Tryz.prog 27,n≤reachBytes) :
  ∃ l:List (Int×Int×Int),l.length=len∧BlkV w a l∧24 * len≤140737488351232:=by
 rcases Go.Deep.open_slice Tryz.underlying27 hf with ⟨hcs,_⟩ | ⟨x,l,c,mm,nn,D,Pl,hcs,_,hl,hm,hmm,hx,hall⟩
 ·simp at hcs
  obtain⟨rfl,rfl,rfl⟩:=hcs
  exact⟨[],rfl,fun k hk=>absurd hk (Nat.not_lt_zero k),by omega⟩
 ·simp at hcs
  obtain⟨rfl,rfl,rfl⟩:=hcs
  simp only [Prod.mk.injEq] at hx
  obtain⟨rfl,rfl⟩:=hx
  simp only [if_true] at hmm
  subst hmm
  have hs0:=hs ((((List.range len).map D).length+((List.range (mm - len)).map fun j=>D (len+j)).length) * Tryz.prog.bytesOf 65) (by simp [DataW.weights,Tryz.underlying27])
  rw [ArgFunc.bytesB] at hs0
  simp only [List.length_map,List.length_range,reachBytes] at hs0
  have key:∀ i,i<len→∃ r:Int×Int×Int,w.cell? (x.add (i * 3))=some (.int .u32 r.1)∧w.cell? (x.add (i * 3+1))=some (.int .i64 r.2.1)∧w.cell? (x.add (i * 3+2))=some (.int .i64 r.2.2):=by
   intro i hi
   obtain⟨cs,hc,ht⟩:=hall i (by omega)
   rw [ArgFunc.cellsB] at hc
   obtain⟨_,hlen,hcell⟩:=World.cells?_some hc
   obtain⟨xs,k,_,hxy,_,hxl,hfl⟩:=DataW.trod_struct Tryz.underlying65 ht
   have g0:=hfl 0 _ rfl
   have g1:=hfl 1 _ rfl
   have g2:=hfl 2 _ rfl
   match xs,hxl,cs,hlen with
   | [y0,y1,y2],_,[v0,v1,v2],_ =>
    have e0:=hcell 0 (by omega)
    have e1:=hcell 1 (by omega)
    have e2:=hcell 2 (by omega)
    rw [Go.Deep.add_add] at e0 e1 e2
    simp [ArgFunc.cellsN,ArgInsts.cells32] at g0 g1 g2 e0 e1 e2
    obtain⟨n0,q0,_,w0⟩:=DataW.trod_int Tryz.underlying22 g0
    obtain⟨n1,q1,_,w1⟩:=DataW.trod_int Tryz.underlying3 g1
    obtain⟨n2,q2,_,w2⟩:=DataW.trod_int Tryz.underlying3 g2
    simp at q0 q1 q2
    subst q0;subst q1;subst q2
    exact⟨(n0,n1,n2),by simpa using e0,e1,e2⟩
  let f:Nat→Int×Int×Int:=fun i=>if h:i<len then Classical.choose (key i h) else (0,0,0)
  have hf':∀ i (h:i<len),f i=Classical.choose (key i h):=fun i h=>dif_pos h
  refine⟨(List.range len).map f,by simp,blkV_mk (fun i hi=>?_),by omega⟩
  rw [hf' i hi]
  exact Classical.choose_spec (key i hi)
set_option maxHeartbeats 2000000 in
theorem open_func {H:Type} {enc:TypeId×Value→H} {w:World} {b0 base:Nat} {held:Bool} {v:Value} {d:DataW H} {ps:List MemPlace}
  (hv:Value.okWide Tryz.prog w .any b0 29 v) (h:DataW.Trod enc Tryz.prog w base (fun _=>true) held 29 v d ps) (hs:∀ n∈d.weights Tryz.prog 29,n≤reachBytes) :
  ∃ f:FuncT,FnR w v f:=by
 obtain⟨cs,rfl,hsz⟩:=okWide_struct Tryz.underlying29 hv
 obtain⟨v0,v1,v2,v3,v4,rfl⟩:=array5F (hsz.trans ArgFunc.cellsF)
 obtain⟨fuel,hf⟩:=h
 obtain⟨xs,k,_,hxy,_,hxl,hfl⟩:=DataW.trod_struct Tryz.underlying29 hf
 have g0:=hfl 0 _ rfl
 have g1:=hfl 1 _ rfl
 have g2:=hfl 2 _ rfl
 have g3:=hfl 3 _ rfl
 have g4:=hfl 4 _ rfl
 match xs,hxl with
 | [y0,y1,y2,y3,y4],_ =>
  simp [Value.cells,ArgFunc.cellsN,ArgInsts.cells32,ArgFunc.cellsLN,ArgFunc.cellsLB] at g0 g1 g2 g3 g4
  obtain⟨n0,q0,_,w0⟩:=DataW.trod_int Tryz.underlying22 g0
  obtain⟨n1,q1,_,w1⟩:=DataW.trod_int Tryz.underlying3 g1
  obtain⟨n4,q4,_,w4⟩:=DataW.trod_int Tryz.underlying3 g4
  simp at q0 q1 q4
  subst q0;subst q1;subst q4
  have hd:d=.agg [y0.1,y1.1,y2.1,y3.1,y4.1]:=by simp at hxy;exact hxy.1
  subst hd
  obtain⟨a3,l3,c3,rfl⟩:∃ a n c,v3=.slice a n c:=by
   obtain⟨a,n,c,e⟩:=Go.Joins.slice_form Tryz.underlying27 g3
   simp at e;exact⟨a,n,c,e⟩
  obtain⟨bs,hbl,hbv,hbr⟩:=open_blocks g3 (fun n hn=>hs n (by
   simp only [DataW.weights,Tryz.underlying29]
   exact DataW.weights_mem_each (j:=3) rfl rfl _ hn))
  subst hbl
  have hP:∃ (a:Option Addr) (c:Nat) (zs:List Int),v2=.slice a zs.length c∧View .i64 w a zs∧8 * zs.length≤140737488351232:=by
   rcases open_ints Tryz.underlying26 Tryz.underlying3 ArgFunc.cellsN g2 with ⟨hcs,_⟩ | ⟨y,l,c,zs,hcs,_,hl1,hm1,hz1,hx1,hcell,hwz⟩
   ·simp at hcs
    exact⟨none,0,[],hcs,view_nil,by simp⟩
   ·simp at hcs
    subst hcs
    simp only [if_true] at hz1
    have hs1:=hs (((lits (H:=H) .i64 (zs.take l)).length+(lits (H:=H) .i64 (zs.drop l)).length) * Tryz.prog.bytesOf 3) (by
     simp only [DataW.weights,Tryz.underlying29]
     refine DataW.weights_mem_each (j:=2) rfl rfl _ ?_
     have:y2.1=DataW.slice (lits .i64 (zs.take l)) (lits .i64 (zs.drop l)):=by rw [hx1]
     rw [this]
     simp [DataW.weights,Tryz.underlying26])
    rw [ArgFunc.bytesN] at hs1
    simp only [lits,List.length_map,List.length_take,List.length_drop,reachBytes] at hs1
    have hlen:(zs.take l).length=l:=by rw [List.length_take];omega
    exact⟨some y,c,zs.take l,by rw [hlen],view_take hcell (by omega),by rw [hlen];omega⟩
  obtain⟨a2,c2,zs,rfl,hzv,hzr⟩:=hP
  exact⟨(n0,n1,zs,bs,n4),⟨a2,c2,a3,c3,rfl,hzv,hbv⟩,by show zs.length≤_∧bs.length≤_;omega⟩
end Go.Proofs.YtlcaedibmlidlaaGreat
namespace Go.Proofs.YtlcaedibmlidlaaGreat
open Go.RowKit
set_option linter.unusedVariables false
section
variable {F : Fence} {n : Nat} {P : Program} {md : Region.Mode} {ops : Array Oper} {C : World → Prop} {Q : Exit → Act → World → Prop}

def wpAnyC (F:Fence) (n:Nat) (P:Program) (md:Region.Mode) (ops:Array Oper) (C:World→Prop) (Q:Exit→Act→World→Prop):Nat→Array Bool→Act→World→Prop
 | 0,listed,a,w=>Region.ready md ops listed=[]∧Q .normal a w
 | fuel+1,listed,a,w=>(Region.ready md ops listed=[]→Q .normal a w)∧∀ i∈Region.ready md ops listed,wpOpIn F n P ops Q i (fun a' w'=>C w'∧wpAnyC F n P md ops C Q fuel (listed.setIfInBounds i true) a' w') a w
theorem wpAnyC_sound:∀ (fuel:Nat) (listed:Array Bool) (a:Act) (w:World),wpAnyC F n P md ops C Q fuel listed a w→wpAnyIn F n P md ops Q fuel listed a w
 | 0,_,_,_,h=>h
 | fuel+1,listed,a,w,h=>⟨h.1,fun i hi=>wpOpIn_mono (fun a' w' h'=>wpAnyC_sound fuel _ a' w' h'.2) (h.2 i hi)⟩
theorem wpAnyC_done {listed:Array Bool} {a:Act} {w:World} (hr:Region.ready md ops listed=[]) (h:Q .normal a w):∀ fuel,wpAnyC F n P md ops C Q fuel listed a w
 | 0=>⟨hr,h⟩
 | _+1=>⟨fun _=>h,by rw [hr];simp⟩
def YieldsC (P:Program) (ops:Array Oper) (C:World→Prop) (o:Oper) (v:Value) (a:Act):Prop :=
 (Region.wanted o (yielded ops a.tmps)=true∧∀ w,C w→(execOp a.eval o).run P w=.ok (.value v) w)∨(Region.wanted o (yielded ops a.tmps)=false∧v=undef)
theorem YieldsC.op {i:Nat} {o:Oper} {v:Value} {a:Act} (hF:∀ f,F.fn f) (hnd:∀ c,o.op≠.defer c) (hi:ops[i]?=some o) (hy:YieldsC P ops C o v a) {K:Act→World→Prop} {w:World} (hC:C w) (h:K (a.put o.dst v) w):wpOpIn F n P ops Q i K a w:=by
 unfold wpOpIn
 simp only [hi]
 rcases hy with ⟨hw,hv⟩ | ⟨hw,rfl⟩
 ·rw [if_pos hw]
  exact⟨fun f _=>hF f,by rw [Oper.semAt_eq _ _ _ hnd,hv w hC];exact h⟩
 ·rw [if_neg (by rw [hw];simp)]
  exact⟨fun f _=>hF f,h⟩
theorem opIn_put {j:Nat} {oi oj:Oper} {v:Value} (hF:∀ f,F.fn f) (hnd:∀ c,oj.op≠.defer c) (hj:ops[j]?=some oj) (hap:oi.apart ops oj=true) (hsj:∀ cs b,oj.op≠.select cs b)
  (hQ:∀ c a w,Q (.panic c) (a.put oi.dst v) w→Q (.panic c) a w) {K:Act→World→Prop} {a:Act} {w:World} (h:wpOpIn F n P ops Q j K (a.put oi.dst v) w) :
  wpOpIn F n P ops Q j (fun a' w'=>(∃ ds u,a'=({ a with defers:=ds }:Act).put oj.dst u)∧K (a'.put oi.dst v) w') a w:=by
 obtain⟨h1,h2,_⟩:=Oper.apart_spec hap
 unfold wpOpIn at *
 simp only [hj] at *
 rw [wanted_put oj a oi.dst v h1] at h
 have here:∀ u w',K ((a.put oi.dst v).put oj.dst u) w'→(∃ ds u',a.put oj.dst u=({ a with defers:=ds }:Act).put oj.dst u')∧K ((a.put oj.dst u).put oi.dst v) w':=fun u w' hk=>⟨⟨a.defers,u,rfl⟩,by rw [← Act.put_comm a v u h2];exact hk⟩
 by_cases hw:Region.wanted oj (yielded ops a.tmps)=true
 ·rw [if_pos hw] at h ⊢
  obtain⟨_,h⟩:=h
  refine⟨fun f _=>hF f,?_⟩
  rw [Oper.semAt_eq _ _ _ hnd,execOp_put oj hsj a oi.dst v h1] at h
  rw [Oper.semAt_eq _ _ _ hnd]
  generalize (execOp a.eval oj).run P w=r at *
  cases r with
  | ok x w' =>
   cases x <;> simp only [Oper.uponIn] at h ⊢
   case value u=>exact here u _ h
   case skip=>exact here _ _ h
   case defer d =>
    refine⟨⟨d :: a.defers,undef,rfl⟩,?_⟩
    rw [← Act.put_comm _ v undef h2,← Act.put_defers]
    exact h
   case enter f args =>
    refine⟨h.1,CallsIn.mono h.2 fun e w'' he=>?_⟩
    cases e with
    | returned u=>exact here u _ he
    | panicked c=>exact hQ _ _ _ he
    | outgrown=>exact he
   case row row args=>exact⟨h.1,RowsIn.mono h.2 fun u w'' he=>here u _ he⟩
   case round l f tmps assign body =>
    refine⟨h.1,RoundIn.mono h.2 fun e w'' he=>?_⟩
    cases e with
    | returned u=>exact here u _ he
    | panicked c=>exact hQ _ _ _ he
    | outgrown=>exact he
  | halt x w' =>
   cases x <;> simp only [Oper.uponIn] at h ⊢
   case panic u=>exact hQ _ _ _ h
 ·rw [if_neg hw] at h ⊢
  exact⟨fun f _=>hF f,here _ _ h.2⟩
theorem YieldsC.put {oi oj:Oper} {v u:Value} {a:Act} {ds:List Deferred} (hy:YieldsC P ops C oi v a) (hap:oi.apart ops oj=true) (hsi:∀ cs b,oi.op≠.select cs b):YieldsC P ops C oi v (({ a with defers:=ds }:Act).put oj.dst u):=by
 obtain⟨_,_,h3⟩:=Oper.apart_spec hap
 have e1:execOp (({ a with defers:=ds }:Act).put oj.dst u).eval oi=execOp a.eval oi:=(execOp_put oi hsi { a with defers:=ds } oj.dst u h3).trans rfl
 have e2:Region.wanted oi (yielded ops (({ a with defers:=ds }:Act).put oj.dst u).tmps)=Region.wanted oi (yielded ops a.tmps):=(wanted_put oi { a with defers:=ds } oj.dst u h3).trans rfl
 unfold YieldsC
 rw [e1,e2]
 exact hy
theorem wpAnyC_first {i:Nat} {oi:Oper} {v:Value} (hF:∀ f,F.fn f) (hnd:∀ (j:Nat) (o:Oper),ops[j]?=some o→∀ c,o.op≠.defer c) (hi:ops[i]?=some oi) (hsel:∀ (j:Nat) (o:Oper) cs b,ops[j]?=some o→o.op≠.select cs b)
  (hQ:∀ c a w,Q (.panic c) (a.put oi.dst v) w→Q (.panic c) a w):∀ (fuel:Nat) (listed:Array Bool) (a:Act) (w:World),
   (∀ j oj,ops[j]?=some oj→j≠i→listed.getD j true=false→(∀ e∈oj.after,Region.binds md e=true→e.on≠i)→oi.apart ops oj=true) →
   i∈Region.ready md ops listed→YieldsC P ops C oi v a→C w→wpAnyC F n P md ops C Q fuel (listed.setIfInBounds i true) (a.put oi.dst v) w→wpAnyC F n P md ops C Q (fuel+1) listed a w:=by
 intro fuel
 induction fuel with
 | zero =>
  intro listed a w _ hr hy hC H
  refine⟨fun h=>(by rw [h] at hr;cases hr),fun j hj=>?_⟩
  by_cases hji:j=i
  ·subst hji;exact hy.op hF (hnd j oi hi) hi hC ⟨hC,H⟩
  ·have:=ready_mono hj hji
   rw [H.1] at this
   cases this
 | succ fuel ih =>
  intro listed a w hfree hr hy hC H
  refine⟨fun h=>(by rw [h] at hr;cases hr),fun j hj=>?_⟩
  by_cases hji:j=i
  ·subst hji;exact hy.op hF (hnd j oi hi) hi hC ⟨hC,H⟩
  ·obtain⟨hjun,oj,hoj,hall⟩:=mem_ready.1 hj
   have hnot:∀ e∈oj.after,Region.binds md e=true→e.on≠i:=fun e he hb heq=>by
    have h1:=hall e he hb
    have h0:=(mem_ready.1 hr).1
    rw [heq] at h1
    rcases Nat.lt_or_ge i listed.size with h' | h'
    ·simp [h'] at h0 h1;rw [h0] at h1;cases h1
    ·simp [Array.getElem?_eq_none h'] at h1
   have hap:=hfree j oj hoj hji hjun hnot
   have h2:=opIn_put hF (hnd j oj hoj) hoj hap (fun cs b=>hsel j oj cs b hoj) hQ (H.2 j (ready_mono hj hji))
   refine wpOpIn_mono (fun a' w' h3=>?_) h2
   obtain⟨⟨ds,u,rfl⟩,hC',h4⟩:=h3
   refine⟨hC',ih (listed.setIfInBounds j true) _ w' (fun k ok hk hki hun hno=>hfree k ok hk hki ?_ hno) (ready_mono hr (Ne.symm hji)) (hy.put hap (fun cs b=>hsel i oi cs b hi)) hC' ?_⟩
   ·by_cases hjk:j=k
    ·subst hjk;exact hjun
    ·rw [getD_set_ne true hjk] at hun;exact hun
   ·rw [Array.setIfInBounds_comm _ _ hji]
    exact h4
def noDefer (ops:Array Oper):Bool:=ops.all fun o=>match o.op with | .defer _=>false | _=>true
theorem noDefer_spec (h:noDefer ops=true) (j:Nat) (o:Oper) (hj:ops[j]?=some o) (c:Call):o.op≠.defer c:=fun e=>by
 obtain⟨hlt,hk⟩:=Array.getElem?_eq_some_iff.1 hj
 have:=(Array.all_eq_true.1 h) j hlt
 rw [hk,e] at this
 cases this
theorem wpAnyC_take {i:Nat} {oi:Oper} {v:Value} {fuel:Nat} {listed:Array Bool} {a:Act} {w:World} (hF:∀ f,F.fn f) (hnd:noDefer ops=true) (hi:ops[i]?=some oi) (hs:Region.noSelect ops=true) (hf:Region.free md ops listed i=true) (hr:(Region.ready md ops listed).contains i=true)
  (hQ:∀ c a w,Q (.panic c) (a.put oi.dst v) w→Q (.panic c) a w) (hC:C w) (hy:YieldsC P ops C oi v a) (h:wpAnyC F n P md ops C Q fuel (listed.setIfInBounds i true) (a.put oi.dst v) w):wpAnyC F n P md ops C Q (fuel+1) listed a w :=
 wpAnyC_first hF (noDefer_spec hnd) hi (Region.noSelect_spec hs) hQ fuel listed a w (Region.free_spec hi hf) (by simpa using hr) hy hC h
theorem wpAnyC_takeD {i:Nat} {oi:Oper} (d:Option Tmp) {v:Value} {fuel:Nat} {listed:Array Bool} {a:Act} {w:World} (hF:∀ f,F.fn f) (hnd:noDefer ops=true) (hi:ops[i]?=some oi) (hd:oi.dst=d) (hs:Region.noSelect ops=true) (hf:Region.free md ops listed i=true) (hr:(Region.ready md ops listed).contains i=true)
  (hQ:∀ c a w,Q (.panic c) (a.put d v) w→Q (.panic c) a w) (hC:C w) (hy:YieldsC P ops C oi v a) (h:wpAnyC F n P md ops C Q fuel (listed.setIfInBounds i true) (a.put d v) w):wpAnyC F n P md ops C Q (fuel+1) listed a w:=by
 subst hd
 exact wpAnyC_take hF hnd hi hs hf hr hQ hC hy h
def AllC (F:Fence) (n:Nat) (P:Program) (md:Region.Mode) (ops:Array Oper) (C:World→Prop) (Q:Exit→Act→World→Prop) (fuel:Nat) (listed:Array Bool) (a:Act) (w:World) (rs:List Nat):Prop :=
 ∀ i∈rs,wpOpIn F n P ops Q i (fun a' w'=>C w'∧wpAnyC F n P md ops C Q fuel (listed.setIfInBounds i true) a' w') a w
theorem AllC.nil {fuel:Nat} {listed:Array Bool} {a:Act} {w:World}:AllC F n P md ops C Q fuel listed a w []:=fun _ h=>by cases h
theorem AllC.cons {fuel:Nat} {listed:Array Bool} {a:Act} {w:World} {i:Nat} {o:Oper} {rs:List Nat} (ho:ops[i]?=some o)
  (h:∀ K':Act→World→Prop,(∀ a w,C w→wpAnyC F n P md ops C Q fuel (listed.setIfInBounds i true) a w→K' a w)→if Region.wanted o (yielded ops a.tmps)=true then Oper.wpIn F n P o a w K' Q else (∀ f,o.about P w a.eval=some f→F.fn f)∧K' (a.put o.dst undef) w)
  (hs:AllC F n P md ops C Q fuel listed a w rs):AllC F n P md ops C Q fuel listed a w (i :: rs):=fun j hj=>by
 rcases List.mem_cons.1 hj with rfl | hj
 ·exact wpOpIn_step ho (fun K' hK=>h K' (fun a w hC hw=>hK a w ⟨hC,hw⟩))
 ·exact hs j hj
theorem wpAnyC_ready {rs:List Nat} {fuel:Nat} {listed:Array Bool} {a:Act} {w:World} (hr:Region.ready md ops listed=rs) (hne:rs≠[]) (h:AllC F n P md ops C Q fuel listed a w rs):wpAnyC F n P md ops C Q (fuel+1) listed a w :=
 ⟨fun h0=>absurd (hr ▸ h0) hne,hr ▸ h⟩
end

theorem ap1 {α:Type _} (l:List α) (i:Nat) (a:α):l.toArray.setIfInBounds i a=(l.set i a).toArray:=by simp
theorem ap2 {α:Type _} (x a:α) (l:List α) (n:Nat):(x::l).set (n+1) a=x::l.set n a:=rfl
theorem ap3 {α:Type _} (x a:α) (l:List α):(x::l).set 0 a=a::l:=rfl
section
variable {F : Fence} {n : Nat} {P : Program} {md : Region.Mode} {ops : Array Oper} {C : World → Prop} {E : Nat → Bool} {Q : Exit → Act → World → Prop}

def wpAnyE (F:Fence) (n:Nat) (P:Program) (md:Region.Mode) (ops:Array Oper) (C:World→Prop) (E:Nat→Bool) (Q:Exit→Act→World→Prop):Nat→Array Bool→Act→World→Prop
 | 0,listed,a,w=>Region.ready md ops listed=[]∧Q .normal a w
 | fuel+1,listed,a,w=>(Region.ready md ops listed=[]→Q .normal a w)∧∀ i∈Region.ready md ops listed,wpOpIn F n P ops Q i (fun a' w'=>(E i=true∨C w')∧wpAnyE F n P md ops C E Q fuel (listed.setIfInBounds i true) a' w') a w
theorem wpAnyE_sound:∀ (fuel:Nat) (listed:Array Bool) (a:Act) (w:World),wpAnyE F n P md ops C E Q fuel listed a w→wpAnyIn F n P md ops Q fuel listed a w
 | 0,_,_,_,h=>h
 | fuel+1,listed,a,w,h=>⟨h.1,fun i hi=>wpOpIn_mono (fun a' w' h'=>wpAnyE_sound fuel _ a' w' h'.2) (h.2 i hi)⟩
theorem wpAnyE_done {listed:Array Bool} {a:Act} {w:World} (hr:Region.ready md ops listed=[]) (h:Q .normal a w):∀ fuel,wpAnyE F n P md ops C E Q fuel listed a w
 | 0=>⟨hr,h⟩
 | _+1=>⟨fun _=>h,by rw [hr];simp⟩
def waits (md:Region.Mode) (ops:Array Oper) (E:Nat→Bool) (i:Nat):Bool:=(List.range ops.size).all fun j=>!E j || j==i || (match ops[j]? with | some o=>o.after.any fun e=>Region.binds md e && e.on==i | none=>true)
theorem waits_spec {i:Nat} (h:waits md ops E i=true) {j:Nat} {oj:Oper} (hj:ops[j]?=some oj) (hE:E j=true) (hji:j≠i):∃ e∈oj.after,Region.binds md e=true∧e.on=i:=by
 have hlt:=(Array.getElem?_eq_some_iff.1 hj).1
 have:=List.all_eq_true.1 h j (List.mem_range.2 hlt)
 simp only [hE,Bool.not_true,Bool.false_or,hj,Bool.or_eq_true,beq_iff_eq,hji,false_or] at this
 obtain⟨e,he,h2⟩:=Array.any_eq_true'.1 this
 simp only [Bool.and_eq_true,beq_iff_eq] at h2
 exact⟨e,he,h2.1,h2.2⟩
theorem wpAnyE_first {i:Nat} {oi:Oper} {v:Value} (hF:∀ f,F.fn f) (hnd:∀ (j:Nat) (o:Oper),ops[j]?=some o→∀ c,o.op≠.defer c) (hi:ops[i]?=some oi) (hsel:∀ (j:Nat) (o:Oper) cs b,ops[j]?=some o→o.op≠.select cs b)
  (hQ:∀ c a w,Q (.panic c) (a.put oi.dst v) w→Q (.panic c) a w) (hE:waits md ops E i=true):∀ (fuel:Nat) (listed:Array Bool) (a:Act) (w:World),
   (∀ j oj,ops[j]?=some oj→j≠i→listed.getD j true=false→(∀ e∈oj.after,Region.binds md e=true→e.on≠i)→oi.apart ops oj=true) →
   i∈Region.ready md ops listed→YieldsC P ops C oi v a→C w→wpAnyE F n P md ops C E Q fuel (listed.setIfInBounds i true) (a.put oi.dst v) w→wpAnyE F n P md ops C E Q (fuel+1) listed a w:=by
 intro fuel
 induction fuel with
 | zero =>
  intro listed a w _ hr hy hC H
  refine⟨fun h=>(by rw [h] at hr;cases hr),fun j hj=>?_⟩
  by_cases hji:j=i
  ·subst hji;exact hy.op hF (hnd j oi hi) hi hC ⟨.inr hC,H⟩
  ·have:=ready_mono hj hji
   rw [H.1] at this
   cases this
 | succ fuel ih =>
  intro listed a w hfree hr hy hC H
  refine⟨fun h=>(by rw [h] at hr;cases hr),fun j hj=>?_⟩
  by_cases hji:j=i
  ·subst hji;exact hy.op hF (hnd j oi hi) hi hC ⟨.inr hC,H⟩
  ·obtain⟨hjun,oj,hoj,hall⟩:=mem_ready.1 hj
   have hnot:∀ e∈oj.after,Region.binds md e=true→e.on≠i:=fun e he hb heq=>by
    have h1:=hall e he hb
    have h0:=(mem_ready.1 hr).1
    rw [heq] at h1
    rcases Nat.lt_or_ge i listed.size with h' | h'
    ·simp [h'] at h0 h1;rw [h0] at h1;cases h1
    ·simp [Array.getElem?_eq_none h'] at h1
   have hap:=hfree j oj hoj hji hjun hnot
   have h2:=opIn_put hF (hnd j oj hoj) hoj hap (fun cs b=>hsel j oj cs b hoj) hQ (H.2 j (ready_mono hj hji))
   refine wpOpIn_mono (fun a' w' h3=>?_) h2
   obtain⟨⟨ds,u,rfl⟩,hC0,h4⟩:=h3
   have hC':C w':=by
    rcases hC0 with hEj | hC'
    ·obtain⟨e,he,hb,hon⟩:=waits_spec hE hoj hEj hji
     exact absurd hon (hnot e he hb)
    ·exact hC'
   refine⟨.inr hC',ih (listed.setIfInBounds j true) _ w' (fun k ok hk hki hun hno=>hfree k ok hk hki ?_ hno) (ready_mono hr (Ne.symm hji)) (hy.put hap (fun cs b=>hsel i oi cs b hi)) hC' ?_⟩
   ·by_cases hjk:j=k
    ·subst hjk;exact hjun
    ·rw [getD_set_ne true hjk] at hun;exact hun
   ·rw [Array.setIfInBounds_comm _ _ hji]
    exact h4
theorem wpAnyE_take {i:Nat} {oi:Oper} {v:Value} {fuel:Nat} {listed:Array Bool} {a:Act} {w:World} (hF:∀ f,F.fn f) (hnd:noDefer ops=true) (hi:ops[i]?=some oi) (hs:Region.noSelect ops=true) (hf:Region.free md ops listed i=true) (hr:(Region.ready md ops listed).contains i=true)
  (hE:waits md ops E i=true) (hQ:∀ c a w,Q (.panic c) (a.put oi.dst v) w→Q (.panic c) a w) (hC:C w) (hy:YieldsC P ops C oi v a) (h:wpAnyE F n P md ops C E Q fuel (listed.setIfInBounds i true) (a.put oi.dst v) w):wpAnyE F n P md ops C E Q (fuel+1) listed a w :=
 wpAnyE_first hF (noDefer_spec hnd) hi (Region.noSelect_spec hs) hQ hE fuel listed a w (Region.free_spec hi hf) (by simpa using hr) hy hC h
theorem wpAnyE_takeD {i:Nat} {oi:Oper} (d:Option Tmp) {v:Value} {fuel:Nat} {listed:Array Bool} {a:Act} {w:World} (hF:∀ f,F.fn f) (hnd:noDefer ops=true) (hi:ops[i]?=some oi) (hd:oi.dst=d) (hs:Region.noSelect ops=true) (hf:Region.free md ops listed i=true) (hr:(Region.ready md ops listed).contains i=true)
  (hE:waits md ops E i=true) (hQ:∀ c a w,Q (.panic c) (a.put d v) w→Q (.panic c) a w) (hC:C w) (hy:YieldsC P ops C oi v a) (h:wpAnyE F n P md ops C E Q fuel (listed.setIfInBounds i true) (a.put d v) w):wpAnyE F n P md ops C E Q (fuel+1) listed a w:=by
 subst hd
 exact wpAnyE_take hF hnd hi hs hf hr hE hQ hC hy h
def AllE (F:Fence) (n:Nat) (P:Program) (md:Region.Mode) (ops:Array Oper) (C:World→Prop) (E:Nat→Bool) (Q:Exit→Act→World→Prop) (fuel:Nat) (listed:Array Bool) (a:Act) (w:World) (rs:List Nat):Prop :=
 ∀ i∈rs,wpOpIn F n P ops Q i (fun a' w'=>(E i=true∨C w')∧wpAnyE F n P md ops C E Q fuel (listed.setIfInBounds i true) a' w') a w
theorem AllE.nil {fuel:Nat} {listed:Array Bool} {a:Act} {w:World}:AllE F n P md ops C E Q fuel listed a w []:=fun _ h=>by cases h
theorem AllE.cons {fuel:Nat} {listed:Array Bool} {a:Act} {w:World} {i:Nat} {o:Oper} {rs:List Nat} (ho:ops[i]?=some o)
  (h:∀ K':Act→World→Prop,(∀ a w,(E i=true∨C w)→wpAnyE F n P md ops C E Q fuel (listed.setIfInBounds i true) a w→K' a w)→if Region.wanted o (yielded ops a.tmps)=true then Oper.wpIn F n P o a w K' Q else (∀ f,o.about P w a.eval=some f→F.fn f)∧K' (a.put o.dst undef) w)
  (hs:AllE F n P md ops C E Q fuel listed a w rs):AllE F n P md ops C E Q fuel listed a w (i :: rs):=fun j hj=>by
 rcases List.mem_cons.1 hj with rfl | hj
 ·exact wpOpIn_step ho (fun K' hK=>h K' (fun a w hC hw=>hK a w ⟨hC,hw⟩))
 ·exact hs j hj
theorem wpAnyE_ready {rs:List Nat} {fuel:Nat} {listed:Array Bool} {a:Act} {w:World} (hr:Region.ready md ops listed=rs) (hne:rs≠[]) (h:AllE F n P md ops C E Q fuel listed a w rs):wpAnyE F n P md ops C E Q (fuel+1) listed a w :=
 ⟨fun h0=>absurd (hr ▸ h0) hne,hr ▸ h⟩
end
set_option linter.unusedSimpArgs false
set_option maxRecDepth 10000
theorem funcsR_at {w:World} {fx:Option Addr} {mf fc:Nat} {fs:List FuncT} (h:FuncsR w (.slice fx mf fc) fs) (hf:FewF fs) (hm:fs.length=mf) {j:Nat} (hj:j<mf) :
  ∃ F a0 a1 a2 a3 a4,fx=some ⟨F,0,none⟩∧F<w.heap.size∧w.cell? ⟨F,j * 5,none⟩=some a0∧w.cell? ⟨F,j * 5+1,none⟩=some a1∧w.cell? ⟨F,j * 5+2,none⟩=some a2∧w.cell? ⟨F,j * 5+3,none⟩=some a3∧w.cell? ⟨F,j * 5+4,none⟩=some a4∧FnR w (.agg #[a0,a1,a2,a3,a4]) (nthF fs j):=by
 obtain⟨_,_,e1,hA⟩:=h
 injection e1 with e1 e2 e3
 obtain⟨FB,xp,cp,xq,cq,hx,hF,q0,q1,q2,q3,q4,hvp,hvq⟩:=hA j (by omega)
 exact⟨FB,_,_,_,_,_,e1.trans hx,hF,q0,q1,q2,q3,q4,⟨xp,cp,xq,cq,rfl,hvp,fun k hk=>by
  obtain⟨G,e4,g1,g2,g3,g4⟩:=hvq k hk
  exact⟨G,0,e4,g1,by simpa using g2,by simpa using g3,by simpa using g4⟩⟩,by have:=hf.2 j;omega⟩
end Go.Proofs.YtlcaedibmlidlaaGreat
namespace Go.Proofs.YtlcaedibmlidlaaGreat
open Go.RowKit Go.Maps
set_option linter.unusedVariables false
set_option linter.unusedSimpArgs false
set_option maxRecDepth 10000
theorem keyU:Keyed Tryz.prog 22:=int_keyed Tryz.underlying22
theorem keyU_of {x:Int} (h0:0≤x) (h1:x<4294967296):keyOf Tryz.prog 22 (.int .u32 x)=some (.int .u32 x):=keyOf_int_mk Tryz.underlying22 (by simp [Lit.wf,show IntKind.u32.min=0 from rfl,show IntKind.u32.max=4294967295 from rfl];omega)
def MapU (w:World) (E:TypeId) (q:IntKind) (b n:Nat) (f:Int→Option Int):Prop :=
 ∃ D:DataW Unit,w.ownsMap Tryz.prog 22 (plainElem Tryz.prog E) b n D∧(∀ x,Maps.has D (.int .u32 x)=(f x).isSome)∧∀ x,D.atKey (.int .u32 x) (.lit (.int q 0))=.lit (.int q ((f x).getD 0))
theorem MapU.made (w:World) (E:TypeId) (q:IntKind):MapU (w.alloc (.map #[] 0)) E q w.heap.size 0 (fun _=>none) :=
 ⟨.map [],World.ownsMap_made _ _ _ _,fun x=>rfl,fun x=>rfl⟩
theorem MapU.lt {w:World} {E:TypeId} {q:IntKind} {b n:Nat} {f:Int→Option Int} (h:MapU w E q b n f):b<w.heap.size:=by obtain⟨D,h1,_⟩:=h;exact h1.lt
theorem MapU.below {w w':World} {E:TypeId} {q:IntKind} {b n:Nat} {f:Int→Option Int} (h:MapU w E q b n f) (hb:Below w.heap.size w w'):MapU w' E q b n f:=by
 have hl:=h.lt
 obtain⟨D,⟨es,ck,h1,h2⟩,h3⟩:=h
 exact⟨D,⟨es,ck,(hb.block b hl).trans h1,h2⟩,h3⟩
theorem MapU.block {w w':World} {E:TypeId} {q:IntKind} {b n:Nat} {f:Int→Option Int} (h:MapU w E q b n f) (hb:w'.heap[b]?=w.heap[b]?):MapU w' E q b n f:=by
 obtain⟨D,⟨es,ck,h1,h2⟩,h3⟩:=h
 exact⟨D,⟨es,ck,hb.trans h1,h2⟩,h3⟩
theorem MapU.mono {w:World} {E:TypeId} {q:IntKind} {b n n':Nat} {f:Int→Option Int} (h:MapU w E q b n f) (hn:n≤n'):MapU w E q b n' f:=by
 obtain⟨D,h1,h2⟩:=h
 exact⟨D,h1.mono hn,h2⟩
theorem MapU.congr {w:World} {E:TypeId} {q:IntKind} {b n:Nat} {f g:Int→Option Int} (h:MapU w E q b n f) (e:∀ x,f x=g x):MapU w E q b n g:=by
 have:f=g:=funext e
 rw [← this];exact h
theorem MapU.put {w':World} {E:TypeId} {q:IntKind} {b n':Nat} {f:Int→Option Int} {D:DataW Unit} {x v:Int} (hD:IsMap D) (h1:∀ x,Maps.has D (.int .u32 x)=(f x).isSome) (h2:∀ x,D.atKey (.int .u32 x) (.lit (.int q 0))=.lit (.int q ((f x).getD 0)))
  (h:w'.ownsMap Tryz.prog 22 (plainElem Tryz.prog E) b n' (D.put (.int .u32 x) (.lit (.int q v)))):MapU w' E q b n' (fun y=>if y=x then some v else f y):=by
 refine⟨_,h,fun y=>?_,fun y=>?_⟩
 ·show _=(if y=x then some v else f y).isSome
  by_cases e:y=x
  ·subst e;rw [if_pos rfl];exact has_put_same (k:=.int .u32 y) hD (by simp [WideAt.IsKeyLit]) _
  ·rw [if_neg e,← h1 y];exact has_put_other (by simpa using e) _
 ·show _=DataW.lit (.int q ((if y=x then some v else f y).getD 0))
  by_cases e:y=x
  ·subst e;rw [if_pos rfl];exact atKey_put_same (k:=.int .u32 y) hD (by simp [WideAt.IsKeyLit]) _ _
  ·rw [if_neg e,← h2 y];exact atKey_put_other (by simpa using e) _ _
section
variable {w : World} {ops : Array Oper} {rest : List Oper} {o : Oper} {a : Act} {Q : Exit → Act → World → Prop}
theorem wpList_lookU_ok (hg:o.guard=none) (m x:Operand) (t:TypeId) (hop:o.op=Op.lookup t m x true) (E:TypeId) (q:IntKind) (ht:Tryz.prog.underlying t=some (.map 22 E)) (he:Tryz.prog.underlying E=some (.int q)) (hz:(zeroValue E).run Tryz.prog w=.ok (.int q 0) w)
  (b n:Nat) (f:Int→Option Int) (hm:a.eval m=.map (some b)) (h:MapU w E q b n f) (key:Int) (hx:a.eval x=.int .u32 key) (k0:0≤key) (k1:key<4294967296)
  (hK:wpList Tryz.prog ops Q rest (a.put o.dst (.tuple #[.int q ((f key).getD 0),.bool (f key).isSome])) w):wpList Tryz.prog ops Q (o :: rest) a w:=by
 obtain⟨D,h1,h2,h3⟩:=h
 refine wpList_lookup_own_ok_int w hg m x t hop 22 E q keyU ht he hz b n D hm h1 _ _ hx (keyU_of k0 k1) ?_
 intro c hat _
 rw [h3] at hat
 simp only [DataW.lit.injEq,Lit.int.injEq,true_and] at hat
 rw [← hat,h2]
 exact hK
theorem wpList_lookU (hg:o.guard=none) (m x:Operand) (t:TypeId) (hop:o.op=Op.lookup t m x false) (E:TypeId) (q:IntKind) (ht:Tryz.prog.underlying t=some (.map 22 E)) (he:Tryz.prog.underlying E=some (.int q)) (hz:(zeroValue E).run Tryz.prog w=.ok (.int q 0) w)
  (b n:Nat) (f:Int→Option Int) (hm:a.eval m=.map (some b)) (h:MapU w E q b n f) (key:Int) (hx:a.eval x=.int .u32 key) (k0:0≤key) (k1:key<4294967296)
  (hK:wpList Tryz.prog ops Q rest (a.put o.dst (.int q ((f key).getD 0))) w):wpList Tryz.prog ops Q (o :: rest) a w:=by
 obtain⟨D,h1,h2,h3⟩:=h
 refine wpList_lookup_own_int w hg m x t hop 22 E q keyU ht he hz b n D hm h1 _ _ hx (keyU_of k0 k1) ?_
 intro c hat _
 rw [h3] at hat
 simp only [DataW.lit.injEq,Lit.int.injEq,true_and] at hat
 rw [← hat]
 exact hK
theorem wpList_putU (hg:o.guard=none) (m x v:Operand) (t:TypeId) (hop:o.op=Op.mapUpdate t m x v) (E:TypeId) (q:IntKind) (ht:Tryz.prog.underlying t=some (.map 22 E)) (he:Tryz.prog.underlying E=some (.int q))
  (b n:Nat) (f:Int→Option Int) (hm:a.eval m=.map (some b)) (h:MapU w E q b n f) (hn:n<maxLen) (key val:Int) (hx:a.eval x=.int .u32 key) (k0:0≤key) (k1:key<4294967296) (hv:a.eval v=.int q val) (hw:(Lit.int q val).wf=true)
  (hK:∀ w',MapU w' E q b (n+1) (fun y=>if y=key then some val else f y)→w.grownBy w' (some b)→wpList Tryz.prog ops Q rest (a.put o.dst undef) w'):wpList Tryz.prog ops Q (o :: rest) a w:=by
 obtain⟨D,h1,h2,h3⟩:=h
 refine wpList_mapUpdate_own w hg m x v t hop 22 E keyU ht _ b n D hm h1 hn _ _ _ hx hv (keyU_of k0 k1) _ [] (plainElem_int he hw) ?_
 intro w' h4 h5
 exact hK w' (MapU.put h1.isMap h2 h3 h4) h5
end
def makT (l:List InstT):Nat→Int→Option Int
 | 0,_=>none
 | k+1,id=>if (makT l k id).isSome=true then makT l k id else if (nthI l k).2.2.1=id∧id≠0 then some (k:Int) else none
def makV (l:List InstT) (k:Nat) (id:Int):Int:=(makT l k id).getD (-1)
theorem makT_some (l:List InstT) (id:Int):∀ k p,makT l k id=some p→0≤p∧p<(k:Int)
 | 0,p,h=>by cases h
 | k+1,p,h=>by
  rw [makT] at h
  split at h
  ·have:=makT_some l id k p h;omega
  ·split at h
   ·cases h;omega
   ·cases h
theorem makT_stays (l:List InstT) (id:Int) (k:Nat) (h:(makT l k id).isSome=true):∀ d,makT l (k+d) id=makT l k id
 | 0=>rfl
 | d+1=>by
  have ih:=makT_stays l id k h d
  rw [show k+(d+1)=(k+d)+1 by omega,makT,ih,if_pos h]
theorem makT_zero (l:List InstT):∀ k,makT l k 0=none
 | 0=>rfl
 | k+1=>by rw [makT,makT_zero l k];simp
theorem zeroI64 (w:World):(zeroValue 3).run Tryz.prog w=.ok (.int .i64 0) w:=by kernel_rfl
set_option maxHeartbeats 8000000 in
theorem makersOf_any (a:Option Addr) (n c:Nat) (l:List InstT) (w:World) (hv:InstsV w a l) (hok:InstsOk l) (hl:l.length=n) (hn:40 * n≤140737488351232) :
  Calls Tryz.prog 126 #[.slice a n c] w fun e w'=>∃ b,e=.returned (.map (some b))∧w.heap.size≤b∧MapU w' 3 .i64 b n (makT l n)∧Below w.heap.size w w':=by
 have HV:=hide hv
 have HOK:=hide hok
 have HL:=hide hl
 have HN:Hid (40 * n≤140737488351232):=hn
 have hmm:=@run_makeMap Tryz.prog
 have HM0:=hide (MapU.made w 3 .i64)
 have HB0:=hide ((Below.refl _ w).alloc (Nat.le_refl _) (.map #[] 0))
 have HTT:=hide Tryz.underlying184
 have HTE:=hide Tryz.underlying3
 clear hv hok hl hn
 go_enter Tryz.func126,Tryz.ntmps126
 go_wp2_with fail
 generalize w.alloc (.map #[] 0)=W0 at *
 go_loopw [11] (fun i wr=>∃ k:Nat,k≤n∧i=.int .i64 k∧MapU wr 3 .i64 w.heap.size k (makT l k)∧Below w.heap.size w wr) (fun i _=>n - (intOf i).toNat)
 case atStart=>exact⟨0,Nat.zero_le _,rfl,HM0.out,HB0.out⟩
 case round =>
  obtain⟨k,hk,rfl,hM,hB⟩:=hrel
  clear HM0 HB0 hmm
  have hA:=HV.out.below hB
  have hkb:(k:Int)<140737488351232:=by have:=HN.out;omega
  by_cases hlt:k<n
  ·have hkl:k<l.length:=by rw [HL.out];exact hlt
   obtain⟨g1,o1,aj,cj,nj,rfl,hg1,p1,p2,p3,p4,p5,p6,p7⟩:=hA k hkl
   have hki:(k:Int)<(n:Int):=by omega
   have hk0:(0:Int)≤(k:Int):=by omega
   have hz:=HOK.out k hkl
   have hr0:=hz.2.2.2.2.1
   have hr1:=hz.2.2.2.2.2.1
   have HSU:Hid (∀ id,makT l (k+1) id=if (makT l k id).isSome=true then makT l k id else if (nthI l k).2.2.1=id∧id≠0 then some (k:Int) else none):=fun id=>rfl
   have HBD:Hid ((k:Int)<9223372036854775807∧k<maxLen):=by have:=HN.out;exact⟨by omega,by unfold maxLen;omega⟩
   generalize nthI l k=z at *
   obtain⟨zo,zt,zr,zl⟩:=z
   simp only at *
   have hba:Below wr.heap.size wr (wr.alloc (.cells #[.int .u16 zo,.int .u32 zt,.int .u32 zr,.slice aj nj cj] 63)):=(Below.refl _ wr).alloc (Nat.le_refl _) _
   have HM2:=hide (hM.below hba)
   have HB2:=hide (hB.trans (hba.mono hB.size))
   have HR:=hide (And.intro hr0 hr1)
   by_cases hz0:zr=0
   ·subst hz0
    have HE:Hid (∀ id,makT l k id=makT l (k+1) id):=fun id=>by
     rw [HSU.out id]
     by_cases h:(makT l k id).isSome=true
     ·rw [if_pos h]
     ·rw [if_neg h,if_neg (by rintro⟨rfl,h2⟩;exact h2 rfl)];simpa using h
    clear hA hM hB p5 p6 p7 hz HSU
    go_wp2_with fail
    go_roundw
    case rel=>exact⟨k+1,by omega,by go_num,(HM2.out.congr HE.out).mono (Nat.le_succ _),HB2.out⟩
    case measure=>simp [intOf];omega
   ·have hz0':(zr==0)=false:=by simpa using hz0
    have hlz:wr.heap.size<(wr.alloc (.cells #[.int .u16 zo,.int .u32 zt,.int .u32 zr,.slice aj nj cj] 63)).heap.size:=by simp
    have r2:(wr.alloc (.cells #[.int .u16 zo,.int .u32 zt,.int .u32 zr,.slice aj nj cj] 63)).cell? ⟨wr.heap.size,2,none⟩=some (.int .u32 zr):=(one_block (heap_alloc_new wr (.cells #[.int .u16 zo,.int .u32 zt,.int .u32 zr,.slice aj nj cj] 63))).1 2
    have HR2:=hide r2
    by_cases hs:(makT l k zr).isSome=true
    ·have HE:Hid (∀ id,makT l k id=makT l (k+1) id):=fun id=>by
      rw [HSU.out id]
      by_cases h:(makT l k id).isSome=true
      ·rw [if_pos h]
      ·rw [if_neg h,if_neg (by rintro⟨rfl,h2⟩;exact h hs)];simpa using h
     clear hA hM hB p5 p6 p7 hz HSU r2
     go_wp2_with (at_lookup;refine wpList_lookU_ok rfl _ _ 184 rfl 3 .i64 HTT.out HTE.out (zeroI64 _) w.heap.size k (makT l k) rfl HM2.out zr rfl HR.out.1 HR.out.2 ?_;rw [hs])
     go_roundw
     case rel=>exact⟨k+1,by omega,by go_num,(HM2.out.congr HE.out).mono (Nat.le_succ _),HB2.out⟩
     case measure=>simp [intOf];omega
    ·have hs':(makT l k zr).isSome=false:=by simpa using hs
     have HE:Hid (∀ id,(if id=zr then some (k:Int) else makT l k id)=makT l (k+1) id):=fun id=>by
      rw [HSU.out id]
      by_cases e:id=zr
      ·subst e;rw [if_pos rfl,if_neg hs,if_pos ⟨rfl,hz0⟩]
      ·rw [if_neg e]
       by_cases h:(makT l k id).isSome=true
       ·rw [if_pos h]
       ·rw [if_neg h,if_neg (by rintro⟨rfl,_⟩;exact e rfl)];simpa using h
     clear hA hM hB p5 p6 p7 hz HSU hs
     have hwf:(Lit.int .i64 (k:Int)).wf=true:=WalkArith.wf_i64 (by have:=HBD.out.1;omega)
     have HWF:=hide hwf
     clear hwf
     go_wp2_with (first | (at_lookup;refine wpList_lookU_ok rfl _ _ 184 rfl 3 .i64 HTT.out HTE.out (zeroI64 _) w.heap.size k (makT l k) rfl HM2.out zr rfl HR.out.1 HR.out.2 ?_;rw [hs']) | (at_mapUpdate;refine wpList_putU rfl _ _ _ 184 rfl 3 .i64 HTT.out HTE.out w.heap.size k (makT l k) rfl HM2.out HBD.out.2 zr (k:Int) rfl HR.out.1 HR.out.2 rfl HWF.out ?_;intro w5 hM5 hg5) | go_in)
     have HB5:=hide (HB2.out.grown hg5 HB2.out.size (fun j hj=>by cases hj;exact Nat.le_refl _))
     have HM5:=hide (hM5.congr HE.out)
     clear hM5 hg5
     go_wp2_with fail
     go_roundw
     case rel=>exact⟨k+1,by omega,by go_num,HM5.out,HB5.out⟩
     case measure=>simp [intOf];omega
  ·obtain rfl:k=n:=by omega
   have HM:=hide hM
   have HB:=hide hB
   clear hA hM hB
   go_wp2_with fail
   go_ret
   exact⟨w.heap.size,rfl,Nat.le_refl _,HM.out,HB.out⟩
set_option maxHeartbeats 4000000 in
theorem refMaker_any (a:Option Addr) (n c:Nat) (l:List InstT) (id:Int) (to:Nat) (w:World) (hv:InstsV w a l) (hl:l.length=n) (hn:n≤140737488351232) (ht:to≤n) :
  Calls Tryz.prog 144 #[.slice a n c,.int .u32 id,.int .i64 to] w fun e w'=>e=.returned (.int .i64 (makV l to id))∧w=w':=by
 have HV:=hide hv
 have HL:=hide hl
 unfold makV
 clear hv hl
 go_enter Tryz.func144,Tryz.ntmps144
 go_wp2_with fail
 go_loopw [7] (fun i wr=>∃ k:Nat,k≤to∧i=.int .i64 k∧makT l k id=none∧w=wr) (fun i _=>to - (intOf i).toNat)
 case atStart=>exact⟨0,Nat.zero_le _,rfl,rfl,rfl⟩
 case round =>
  obtain⟨k,hk,rfl,hM,rfl⟩:=hrel
  have HM:=hide hM
  clear hM
  by_cases hlt:k<to
  ·have hkl:k<l.length:=by rw [HL.out];omega
   obtain⟨g1,o1,aj,cj,nj,rfl,hg1,p1,p2,p3,p4,p5,p6,p7⟩:=HV.out k hkl
   have hki:(k:Int)<(n:Int):=by omega
   have hkt:(k:Int)<(to:Int):=by omega
   have hk0:(0:Int)≤(k:Int):=by omega
   have HSU:Hid (makT l (k+1) id=if (nthI l k).2.2.1=id∧id≠0 then some (k:Int) else none):=by show _=_;rw [makT,HM.out];rfl
   have HST:Hid ((makT l (k+1) id).isSome=true→makT l to id=makT l (k+1) id):=fun h=>by have:=makT_stays l id (k+1) h (to - (k+1));rwa [show k+1+(to - (k+1))=to by omega] at this
   generalize (nthI l k).2.2.1=zr at *
   clear p1 p2 p4 p5 p6 p7
   by_cases he:zr=id∧id≠0
   ·obtain⟨rfl,h0⟩:=he
    have h0':(zr != 0)=true:=by simpa using h0
    have h1':(zr==zr)=true:=by simp
    have HRE:Hid ((makT l to zr).getD (-1)=(k:Int)):=by
     have e:=HSU.out
     rw [if_pos ⟨rfl,h0⟩] at e
     show _=_
     rw [HST.out (by rw [e];rfl),e];rfl
    clear HSU HST h0
    go_wp2_with fail
    go_ret
    exact⟨by rw [HRE.out];rfl,rfl⟩
   ·have HRE:Hid (makT l (k+1) id=none):=by show _=_;rw [HSU.out,if_neg he]
    by_cases h1:zr=id
    ·subst h1
     have h0:zr=0:=by
      by_cases h:zr=0
      ·exact h
      ·exact absurd ⟨rfl,h⟩ he
     subst h0
     clear HSU HST he
     go_wp2_with fail
     go_roundw
     case rel=>exact⟨k+1,by omega,by go_num,HRE.out,by first | rfl | trivial⟩
     case measure=>simp [intOf];omega
    ·have h1':(zr==id)=false:=by simpa using h1
     clear HSU HST he h1
     go_wp2_with fail
     go_roundw
     case rel=>exact⟨k+1,by omega,by go_num,HRE.out,by first | rfl | trivial⟩
     case measure=>simp [intOf];omega
  ·obtain rfl:k=to:=by omega
   have HRE:Hid ((makT l k id).getD (-1)=-1):=by show _=_;rw [HM.out];rfl
   clear HM
   go_wp2_with fail
   go_ret
   exact⟨by rw [HRE.out];rfl,rfl⟩
end Go.Proofs.YtlcaedibmlidlaaGreat
