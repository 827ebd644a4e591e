/-
  Texts in one: LayoutFronts, MathKf.
-/
import Derived.Test.YtlcaedibmlidlaaGreatB12
namespace Go.Proofs.YtlcaedibmlidlaaGreat
open Go.RowKit
set_option linter.unusedVariables false
set_option linter.unusedSimpArgs false
set_option maxRecDepth 10000
attribute [local go_sem] jumps_normal jumps_exit jumps_ret jumps_panic jumps_goto onNormal_normal

theorem frame42 (t:Array Value) (h:t.size=42):t=#[slot t 0,slot t 1,slot t 2,slot t 3,slot t 4,slot t 5,slot t 6,slot t 7,slot t 8,slot t 9,slot t 10,slot t 11,slot t 12,slot t 13,slot t 14,slot t 15,slot t 16,slot t 17,slot t 18,slot t 19,slot t 20,slot t 21,slot t 22,slot t 23,slot t 24,slot t 25,slot t 26,slot t 27,slot t 28,slot t 29,slot t 30,slot t 31,slot t 32,slot t 33,slot t 34,slot t 35,slot t 36,slot t 37,slot t 38,slot t 39,slot t 40,slot t 41]:=(frame_eq t 42 h).trans rfl
def scopeL:Code→Code
 | .seq _ x=>scopeL x
 | .scope c=>c
 | _=>.skip
def FrmF (B j:Nat) (a':Act):Prop:=∃ t:Array Value,a'={ tmps:=t,defers:=[] }∧t.size=42∧slot t 0=.pointer (some ⟨B,0,none⟩)∧slot t 3=.int .u8 j
def FrJ (B:Nat) (ins fv:Value) (l:List InstT) (w:World):Nat→Act→World→Prop
 | 0,a',w'=>∃ (j k:Nat) (ps:Nat→Int),FrmF B j a'∧j<8∧FrO l ps j k∧WkB B ins ps fv k (partAt l k) (kindAt l k) w'∧KeepB B w w'
 | 1,a',w'=>∃ (j k:Nat) (ps:Nat→Int),FrmF B j a'∧j<8∧FrM l ps j k∧WkB B ins ps fv k (partAt l k) (kindAt l k) w'∧KeepB B w w'
 | _,_,_=>False
def posL (B:Nat) (w':World):Nat:=match w'.cell? ⟨B,22,none⟩ with
 | some (.int _ n)=>n.toNat
 | _=>0
theorem WkB.pos {B:Nat} {ins:Value} {ps:Nat→Int} {fv:Value} {k:Nat} {part kind:Int} {W:World} (h:WkB B ins ps fv (k:Int) part kind W):posL B W=k:=by
 unfold posL;rw [h.cells.2.2.2.1];simp
def partM (a':Act):Nat:=(intOf (slot a'.tmps 3)).toNat
def FrU (B n:Nat) (l:Nat) (a':Act) (w':World):Nat:=20 * (n - posL B w')+2 * (9 - partM a')+(if l=0 then 1 else 0)
theorem FrmF.part {B j:Nat} {a':Act} (h:FrmF B j a'):partM a'=j:=by
 obtain⟨t,rfl,_,_,h3⟩:=h
 unfold partM;simp only [h3];simp [intOf]
def FrRet (B:Nat) (ins fv:Value) (l:List InstT) (w:World) (Q:Exit→Act→World→Prop):Prop :=
 ∀ (a':Act) (w':World) (b:Bool) (k:Nat) (ps:Nat→Int),slot a'.tmps 2=.bool b→a'.defers=[]→WkB B ins ps fv k (partAt l k) (kindAt l k) w'→KeepB B w w'→(b=true→FrO l ps 8 k)→(b=false→wrongAt l k)→Q .ret a' w'
set_option maxHeartbeats 4000000 in
theorem front_open (B n:Nat) (ins fv:Value) (l:List InstT) (w:World) (Q:Exit→Act→World→Prop)
  (hprev:∀ N a w',FrJ B ins fv l w 1 a w'→FrU B n 1 a w'≤N→(behind (findLabel (scopeL (Tryz.f85.body.getD .skip)) 1)).wp Tryz.prog (jumps (fun l' a' w'=>FrJ B ins fv l w l' a' w'∧FrU B n l' a' w'<N) Q) a w')
  (N:Nat) (a1:Act) (w1:World) (hJ:FrJ B ins fv l w 0 a1 w1) (hN:FrU B n 0 a1 w1≤N) :
  (behind (findLabel (scopeL (Tryz.f85.body.getD .skip)) 0)).wp Tryz.prog (jumps (fun l' a' w'=>FrJ B ins fv l w l' a' w'∧FrU B n l' a' w'<N) Q) a1 w1:=by
 obtain⟨j,k,ps,hF,hj,hO,hW,hK⟩:=hJ
 have HN:Hid (20 * (n - k)+2 * (9 - j)+1≤N):=by
  unfold FrU at hN
  rw [if_pos rfl,hW.pos,hF.part] at hN
  exact hN
 clear hN
 obtain⟨t,rfl,hsz,h0,h3⟩:=hF
 conv=>arg 2;whnf
 rw [frame42 t hsz,h0,h3]
 clear h0 h3 hsz
 have HP:=hide hprev
 have HO:=hide hO.more
 have HW:=hide hW
 have HK:=hide hK
 have HW2:=hide (hW.setSpan (2 * j) (by omega) k)
 have HK2:=hide (hK.trans (KeepB.set w1 (1+2 * j) (.int .i64 k)))
 obtain⟨_,dp,_,d22,_,_,df⟩:=hW.cells
 have dj:=dp (2 * j) (by omega)
 have dfj:=df (1+2 * j)
 have hj0:(0:Int)≤(j:Int):=by omega
 have hj10:(j:Int)<10:=by omega
 have e2:1+j * 2=1+2 * j:=by omega
 have hBl:=hW.lt
 clear hprev hO hW hK dp df
 go_wp2_with fail
 refine wp_norm ?_
 go_region
 rw [onNormal_normal]
 have hdr:Below (w1.setCell ⟨B,1+2 * j,none⟩ (.int .i64 k)).heap.size (w1.setCell ⟨B,1+2 * j,none⟩ (.int .i64 k)) (w1.setCell ⟨B,1+2 * j,none⟩ (.int .i64 k)).drew:=(Below.refl _ _).drew
 have HW3:=hide (HW2.out.below hdr)
 have HK3:=hide (HK2.out.trans (.of_below hdr))
 clear hdr dj dfj d22
 generalize (w1.setCell ⟨B,1+2 * j,none⟩ (.int .i64 k)).drew=W at *
 go_wp2_with fail
 refine wp_label ?_
 rename_i Kx hKx
 refine hKx _ _ (HP.out N _ W ⟨j,k,_,⟨_,rfl,rfl,rfl,rfl⟩,hj,HO.out,HW3.out,HK3.out⟩ ?_)
 have:=HN.out
 unfold FrU
 rw [HW3.out.pos,if_neg (by omega)]
 simp [partM,slot,intOf]
 omega
set_option maxHeartbeats 4000000 in
theorem front_more (B:Nat) (a:Option Addr) (n c:Nat) (fv:Value) (l:List InstT) (w0 w:World) (Q:Exit→Act→World→Prop) (hv:InstsV w0 a l) (hw:Below w0.heap.size w0 w) (hB:w0.heap.size≤B) (hl:l.length=n) (hn:40 * n≤140737488351232) (hvar:VarsOk l) (hret:FrRet B (.slice a n c) fv l w Q)
  (N:Nat) (a1:Act) (w1:World) (hJ:FrJ B (.slice a n c) fv l w 1 a1 w1) (hN:FrU B n 1 a1 w1≤N) :
  (behind (findLabel (scopeL (Tryz.f85.body.getD .skip)) 1)).wp Tryz.prog (jumps (fun l' a' w'=>FrJ B (.slice a n c) fv l w l' a' w'∧FrU B n l' a' w'<N) Q) a1 w1:=by
 obtain⟨j,k,ps,hF,hj,hM,hW,hK⟩:=hJ
 have HN:Hid (20 * (n - k)+2 * (9 - j)≤N):=by
  unfold FrU at hN
  rw [if_neg (by omega),hW.pos,hF.part] at hN
  exact hN
 clear hN
 obtain⟨t,rfl,hsz,h0,h3⟩:=hF
 conv=>arg 2;whnf
 rw [frame42 t hsz,h0,h3]
 clear h0 h3 hsz
 have HRET:=hide hret
 have HM:=hide hM
 have HW:=hide hW
 have HK:=hide hK
 have HL:=hide hl
 have hBl:=hW.lt
 have hlow:=KeepB.low hw hB hK
 have hj0:(0:Int)≤(j:Int):=by omega
 have hj10:(j:Int)<10:=by omega
 have hjw:IntKind.u8.wrap ((j:Int)+1)=(j:Int)+1:=by rw [IntKind.wrap_u8];omega
 obtain⟨_,_,_,d22,d23,_,df⟩:=hW.cells
 by_cases hp:partAt l k=j
 ·have hk:k<n:=by rw [← hl];exact (hM.may hj hp).1
  rw [hp] at d23
  have hSt:=step_any B a n c ps fv k _ _ l w0 w1 hW hv hlow hB hl hn hvar hk
  have HP:=hide hp
  clear hret hM hW hK hl hv hw hlow hvar d22 df hp
  go_wp2_with fail
  refine hSt.mono ?_
  rintro e w2 ⟨rfl,hW2,hK2⟩
  have HW2:=hide hW2
  have HK2:=hide (HK.out.trans hK2)
  clear hSt hW2 hK2 d23
  by_cases h1:j=1
  ·subst h1
   have HO:=hide (HM.out.stepModel HP.out)
   have hBl2:=HW2.out.lt
   have HW3:=hide (HW2.out.setSpan 3 (by omega) ((k+1:Nat):Int))
   have HK3:=hide (HK2.out.trans (KeepB.set w2 (1+3) (.int .i64 ((k+1:Nat):Int))))
   obtain⟨_,dp,_,d22,_,_,df⟩:=HW2.out.cells
   have dj:=dp 3 (by omega)
   have dfj:=df (1+3)
   generalize hkk:((k+1:Nat):Int)=kk at *
   clear dp
   go_wp2_with fail
   refine wp_norm ?_
   go_region
   rw [onNormal_normal]
   have hdr:Below (w2.setCell ⟨B,1+3,none⟩ (.int .i64 kk)).heap.size (w2.setCell ⟨B,1+3,none⟩ (.int .i64 kk)) (w2.setCell ⟨B,1+3,none⟩ (.int .i64 kk)).drew:=(Below.refl _ _).drew
   have HW4:=hide (HW3.out.below hdr)
   have HK4:=hide (HK3.out.trans (.of_below hdr))
   clear hdr dj dfj d22
   generalize (w2.setCell ⟨B,1+3,none⟩ (.int .i64 kk)).drew=W at *
   go_wp2_with fail
   go_step3
   have HKK:=hide hkk
   refine (show FrJ B (.slice a n c) fv l w 0 _ W∧FrU B n 0 _ W<N from ⟨⟨2,k+1,_,⟨_,rfl,rfl,rfl,rfl⟩,by omega,HO.out,by rw [HKK.out];exact HW4.out,HK4.out⟩,?_⟩)
   have:=HN.out
   rw [← HKK.out] at HW4
   unfold FrU
   rw [HW4.out.pos,if_pos rfl]
   simp [partM,slot,intOf]
   omega
  ·have h1':((j:Int) != 1)=true:=by simp;omega
   have HM2:=hide (HM.out.step hj h1 HP.out)
   go_wp2_with fail
   go_step3
   refine (show FrJ B (.slice a n c) fv l w 1 _ w2∧FrU B n 1 _ w2<N from ⟨⟨j,k+1,ps,⟨_,rfl,rfl,rfl,rfl⟩,hj,HM2.out,HW2.out,HK2.out⟩,?_⟩)
   have:=HN.out
   unfold FrU
   rw [HW2.out.pos,if_neg (by omega)]
   simp [partM,slot,intOf]
   omega
 ·have hp':(partAt l k==(j:Int))=false:=by simpa using hp
  have HP:=hide hp
  clear hret hM hW hK hl hv hw hlow hvar hp
  generalize hpp:partAt l k=pp at *
  have HPP:=hide hpp
  clear hpp
  by_cases h1:j=1
  ·subst h1
   go_wp2_with fail
   rw [jumps_ret]
   exact HRET.out _ w1 false k ps rfl rfl (by rw [HPP.out];exact HW.out) HK.out (fun h=>by cases h) (fun _=>HM.out.noModel (by rw [HPP.out];exact HP.out))
  ·have h1':((j:Int)==1)=false:=by simp;omega
   have HO:=hide (HM.out.close h1 (by rw [HPP.out];exact HP.out))
   have HW3:=hide (HW.out.setSpan (2 * j+1) (by omega) (k:Int))
   have HK3:=hide (HK.out.trans (KeepB.set w1 (1+(2 * j+1)) (.int .i64 (k:Int))))
   obtain⟨_,dp,_,_,_,_,_⟩:=HW.out.cells
   have dj:=dp (2 * j+1) (by omega)
   have dfj:=df (1+(2 * j+1))
   have e2:1+j * 2+1=1+(2 * j+1):=by omega
   clear dp
   go_wp2_with fail
   refine wp_norm ?_
   go_region
   rw [onNormal_normal]
   have hdr:Below (w1.setCell ⟨B,1+(2 * j+1),none⟩ (.int .i64 k)).heap.size (w1.setCell ⟨B,1+(2 * j+1),none⟩ (.int .i64 k)) (w1.setCell ⟨B,1+(2 * j+1),none⟩ (.int .i64 k)).drew:=(Below.refl _ _).drew
   have HW4:=hide (HW3.out.below hdr)
   have HK4:=hide (HK3.out.trans (.of_below hdr))
   clear hdr dj dfj d22 d23 df
   generalize (w1.setCell ⟨B,1+(2 * j+1),none⟩ (.int .i64 k)).drew=W at *
   by_cases h8:j+1<8
   ·have h8':decide ((j:Int)+1<8)=true:=by simp;omega
    go_wp2_with fail
    go_step3
    refine (show FrJ B (.slice a n c) fv l w 0 _ W∧FrU B n 0 _ W<N from ⟨⟨j+1,k,_,⟨_,rfl,rfl,rfl,rfl⟩,h8,HO.out,by rw [HPP.out];exact HW4.out,HK4.out⟩,?_⟩)
    have:=HN.out
    unfold FrU
    rw [HW4.out.pos,if_pos rfl]
    simp [partM,slot,intOf]
    omega
   ·have h8':decide ((j:Int)+1<8)=false:=by simp;omega
    obtain rfl:j=7:=by omega
    go_wp2_with fail
    refine HRET.out _ W true k _ rfl rfl ?_ HK4.out (fun _=>HO.out) (fun h=>by cases h)
    rw [HPP.out]
    exact HW4.out
set_option maxHeartbeats 4000000 in
/-- fronts: it comes to the functions, or stops where something is wrong. -/
theorem fronts_any (B:Nat) (a:Option Addr) (n c:Nat) (ps:Nat→Int) (fv:Value) (l:List InstT) (w0 w:World) (h:WkB B (.slice a n c) ps fv 0 (partAt l 0) (kindAt l 0) w) (hv:InstsV w0 a l) (hw:Below w0.heap.size w0 w) (hB:w0.heap.size≤B) (hl:l.length=n) (hn:40 * n≤140737488351232) (hvar:VarsOk l) :
  Calls Tryz.prog 85 #[.pointer (some ⟨B,0,none⟩)] w fun e w'=>∃ (b:Bool) (k:Nat) (ps':Nat→Int),e=.returned (.bool b)∧WkB B (.slice a n c) ps' fv k (partAt l k) (kindAt l k) w'∧KeepB B w w'∧(b=true→FrO l ps' 8 k)∧(b=false→wrongAt l k):=by
 have hret:FrRet B (.slice a n c) fv l w (bodyPost Tryz.prog Tryz.f85 fun e w'=>∃ (b:Bool) (k:Nat) (ps':Nat→Int),e=.returned (.bool b)∧WkB B (.slice a n c) ps' fv k (partAt l k) (kindAt l k) w'∧KeepB B w w'∧(b=true→FrO l ps' 8 k)∧(b=false→wrongAt l k)):=by
  intro a' w' b k ps' q2 q3 q4 q5 q6 q7
  refine bodyPost_ret (v:=.bool b) ?_ q3 ⟨b,k,ps',rfl,q4,q5,q6,q7⟩
  simp only [results,Tryz.results85]
  have q2':a'.tmps[2]?.getD undef=.bool b:=by rw [← Array.getD_eq_getD_getElem?];exact q2
  simp [go_sem,q2']
 have HRET:=hide hret
 have HW:=hide h
 have HV:=hide hv
 have HWW:=hide hw
 have HVAR:=hide hvar
 have HL:=hide hl
 clear hret h hv hw hvar hl
 go_enter Tryz.func85,Tryz.ntmps85
 go_wp2_with fail
 refine wp_scope_ranked (FrJ B (.slice a n c) fv l w) (FrU B n) (fun l=>if l=1 then 0 else 1) ?hf ?pass ?first
 case hf =>
  intro l a w1 hJ
  match l,hJ with
  | 0,_=>rfl
  | 1,_=>rfl
 case pass =>
  intro l' hprev N a1 w1 hJ hN
  match l',hJ with
  | 0,hJ=>exact front_open B n _ fv l w _ (hprev 1 (by decide)) N a1 w1 hJ hN
  | 1,hJ=>exact front_more B a n c fv l w0 w _ HV.out HWW.out hB HL.out hn HVAR.out HRET.out N a1 w1 hJ hN
 case first =>
  intro hP
  have HP:=hide hP
  clear hP
  go_wp2_with fail
  refine wp_label ?_
  rename_i Kx hKx
  exact hKx _ _ (HP.out 0 _ w ⟨0,0,ps,⟨_,rfl,rfl,rfl,rfl⟩,by omega,FrO.start l ps,HW.out,KeepB.refl _ _⟩)
theorem endsB_iff {op:Int}:endsB op=true↔249≤op∧op≤255:=by unfold endsB;simp
theorem endsB_false {op:Int}:endsB op=false↔¬ (249≤op∧op≤255):=by rw [← endsB_iff,Bool.not_eq_true]
theorem ends_cases {op:Int} (h:249≤op∧op≤255):op=249∨op=250∨op=251∨op=252∨op=253∨op=254∨op=255:=by omega
theorem kindOp_table (op:Int):(op=54∧kindOp op=1)∨(op=55∧kindOp op=2)∨(op=56∧kindOp op=4)∨(op=248∧kindOp op=8)∨(op=59∧kindOp op=16)∨(op=245∧kindOp op=32)∨(op=247∧kindOp op=128)∨(op=246∧kindOp op=256)∨(op=250∧kindOp op=3584)∨(op=249∧kindOp op=2560)∨(op=252∧kindOp op=512)∨(op=253∧kindOp op=512)∨(op=254∧kindOp op=512)∨(op=255∧kindOp op=512)∨(op=251∧kindOp op=1536)∨(op≠54∧op≠55∧op≠56∧op≠248∧op≠59∧op≠245∧op≠247∧op≠246∧op≠250∧op≠249∧op≠252∧op≠253∧op≠254∧op≠255∧op≠251∧kindOp op=64):=by
 by_cases h54:op=54
 ·subst h54;exact .inl ⟨rfl,by decide +kernel⟩
 by_cases h55:op=55
 ·subst h55;exact .inr (.inl ⟨rfl,by decide +kernel⟩)
 by_cases h56:op=56
 ·subst h56;exact .inr (.inr (.inl ⟨rfl,by decide +kernel⟩))
 by_cases h248:op=248
 ·subst h248;exact .inr (.inr (.inr (.inl ⟨rfl,by decide +kernel⟩)))
 by_cases h59:op=59
 ·subst h59;exact .inr (.inr (.inr (.inr (.inl ⟨rfl,by decide +kernel⟩))))
 by_cases h245:op=245
 ·subst h245;exact .inr (.inr (.inr (.inr (.inr (.inl ⟨rfl,by decide +kernel⟩)))))
 by_cases h247:op=247
 ·subst h247;exact .inr (.inr (.inr (.inr (.inr (.inr (.inl ⟨rfl,by decide +kernel⟩))))))
 by_cases h246:op=246
 ·subst h246;exact .inr (.inr (.inr (.inr (.inr (.inr (.inr (.inl ⟨rfl,by decide +kernel⟩)))))))
 by_cases h250:op=250
 ·subst h250;exact .inr (.inr (.inr (.inr (.inr (.inr (.inr (.inr (.inl ⟨rfl,by decide +kernel⟩))))))))
 by_cases h249:op=249
 ·subst h249;exact .inr (.inr (.inr (.inr (.inr (.inr (.inr (.inr (.inr (.inl ⟨rfl,by decide +kernel⟩)))))))))
 by_cases h252:op=252
 ·subst h252;exact .inr (.inr (.inr (.inr (.inr (.inr (.inr (.inr (.inr (.inr (.inl ⟨rfl,by decide +kernel⟩))))))))))
 by_cases h253:op=253
 ·subst h253;exact .inr (.inr (.inr (.inr (.inr (.inr (.inr (.inr (.inr (.inr (.inr (.inl ⟨rfl,by decide +kernel⟩)))))))))))
 by_cases h254:op=254
 ·subst h254;exact .inr (.inr (.inr (.inr (.inr (.inr (.inr (.inr (.inr (.inr (.inr (.inr (.inl ⟨rfl,by decide +kernel⟩))))))))))))
 by_cases h255:op=255
 ·subst h255;exact .inr (.inr (.inr (.inr (.inr (.inr (.inr (.inr (.inr (.inr (.inr (.inr (.inr (.inl ⟨rfl,by decide +kernel⟩)))))))))))))
 by_cases h251:op=251
 ·subst h251;exact .inr (.inr (.inr (.inr (.inr (.inr (.inr (.inr (.inr (.inr (.inr (.inr (.inr (.inr (.inl ⟨rfl,by decide +kernel⟩))))))))))))))
 have e:kindOp op=64:=by
  unfold kindOp
  simp [h54,h55,h56,h248,h59,h245,h247,h246,h250,h249,h252,h253,h254,h255,h251]
 exact .inr (.inr (.inr (.inr (.inr (.inr (.inr (.inr (.inr (.inr (.inr (.inr (.inr (.inr (.inr (⟨h54,h55,h56,h248,h59,h245,h247,h246,h250,h249,h252,h253,h254,h255,h251,e⟩)))))))))))))))
theorem kindOp_one {op:Int}:kindOp op=1↔op=54:=by
 constructor
 ·intro h
  rcases kindOp_table op with ⟨e,q⟩ | ⟨e,q⟩ | ⟨e,q⟩ | ⟨e,q⟩ | ⟨e,q⟩ | ⟨e,q⟩ | ⟨e,q⟩ | ⟨e,q⟩ | ⟨e,q⟩ | ⟨e,q⟩ | ⟨e,q⟩ | ⟨e,q⟩ | ⟨e,q⟩ | ⟨e,q⟩ | ⟨e,q⟩ | ⟨n54,n55,n56,n248,n59,n245,n247,n246,n250,n249,n252,n253,n254,n255,n251,q⟩ <;> first | exact e | (rw [q] at h;exact absurd h (by decide))
 ·intro h;subst h;decide +kernel
theorem kindOp_two {op:Int}:kindOp op=2↔op=55:=by
 constructor
 ·intro h
  rcases kindOp_table op with ⟨e,q⟩ | ⟨e,q⟩ | ⟨e,q⟩ | ⟨e,q⟩ | ⟨e,q⟩ | ⟨e,q⟩ | ⟨e,q⟩ | ⟨e,q⟩ | ⟨e,q⟩ | ⟨e,q⟩ | ⟨e,q⟩ | ⟨e,q⟩ | ⟨e,q⟩ | ⟨e,q⟩ | ⟨e,q⟩ | ⟨n54,n55,n56,n248,n59,n245,n247,n246,n250,n249,n252,n253,n254,n255,n251,q⟩ <;> first | exact e | (rw [q] at h;exact absurd h (by decide))
 ·intro h;subst h;decide +kernel
theorem kindOp_four {op:Int}:kindOp op=4↔op=56:=by
 constructor
 ·intro h
  rcases kindOp_table op with ⟨e,q⟩ | ⟨e,q⟩ | ⟨e,q⟩ | ⟨e,q⟩ | ⟨e,q⟩ | ⟨e,q⟩ | ⟨e,q⟩ | ⟨e,q⟩ | ⟨e,q⟩ | ⟨e,q⟩ | ⟨e,q⟩ | ⟨e,q⟩ | ⟨e,q⟩ | ⟨e,q⟩ | ⟨e,q⟩ | ⟨n54,n55,n56,n248,n59,n245,n247,n246,n250,n249,n252,n253,n254,n255,n251,q⟩ <;> first | exact e | (rw [q] at h;exact absurd h (by decide))
 ·intro h;subst h;decide +kernel
theorem kindOp_eight {op:Int}:kindOp op=8↔op=248:=by
 constructor
 ·intro h
  rcases kindOp_table op with ⟨e,q⟩ | ⟨e,q⟩ | ⟨e,q⟩ | ⟨e,q⟩ | ⟨e,q⟩ | ⟨e,q⟩ | ⟨e,q⟩ | ⟨e,q⟩ | ⟨e,q⟩ | ⟨e,q⟩ | ⟨e,q⟩ | ⟨e,q⟩ | ⟨e,q⟩ | ⟨e,q⟩ | ⟨e,q⟩ | ⟨n54,n55,n56,n248,n59,n245,n247,n246,n250,n249,n252,n253,n254,n255,n251,q⟩ <;> first | exact e | (rw [q] at h;exact absurd h (by decide))
 ·intro h;subst h;decide +kernel
theorem kindOp_16 {op:Int}:kindOp op=16↔op=59:=by
 constructor
 ·intro h
  rcases kindOp_table op with ⟨e,q⟩ | ⟨e,q⟩ | ⟨e,q⟩ | ⟨e,q⟩ | ⟨e,q⟩ | ⟨e,q⟩ | ⟨e,q⟩ | ⟨e,q⟩ | ⟨e,q⟩ | ⟨e,q⟩ | ⟨e,q⟩ | ⟨e,q⟩ | ⟨e,q⟩ | ⟨e,q⟩ | ⟨e,q⟩ | ⟨n54,n55,n56,n248,n59,n245,n247,n246,n250,n249,n252,n253,n254,n255,n251,q⟩ <;> first | exact e | (rw [q] at h;exact absurd h (by decide))
 ·intro h;subst h;decide +kernel
theorem kindOp_32 {op:Int}:kindOp op=32↔op=245:=by
 constructor
 ·intro h
  rcases kindOp_table op with ⟨e,q⟩ | ⟨e,q⟩ | ⟨e,q⟩ | ⟨e,q⟩ | ⟨e,q⟩ | ⟨e,q⟩ | ⟨e,q⟩ | ⟨e,q⟩ | ⟨e,q⟩ | ⟨e,q⟩ | ⟨e,q⟩ | ⟨e,q⟩ | ⟨e,q⟩ | ⟨e,q⟩ | ⟨e,q⟩ | ⟨n54,n55,n56,n248,n59,n245,n247,n246,n250,n249,n252,n253,n254,n255,n251,q⟩ <;> first | exact e | (rw [q] at h;exact absurd h (by decide))
 ·intro h;subst h;decide +kernel
theorem kindOp_128 {op:Int}:kindOp op=128↔op=247:=by
 constructor
 ·intro h
  rcases kindOp_table op with ⟨e,q⟩ | ⟨e,q⟩ | ⟨e,q⟩ | ⟨e,q⟩ | ⟨e,q⟩ | ⟨e,q⟩ | ⟨e,q⟩ | ⟨e,q⟩ | ⟨e,q⟩ | ⟨e,q⟩ | ⟨e,q⟩ | ⟨e,q⟩ | ⟨e,q⟩ | ⟨e,q⟩ | ⟨e,q⟩ | ⟨n54,n55,n56,n248,n59,n245,n247,n246,n250,n249,n252,n253,n254,n255,n251,q⟩ <;> first | exact e | (rw [q] at h;exact absurd h (by decide))
 ·intro h;subst h;decide +kernel
theorem kindOp_256 {op:Int}:kindOp op=256↔op=246:=by
 constructor
 ·intro h
  rcases kindOp_table op with ⟨e,q⟩ | ⟨e,q⟩ | ⟨e,q⟩ | ⟨e,q⟩ | ⟨e,q⟩ | ⟨e,q⟩ | ⟨e,q⟩ | ⟨e,q⟩ | ⟨e,q⟩ | ⟨e,q⟩ | ⟨e,q⟩ | ⟨e,q⟩ | ⟨e,q⟩ | ⟨e,q⟩ | ⟨e,q⟩ | ⟨n54,n55,n56,n248,n59,n245,n247,n246,n250,n249,n252,n253,n254,n255,n251,q⟩ <;> first | exact e | (rw [q] at h;exact absurd h (by decide))
 ·intro h;subst h;decide +kernel
theorem kindOp_64 {op:Int}:kindOp op=64↔op≠54∧op≠55∧op≠56∧op≠248∧op≠59∧op≠245∧op≠247∧op≠246∧¬ (249≤op∧op≤255):=by
 constructor
 ·intro h
  rcases kindOp_table op with ⟨e,q⟩ | ⟨e,q⟩ | ⟨e,q⟩ | ⟨e,q⟩ | ⟨e,q⟩ | ⟨e,q⟩ | ⟨e,q⟩ | ⟨e,q⟩ | ⟨e,q⟩ | ⟨e,q⟩ | ⟨e,q⟩ | ⟨e,q⟩ | ⟨e,q⟩ | ⟨e,q⟩ | ⟨e,q⟩ | ⟨n54,n55,n56,n248,n59,n245,n247,n246,n250,n249,n252,n253,n254,n255,n251,q⟩ <;> first | (refine⟨n54,n55,n56,n248,n59,n245,n247,n246,fun hr=>?_⟩;rcases ends_cases hr with e | e | e | e | e | e | e <;> first | exact n249 e | exact n250 e | exact n251 e | exact n252 e | exact n253 e | exact n254 e | exact n255 e) | (rw [q] at h;exact absurd h (by decide))
 ·rintro⟨h1,h2,h3,h4,h5,h6,h7,h8,h9⟩
  rcases kindOp_table op with ⟨e,q⟩ | ⟨e,q⟩ | ⟨e,q⟩ | ⟨e,q⟩ | ⟨e,q⟩ | ⟨e,q⟩ | ⟨e,q⟩ | ⟨e,q⟩ | ⟨e,q⟩ | ⟨e,q⟩ | ⟨e,q⟩ | ⟨e,q⟩ | ⟨e,q⟩ | ⟨e,q⟩ | ⟨e,q⟩ | ⟨n54,n55,n56,n248,n59,n245,n247,n246,n250,n249,n252,n253,n254,n255,n251,q⟩ <;> first | exact q | contradiction | (exact absurd (by rw [e];decide) h9)
theorem kind_sel (op:Int):(bits .and .u16 (kindOp op) 1024==0)=!(op==250 || op==251):=by
 rcases kindOp_table op with ⟨e,q⟩ | ⟨e,q⟩ | ⟨e,q⟩ | ⟨e,q⟩ | ⟨e,q⟩ | ⟨e,q⟩ | ⟨e,q⟩ | ⟨e,q⟩ | ⟨e,q⟩ | ⟨e,q⟩ | ⟨e,q⟩ | ⟨e,q⟩ | ⟨e,q⟩ | ⟨e,q⟩ | ⟨e,q⟩ | ⟨n54,n55,n56,n248,n59,n245,n247,n246,n250,n249,n252,n253,n254,n255,n251,q⟩ <;> rw [q] <;> first | (rw [e];decide +kernel) | (rw [show (op==250)=false by simpa using n250,show (op==251)=false by simpa using n251];decide +kernel)
theorem kind_loop (op:Int):(bits .and .u16 (kindOp op) 2048==0)=!(op==249 || op==250):=by
 rcases kindOp_table op with ⟨e,q⟩ | ⟨e,q⟩ | ⟨e,q⟩ | ⟨e,q⟩ | ⟨e,q⟩ | ⟨e,q⟩ | ⟨e,q⟩ | ⟨e,q⟩ | ⟨e,q⟩ | ⟨e,q⟩ | ⟨e,q⟩ | ⟨e,q⟩ | ⟨e,q⟩ | ⟨e,q⟩ | ⟨e,q⟩ | ⟨n54,n55,n56,n248,n59,n245,n247,n246,n250,n249,n252,n253,n254,n255,n251,q⟩ <;> rw [q] <;> first | (rw [e];decide +kernel) | (rw [show (op==249)=false by simpa using n249,show (op==250)=false by simpa using n250];decide +kernel)
theorem kind_none:(bits .and .u16 0 512==0)=true∧(bits .and .u16 0 1024==0)=true∧(bits .and .u16 0 2048==0)=true:=by decide +kernel
theorem cutTo_small (l:List InstT):∀ k,(cutTo l k).length≤k∧∀ f∈cutTo l k,f.2.2.1.length≤k∧f.2.2.2.1.length≤k
 | 0=>⟨Nat.le_refl _,fun f hf=>by cases hf⟩
 | k+1=>by
  obtain⟨h1,h2⟩:=cutTo_small l k
  have last:∀ g:FuncT→FuncT,(∀ f,(g f).2.2.1.length≤f.2.2.1.length+1∧(g f).2.2.2.1.length≤f.2.2.2.1.length+1)→(onLast (cutTo l k) g).length≤k+1∧∀ f∈onLast (cutTo l k) g,f.2.2.1.length≤k+1∧f.2.2.2.1.length≤k+1:=by
   intro g hg
   generalize hfs:cutTo l k=fs at *
   rcases List.eq_nil_or_concat fs with e | ⟨fs',f,e⟩
   ·subst e;simp [onLast]
   ·rw [List.concat_eq_append] at e
    subst e
    rw [onLast_snoc]
    refine⟨by simp at h1 ⊢;omega,fun f' hf=>?_⟩
    rcases List.mem_append.1 hf with hf | hf
    ·have:=h2 f' (List.mem_append.2 (.inl hf));omega
    ·rw [List.mem_singleton] at hf
     subst hf
     have:=h2 f (by simp)
     have:=hg f
     omega
  rw [cutTo]
  unfold stepC
  split
  ·refine⟨by simp;omega,fun f hf=>?_⟩
   rcases List.mem_append.1 hf with hf | hf
   ·have:=h2 f hf;omega
   ·rw [List.mem_singleton] at hf;subst hf;simp
  ·split
   ·exact last _ (fun f=>by simp [withParam])
   ·split
    ·exact last _ (fun f=>by simp [withEnd])
    ·split
     ·exact last _ (fun f=>by simp [withBlock])
     ·split
      ·refine last _ (fun f=>?_)
       have:(endLast f.2.2.2.1 ((k+1:Nat):Int)).length≤f.2.2.2.1.length:=by
        generalize f.2.2.2.1=bs
        rcases List.eq_nil_or_concat bs with e | ⟨bs',b,e⟩
        ·subst e;simp [endLast]
        ·rw [List.concat_eq_append] at e;subst e;rw [endLast_snoc];simp
       simp only [withTo]
       omega
      ·exact⟨by omega,fun f hf=>by have:=h2 f hf;omega⟩
theorem cutTo_last {l:List InstT} {k:Nat} {fs:List FuncT} {f:FuncT} (h:cutTo l k=fs++[f]):fs.length<k∧f.2.2.1.length≤k∧f.2.2.2.1.length≤k:=by
 obtain⟨h1,h2⟩:=cutTo_small l k
 rw [h] at h1 h2
 have:=h2 f (by simp)
 simp at h1
 omega
def SpansF (l:List InstT) (ps:Nat→Int) (k:Nat):Prop:=∀ i,i≤16→ps i=cntP l ((i+1) / 2) k
theorem SpansF.next {l:List InstT} {ps:Nat→Int} {k:Nat} (h:SpansF l ps k) (h8:partI (nthI l k)=8):SpansF l ps (k+1):=fun i hi=>by
 rw [cntP_more (by rw [h8];omega)];exact h i hi
def AtOut (l:List InstT) (k:Nat):Prop:=Fc l k∧(aheadO l k=0∨aheadO l k=56)
def AtPar (l:List InstT) (k:Nat):Prop:=Fc l k∧(aheadO l k=54∨aheadO l k=55)∧∃ fs f,cutTo l k=fs++[f]
def AtBlk (l:List InstT) (k:Nat) (head:Int):Prop:=Fc l k∧kindAt l k=8∧((aheadO l k=54∨aheadO l k=55)∧head=16∨endsB (aheadO l k)=true∧head=32)∧∃ fs f,cutTo l k=fs++[f]
def AtHds (l:List InstT) (k:Nat) (head:Int):Prop:=Fc l k∧(head=16∧(aheadO l k=248∨aheadO l k=59)∧firstB l (k - 1)=true∨head=32∧(aheadO l k=248∨aheadO l k=245)∧firstB l (k - 1)=false)∧∃ fs f bs b,cutTo l k=fs++[f]∧f.2.2.2.1=bs++[b]
def inBlk (ah:Int):Prop:=ah≠0∧ah≠54∧ah≠55∧ah≠56∧ah≠246∧ah≠247∧¬ (249≤ah∧ah≤255)
def AtBody (l:List InstT) (k:Nat):Prop:=Fc l k∧inBlk (aheadO l k)∧(k<l.length→partI (nthI l k)=8→(nthI l k).1=59∨(nthI l k).1=245→mayF (nthI l k).1 (aheadO l k) (firstB l (k - 1))=false)∧∃ fs f bs b,cutTo l k=fs++[f]∧f.2.2.2.1=bs++[b]
def AtEnd (l:List InstT) (k:Nat):Prop:=Fc l k∧mayF (nthI l k).1 (aheadO l k) (firstB l (k - 1))=true∧partI (nthI l k)=8∧k<l.length∧endsB (nthI l k).1=true∧∃ fs f bs b,cutTo l k=fs++[f]∧f.2.2.2.1=bs++[b]
def AtAft (l:List InstT) (k:Nat):Prop:=Fc l k∧endsB (aheadO l k)=true∧∃ fs f,cutTo l k=fs++[f]
theorem ahead_at {l:List InstT} {k:Nat} (h:aheadO l k≠0):1≤k∧(nthI l (k - 1)).1=aheadO l k:=by
 unfold aheadO at *
 split at h
 ·next h1=>rw [if_pos h1];exact⟨h1.1,rfl⟩
 ·exact absurd rfl h
theorem AtOut.end {l:List InstT} {k:Nat} (h:AtOut l k) (hp:partAt l k=9):k=l.length∧okTo l k∧modelsN l k≠0∧(aheadO l k=0∨aheadO l k=56) :=
 ⟨by have:=partAt_nine hp;have:=h.1.le;omega,h.1.ok,h.1.models,h.2⟩
theorem AtOut.wrong {l:List InstT} {k:Nat} (h:AtOut l k) (hp:partAt l k≠9) (hk:kindAt l k≠1):wrongAt l k:=by
 refine h.1.fail (fun hl h8=>?_) (.inr hp)
 rw [kindAt_eight hl h8] at hk
 have h54:(nthI l k).1≠54:=fun e=>hk (kindOp_one.2 e)
 rcases h.2 with e | e <;> rw [e] <;> unfold mayF <;> simp [h54,endsB]
theorem AtOut.next {l:List InstT} {k:Nat} (h:AtOut l k) (hk:kindAt l k=1):k<l.length∧partI (nthI l k)=8∧AtPar l (k+1)∧cutTo l (k+1)=cutTo l k++[((nthI l k).2.2.1,(k:Int),[],[],0)]:=by
 obtain⟨hl,h8,e⟩:=kind_part (l:=l) (k:=k) (by omega)
 rw [e] at hk
 have h54:=kindOp_one.1 hk
 have hm:mayF (nthI l k).1 (aheadO l k) (firstB l (k - 1))=true:=by
  rw [h54];unfold mayF;rcases h.2 with e | e <;> rw [e] <;> rfl
 obtain⟨h1,h2⟩:=h.1.next hl h8 hm
 have hc:cutTo l (k+1)=cutTo l k++[((nthI l k).2.2.1,(k:Int),[],[],0)]:=by rw [cutTo];unfold stepC;rw [if_pos h54]
 exact⟨hl,h8,⟨h1,.inl (h2.trans h54),_,_,hc⟩,hc⟩
theorem AtPar.par {l:List InstT} {k:Nat} (h:AtPar l k) (hk:kindAt l k=2):k<l.length∧partI (nthI l k)=8∧AtPar l (k+1)∧∀ fs f,cutTo l k=fs++[f]→cutTo l (k+1)=fs++[withParam k f]:=by
 obtain⟨hl,h8,e⟩:=kind_part (l:=l) (k:=k) (by omega)
 rw [e] at hk
 have h55:=kindOp_two.1 hk
 have hm:mayF (nthI l k).1 (aheadO l k) (firstB l (k - 1))=true:=by
  rw [h55];unfold mayF;rcases h.2.1 with e | e <;> rw [e] <;> rfl
 obtain⟨h1,h2⟩:=h.1.next hl h8 hm
 have hc:∀ fs f,cutTo l k=fs++[f]→cutTo l (k+1)=fs++[withParam k f]:=fun fs f e=>by
  rw [cutTo];unfold stepC;rw [if_neg (by omega),if_pos h55,e,onLast_snoc]
 obtain⟨fs,f,e⟩:=h.2.2
 exact⟨hl,h8,⟨h1,.inr (h2.trans h55),_,_,hc fs f e⟩,hc⟩
theorem AtPar.blk {l:List InstT} {k:Nat} (h:AtPar l k) (hk:kindAt l k=8):AtBlk l k 16:=⟨h.1,hk,.inl ⟨h.2.1,rfl⟩,h.2.2⟩
theorem AtPar.wrong {l:List InstT} {k:Nat} (h:AtPar l k) (h2:kindAt l k≠2) (h3:kindAt l k≠8):wrongAt l k:=by
 have ha:=h.2.1
 refine h.1.fail (fun hl h8=>?_) (.inl (by omega))
 rw [kindAt_eight hl h8] at h2 h3
 have k1:(nthI l k).1≠55:=fun e=>h2 (kindOp_two.2 e)
 have k2:(nthI l k).1≠248:=fun e=>h3 (kindOp_eight.2 e)
 rcases ha with e | e <;> rw [e] <;> unfold mayF <;> simp [k1,k2,endsB]
theorem AtBlk.next {l:List InstT} {k:Nat} {head:Int} (h:AtBlk l k head):k<l.length∧partI (nthI l k)=8∧AtHds l (k+1) head∧∀ fs f,cutTo l k=fs++[f]→cutTo l (k+1)=fs++[withBlock (nthI l k).2.2.1 k f]:=by
 obtain⟨hF,hk,ha,fs0,f0,hcut⟩:=h
 obtain⟨hl,h8,e⟩:=kind_part (l:=l) (k:=k) (by omega)
 rw [e] at hk
 have h248:=kindOp_eight.1 hk
 have hne:aheadO l k≠0:=by
  rcases ha with ⟨ha,_⟩ | ⟨ha,_⟩
  ·omega
  ·have:=endsB_iff.1 ha;omega
 obtain⟨hk1,hah⟩:=ahead_at hne
 have hm:mayF (nthI l k).1 (aheadO l k) (firstB l (k - 1))=true:=by
  rw [h248];unfold mayF
  rcases ha with ⟨ha | ha,_⟩ | ⟨ha,_⟩
  ·rw [ha];rfl
  ·rw [ha];rfl
  ·simp [ha]
 obtain⟨h1,h2⟩:=hF.next hl h8 hm
 have hc:∀ fs f,cutTo l k=fs++[f]→cutTo l (k+1)=fs++[withBlock (nthI l k).2.2.1 k f]:=fun fs f e=>by
  rw [cutTo];unfold stepC;rw [if_neg (by omega),if_neg (by omega),if_neg (by omega),if_pos h248,e,onLast_snoc]
 have hf:=(firstB_label hk1 h248).1
 rw [hah] at hf
 refine⟨hl,h8,⟨h1,?_,_,_,_,_,hc fs0 f0 hcut,rfl⟩,hc⟩
 rw [Nat.add_sub_cancel,h2,h248,hf]
 rcases ha with ⟨ha,e⟩ | ⟨ha,e⟩
 ·exact .inl ⟨e,.inl rfl,by simpa using ha⟩
 ·have:=endsB_iff.1 ha
  exact .inr ⟨e,.inl rfl,by simp;omega⟩
theorem AtHds.next {l:List InstT} {k:Nat} {head:Int} (h:AtHds l k head) (hk:kindAt l k=head):k<l.length∧partI (nthI l k)=8∧AtHds l (k+1) head∧cutTo l (k+1)=cutTo l k:=by
 obtain⟨hF,ha,hcut⟩:=h
 obtain⟨hl,h8,e⟩:=kind_part (l:=l) (k:=k) (by omega)
 rw [e] at hk
 have hne:aheadO l k≠0:=by omega
 obtain⟨hk1,hah⟩:=ahead_at hne
 have hop:(head=16∧(nthI l k).1=59)∨(head=32∧(nthI l k).1=245):=by
  rcases ha with ⟨e1,_⟩ | ⟨e1,_⟩
  ·exact .inl ⟨e1,kindOp_16.1 (by omega)⟩
  ·exact .inr ⟨e1,kindOp_32.1 (by omega)⟩
 have hm:mayF (nthI l k).1 (aheadO l k) (firstB l (k - 1))=true:=by
  rcases ha with ⟨e1,ha,hf⟩ | ⟨e1,ha,hf⟩
  ·have h59:(nthI l k).1=59:=by omega
   rw [h59,hf];unfold mayF;rcases ha with ha | ha <;> rw [ha] <;> rfl
  ·have h245:(nthI l k).1=245:=by omega
   rw [h245,hf];unfold mayF;rcases ha with ha | ha <;> rw [ha] <;> rfl
 obtain⟨h1,h2⟩:=hF.next hl h8 hm
 have hc:cutTo l (k+1)=cutTo l k:=by
  rw [cutTo]
  refine stepC_other (by omega) (by omega) (by omega) (by omega) ?_
  unfold endsB;simp;omega
 have hf:=(firstB_other hk1 (show (nthI l k).1≠248 by omega)).1
 refine⟨hl,h8,⟨h1,?_,by rw [hc];exact hcut⟩,hc⟩
 rw [Nat.add_sub_cancel,h2,hf]
 rcases ha with ⟨e1,_,hf⟩ | ⟨e1,_,hf⟩
 ·exact .inl ⟨e1,.inr (by omega),hf⟩
 ·exact .inr ⟨e1,.inr (by omega),hf⟩
theorem AtHds.body {l:List InstT} {k:Nat} {head:Int} (h:AtHds l k head) (hk:kindAt l k≠head):AtBody l k:=by
 obtain⟨hF,ha,hcut⟩:=h
 refine⟨hF,by unfold inBlk;omega,fun hl h8 ho=>?_,hcut⟩
 rw [kindAt_eight hl h8] at hk
 rcases ha with ⟨e1,ha,hf⟩ | ⟨e1,ha,hf⟩
 ·have h59:(nthI l k).1≠59:=fun e=>hk (by rw [e1];exact kindOp_16.2 e)
  have h245:(nthI l k).1=245:=by omega
  rw [h245,hf];unfold mayF;rcases ha with ha | ha <;> rw [ha] <;> rfl
 ·have h245:(nthI l k).1≠245:=fun e=>hk (by rw [e1];exact kindOp_32.2 e)
  have h59:(nthI l k).1=59:=by omega
  rw [h59,hf];unfold mayF;rcases ha with ha | ha <;> rw [ha] <;> rfl
theorem mayF_in {op ah:Int} {fs:Bool} (h:inBlk ah) (h1:op≠54) (h2:op≠55) (h3:op≠56) (h4:op≠248) (h5:op≠59) (h6:op≠245):mayF op ah fs=true:=by
 obtain⟨a0,a1,a2,a3,a4,a5,a6⟩:=h
 have he:endsB ah=false:=endsB_false.2 a6
 unfold mayF
 simp [h1,h2,h3,h4,h5,h6,a0,a1,a2,a3,a4,a5,he]
theorem mayF_out {op ah:Int} {fs:Bool} (h:inBlk ah) (h1:op=54∨op=55∨op=56∨op=248):mayF op ah fs=false:=by
 obtain⟨a0,a1,a2,a3,a4,a5,a6⟩:=h
 have he:endsB ah=false:=endsB_false.2 a6
 unfold mayF
 rcases h1 with e | e | e | e <;> subst e <;> simp [a0,a1,a2,a3,he]
theorem op_ne_zero {x:InstT} (h:partI x=8):x.1≠0:=fun e=>by
 unfold partI at h
 rw [if_neg (by omega),e] at h
 exact partO_zero h
theorem AtBody.step {l:List InstT} {k:Nat} (h:AtBody l k) (hl:k<l.length) (h8:partI (nthI l k)=8) (h1:(nthI l k).1≠54) (h2:(nthI l k).1≠55) (h3:(nthI l k).1≠56) (h4:(nthI l k).1≠248) (h5:(nthI l k).1≠59) (h6:(nthI l k).1≠245) (h7:endsB (nthI l k).1=false):Fc l (k+1)∧aheadO l (k+1)=(nthI l k).1∧cutTo l (k+1)=cutTo l k:=by
 obtain⟨k1,k2⟩:=h.1.next hl h8 (mayF_in h.2.1 h1 h2 h3 h4 h5 h6)
 exact⟨k1,k2,by rw [cutTo];exact stepC_other h1 h2 h3 h4 h7⟩
theorem AtBody.plain {l:List InstT} {k:Nat} (h:AtBody l k) (hk:kindAt l k=64):k<l.length∧partI (nthI l k)=8∧AtBody l (k+1)∧cutTo l (k+1)=cutTo l k:=by
 obtain⟨hl,h8,e⟩:=kind_part (l:=l) (k:=k) (by omega)
 rw [e] at hk
 obtain⟨n1,n2,n3,n4,n5,n6,n7,n8,n9⟩:=kindOp_64.1 hk
 have he:endsB (nthI l k).1=false:=endsB_false.2 n9
 obtain⟨q1,q2,q3⟩:=h.step hl h8 n1 n2 n3 n4 n5 n6 he
 refine⟨hl,h8,⟨q1,?_,fun _ _ ho=>?_,by rw [q3];exact h.2.2.2⟩,q3⟩
 ·rw [q2];exact⟨op_ne_zero h8,n1,n2,n3,n8,n7,n9⟩
 ·rw [q2]
  unfold mayF
  rcases ho with ho | ho <;> simp [ho,n4,n5,n6]
theorem AtBody.sel {l:List InstT} {k:Nat} (h:AtBody l k) (hk:kindAt l k=128):k<l.length∧partI (nthI l k)=8∧Fc l (k+1)∧aheadO l (k+1)=247∧cutTo l (k+1)=cutTo l k:=by
 obtain⟨hl,h8,e⟩:=kind_part (l:=l) (k:=k) (by omega)
 rw [e] at hk
 have h247:=kindOp_128.1 hk
 obtain⟨q1,q2,q3⟩:=h.step hl h8 (by omega) (by omega) (by omega) (by omega) (by omega) (by omega) (by unfold endsB;simp;omega)
 exact⟨hl,h8,q1,q2.trans h247,q3⟩
theorem AtBody.loop {l:List InstT} {k:Nat} (h:AtBody l k) (hk:kindAt l k=256):k<l.length∧partI (nthI l k)=8∧Fc l (k+1)∧aheadO l (k+1)=246∧cutTo l (k+1)=cutTo l k:=by
 obtain⟨hl,h8,e⟩:=kind_part (l:=l) (k:=k) (by omega)
 rw [e] at hk
 have h246:=kindOp_256.1 hk
 obtain⟨q1,q2,q3⟩:=h.step hl h8 (by omega) (by omega) (by omega) (by omega) (by omega) (by omega) (by unfold endsB;simp;omega)
 exact⟨hl,h8,q1,q2.trans h246,q3⟩
theorem sel_end {l:List InstT} {k:Nat} (hF:Fc l k) (ha:aheadO l k=247):(bits .and .u16 (kindAt l k) 1024==0)=true∧wrongAt l k∨(bits .and .u16 (kindAt l k) 1024==0)=false∧k<l.length∧partI (nthI l k)=8∧endsB (nthI l k).1=true∧mayF (nthI l k).1 (aheadO l k) (firstB l (k - 1))=true:=by
 by_cases hl:k<l.length∧partI (nthI l k)=8
 ·rw [kindAt_eight hl.1 hl.2,kind_sel]
  by_cases ho:(nthI l k).1=250∨(nthI l k).1=251
  ·refine .inr ⟨by rcases ho with e | e <;> rw [e] <;> rfl,hl.1,hl.2,by rw [endsB_iff];omega,?_⟩
   rw [ha];rcases ho with e | e <;> rw [e] <;> rfl
  ·refine .inl ⟨by simp;omega,hF.fail (fun _ _=>?_) (.inl (by omega))⟩
   have n1:(nthI l k).1≠250:=fun e=>ho (.inl e)
   have n2:(nthI l k).1≠251:=fun e=>ho (.inr e)
   rw [ha];unfold mayF;simp [n1,n2,endsB]
 ·have hz:kindAt l k=0:=by
   unfold kindAt kindX
   split
   ·next h1=>rw [if_neg (fun e=>hl ⟨h1,e⟩)]
   ·rfl
  rw [hz]
  exact .inl ⟨kind_none.2.1,hF.fail (fun h1 h2=>absurd ⟨h1,h2⟩ hl) (.inl (by omega))⟩
theorem loop_end {l:List InstT} {k:Nat} (hF:Fc l k) (ha:aheadO l k=246):(bits .and .u16 (kindAt l k) 2048==0)=true∧wrongAt l k∨(bits .and .u16 (kindAt l k) 2048==0)=false∧k<l.length∧partI (nthI l k)=8∧endsB (nthI l k).1=true∧mayF (nthI l k).1 (aheadO l k) (firstB l (k - 1))=true:=by
 by_cases hl:k<l.length∧partI (nthI l k)=8
 ·rw [kindAt_eight hl.1 hl.2,kind_loop]
  by_cases ho:(nthI l k).1=249∨(nthI l k).1=250
  ·refine .inr ⟨by rcases ho with e | e <;> rw [e] <;> rfl,hl.1,hl.2,by rw [endsB_iff];omega,?_⟩
   rw [ha];rcases ho with e | e <;> rw [e] <;> rfl
  ·refine .inl ⟨by simp;omega,hF.fail (fun _ _=>?_) (.inl (by omega))⟩
   have n1:(nthI l k).1≠249:=fun e=>ho (.inl e)
   have n2:(nthI l k).1≠250:=fun e=>ho (.inr e)
   rw [ha];unfold mayF;simp [n1,n2,endsB]
 ·have hz:kindAt l k=0:=by
   unfold kindAt kindX
   split
   ·next h1=>rw [if_neg (fun e=>hl ⟨h1,e⟩)]
   ·rfl
  rw [hz]
  exact .inl ⟨kind_none.2.2,hF.fail (fun h1 h2=>absurd ⟨h1,h2⟩ hl) (.inl (by omega))⟩
theorem body_end {l:List InstT} {k:Nat} (h:AtBody l k) (h64:kindAt l k≠64) (h128:kindAt l k≠128) (h256:kindAt l k≠256):(bits .and .u16 (kindAt l k) 512==0)=true∧wrongAt l k∨(bits .and .u16 (kindAt l k) 512==0)=false∧k<l.length∧partI (nthI l k)=8∧endsB (nthI l k).1=true∧mayF (nthI l k).1 (aheadO l k) (firstB l (k - 1))=true:=by
 have hb:=h.2.1
 have hne:aheadO l k≠0∧aheadO l k≠56:=⟨hb.1,hb.2.2.2.1⟩
 by_cases hl:k<l.length∧partI (nthI l k)=8
 ·rw [kindAt_eight hl.1 hl.2] at h64 h128 h256 ⊢
  rw [kind_ends]
  cases he:endsB (nthI l k).1 with
  | true =>
   have:=endsB_iff.1 he
   exact .inr ⟨rfl,hl.1,hl.2,rfl,mayF_in hb (by omega) (by omega) (by omega) (by omega) (by omega) (by omega)⟩
  | false =>
   refine .inl ⟨rfl,h.1.fail (fun _ _=>?_) (.inl hne)⟩
   by_cases hs:(nthI l k).1=54∨(nthI l k).1=55∨(nthI l k).1=56∨(nthI l k).1=248
   ·exact mayF_out hb hs
   ·refine h.2.2.1 hl.1 hl.2 ?_
    have n1:(nthI l k).1≠247:=fun e=>h128 (kindOp_128.2 e)
    have n2:(nthI l k).1≠246:=fun e=>h256 (kindOp_256.2 e)
    have n3:¬ (249≤(nthI l k).1∧(nthI l k).1≤255):=fun e=>by rw [endsB_iff.2 e] at he;cases he
    by_cases q1:(nthI l k).1=59
    ·exact .inl q1
    ·by_cases q2:(nthI l k).1=245
     ·exact .inr q2
     ·exact absurd (kindOp_64.2 ⟨fun e=>hs (.inl e),fun e=>hs (.inr (.inl e)),fun e=>hs (.inr (.inr (.inl e))),fun e=>hs (.inr (.inr (.inr e))),q1,q2,n1,n2,n3⟩) h64
 ·have hz:kindAt l k=0:=by
   unfold kindAt kindX
   split
   ·next h1=>rw [if_neg (fun e=>hl ⟨h1,e⟩)]
   ·rfl
  rw [hz]
  exact .inl ⟨kind_none.1,h.1.fail (fun h1 h2=>absurd ⟨h1,h2⟩ hl) (.inl hne)⟩
theorem AtEnd.next {l:List InstT} {k:Nat} (h:AtEnd l k):AtAft l (k+1)∧∀ fs f,cutTo l k=fs++[f]→cutTo l (k+1)=fs++[withTo ((k+1:Nat):Int) f]:=by
 obtain⟨hF,hm,h8,hl,he,fs0,f0,_,_,hcut,_⟩:=h
 obtain⟨q1,q2⟩:=hF.next hl h8 hm
 have hr:=endsB_iff.1 he
 have hc:∀ fs f,cutTo l k=fs++[f]→cutTo l (k+1)=fs++[withTo ((k+1:Nat):Int) f]:=fun fs f e=>by
  rw [cutTo];unfold stepC;rw [if_neg (by omega),if_neg (by omega),if_neg (by omega),if_neg (by omega),if_pos he,e,onLast_snoc]
 exact⟨⟨q1,by rw [q2];exact he,_,_,hc fs0 f0 hcut⟩,hc⟩
theorem AtAft.blk {l:List InstT} {k:Nat} (h:AtAft l k) (hk:kindAt l k=8):AtBlk l k 32:=⟨h.1,hk,.inr ⟨h.2.1,rfl⟩,h.2.2⟩
theorem AtAft.fin {l:List InstT} {k:Nat} (h:AtAft l k) (hk:kindAt l k=4):k<l.length∧partI (nthI l k)=8∧AtOut l (k+1)∧∀ fs f,cutTo l k=fs++[f]→cutTo l (k+1)=fs++[withEnd k f]:=by
 obtain⟨hl,h8,e⟩:=kind_part (l:=l) (k:=k) (by omega)
 rw [e] at hk
 have h56:=kindOp_four.1 hk
 obtain⟨q1,q2⟩:=h.1.next hl h8 (by rw [h56];unfold mayF;simpa using h.2.1)
 refine⟨hl,h8,⟨q1,.inr (q2.trans h56)⟩,fun fs f e=>?_⟩
 rw [cutTo];unfold stepC;rw [if_neg (by omega),if_neg (by omega),if_pos h56,e,onLast_snoc]
theorem AtAft.wrong {l:List InstT} {k:Nat} (h:AtAft l k) (h1:kindAt l k≠8) (h2:kindAt l k≠4):wrongAt l k:=by
 have hr:=endsB_iff.1 h.2.1
 refine h.1.fail (fun hl h8=>?_) (.inl (by omega))
 rw [kindAt_eight hl h8] at h1 h2
 have k1:(nthI l k).1≠248:=fun e=>h1 (kindOp_eight.2 e)
 have k2:(nthI l k).1≠56:=fun e=>h2 (kindOp_four.2 e)
 have a0:aheadO l k≠0:=by omega
 have a1:aheadO l k≠54:=by omega
 have a2:aheadO l k≠55:=by omega
 have a3:aheadO l k≠56:=by omega
 unfold mayF
 simp [k1,k2,a0,a1,a2,a3,h.2.1]
end Go.Proofs.YtlcaedibmlidlaaGreat
