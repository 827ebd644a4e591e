/-
  Texts in one: LayoutWalkOver.
-/
import Derived.Test.YtoebhgpciinkgaaGreatDoorB12
namespace Go.Proofs.YtoebhgpciinkgaaGreatDoor
open Go.RowKit
set_option linter.unusedVariables false
set_option linter.unusedSimpArgs false
set_option maxRecDepth 10000
attribute [local go_sem] jumps_normal jumps_exit jumps_ret jumps_panic jumps_goto onNormal_normal

def openE (l:List InstT):Bool:=decide (modelsN l l.length=0) || decide (aheadO l l.length≠0∧aheadO l l.length≠56)
def layF (l:List InstT):Nat→Nat→Int×Nat
 | 0,k=>if openE l then (51,k) else (0,0)
 | m+1,k=>if mayL l k then layF l m (k+1) else (50,k)
def layE (b:Int) (l:List InstT):Int×Nat:=if (shapeE b l).1≠0 then shapeE b l else layF l l.length 0
theorem layF_ok {l:List InstT}:∀ (j m k:Nat),okTo l (k+j)→layF l (j+m) k=layF l m (k+j)
 | 0,m,k,_=>by rw [Nat.zero_add,Nat.add_zero]
 | j+1,m,k,h=>by
  rw [show j+1+m=(j+m)+1 by omega,layF,if_pos (h k (by omega)),layF_ok j m (k+1) (by rw [show k+1+j=k+(j+1) by omega];exact h)]
  congr 1;omega
theorem layF_wrong {l:List InstT} {k:Nat} (h:wrongAt l k):layF l l.length 0=(if partAt l k=9 then 51 else 50,k):=by
 obtain⟨hok,h | h⟩:=h
 ·obtain⟨hl,hm⟩:=h
  have e:=layF_ok k (l.length - k) 0 (by rw [Nat.zero_add];exact hok)
  rw [show k+(l.length - k)=l.length by omega,Nat.zero_add] at e
  rw [e,show l.length - k=(l.length - k - 1)+1 by omega,layF,hm,if_neg (show ¬ partAt l k=9 from fun e=>by have:=partAt_nine e;omega)]
  rfl
 ·obtain⟨hk,ho⟩:=h
  have e:=layF_ok k 0 0 (by rw [Nat.zero_add];exact hok)
  rw [Nat.add_zero,Nat.zero_add,hk] at e
  have hO:openE l=true:=by
   unfold openE
   rw [hk] at ho
   simpa using ho
  rw [e,layF,hO,hk,if_pos rfl,if_pos (partAt_end (Nat.le_refl _))]
theorem layF_done {l:List InstT} (hok:okTo l l.length) (hm:modelsN l l.length≠0) (ha:aheadO l l.length=0∨aheadO l l.length=56):layF l l.length 0=(0,0):=by
 have e:=layF_ok l.length 0 0 (by rw [Nat.zero_add];exact hok)
 rw [Nat.add_zero,Nat.zero_add] at e
 have hO:openE l=false:=by
  unfold openE
  rcases ha with e | e <;> simp [hm,e]
 rw [e,layF,hO];rfl
set_option maxHeartbeats 4000000 in
/-- functions: it comes to the module's end, or stops where something is wrong. -/
theorem functions_any (w0:World) (B:Nat) (a:Option Addr) (n c:Nat) (l:List InstT) (C:LyC w0 B a n l) (ps:Nat→Int) (k:Nat) (w:World) (hO:FrO l ps 8 k) (h:FW w0 B a n c ps [] l k w) :
  Calls Tryz.prog 117 #[.pointer (some ⟨B,0,none⟩)] w fun e w'=>∃ (b:Bool) (k':Nat) (ps':Nat→Int),e=.returned (.bool b)∧FW w0 B a n c ps' (cutTo l k') l k' w'∧(b=true→SpansE l ps'∧k'=l.length∧okTo l k'∧modelsN l k'≠0∧(aheadO l k'=0∨aheadO l k'=56))∧(b=false→wrongAt l k'):=by
 have hret:FnRet w0 B a n c l (bodyPost Tryz.prog Tryz.f117 fun e w'=>∃ (b:Bool) (k':Nat) (ps':Nat→Int),e=.returned (.bool b)∧FW w0 B a n c ps' (cutTo l k') l k' w'∧(b=true→SpansE l ps'∧k'=l.length∧okTo l k'∧modelsN l k'≠0∧(aheadO l k'=0∨aheadO l k'=56))∧(b=false→wrongAt l k')):=by
  intro a' w' b k ps' q2 q3 q4 q5 q6
  refine bodyPost_ret (v:=.bool b) ?_ q3 ⟨b,k,ps',rfl,q4,q5,q6⟩
  simp only [results,Tryz.results117]
  have q2':a'.tmps[2]?.getD undef=.bool b:=by rw [← Array.getD_eq_getD_getElem?];exact q2
  simp [go_sem,q2']
 have hcut:cutTo l k=[]:=cutTo_front fun i hi=>by have:=hO.parts i hi;omega
 have hFc:Fc l k:=⟨hO.le,hO.ok,fun i hi=>by have:=hO.parts i hi;omega,hO.models (by omega),hO.stuck⟩
 have hah:aheadO l k=0:=by
  unfold aheadO
  rw [if_neg (fun e=>by have:=hO.parts (k - 1) (by omega);omega)]
 have hsp:SpansF l (fun i=>if i=16 then (k:Int) else ps i) k:=fun i hi=>by
  by_cases e:i=16
  ·subst e;simp only [if_true];rw [cntP_all (p:=8) hO.parts]
  ·simp only [e,if_false];exact hO.spans i (by omega)
 have HRET:=hide hret
 have HC:=hide C
 have hBB:=C.hB
 have HA:Hid (AtOut l k):=⟨hFc,.inl hah⟩
 have HS:=hide hsp
 have HW2:Hid (FW w0 B a n c (fun i=>if i=16 then (k:Int) else ps i) (cutTo l k) l k (w.setCell ⟨B,1+16,none⟩ (.int .i64 k)).drew):=by
  show FW _ _ _ _ _ _ _ _ _ _
  rw [hcut]
  exact (h.set hBB 16 (by omega) k).drew (Below.refl _ _).drew
 obtain⟨⟨fv,hWk,_⟩,_⟩:=h
 obtain⟨_,dp,_,d22,_,_,df⟩:=hWk.cells
 have z16:=dp 16 (by omega)
 have f16:=df (1+16)
 have hBl:=hWk.lt
 clear hret C hFc hah hsp hO hcut hWk dp df
 go_enter Tryz.func117,Tryz.ntmps117
 go_wp2_with fail
 refine wp_scope_ranked (FnJ w0 B a n c l) (FnU B n) (fun l=>4 - l) ?hf ?pass ?first
 case hf =>
  intro l a w1 hJ
  match l,hJ with
  | 0,_=>rfl
  | 1,_=>rfl
  | 2,_=>rfl
  | 3,_=>rfl
  | 4,_=>rfl
 case pass =>
  intro l' hprev N a1 w1 hJ hN
  match l',hJ with
  | 0,hJ=>exact fn_out w0 B a n c l _ HC.out HRET.out (hprev 1 (by decide)) N a1 w1 hJ hN
  | 1,hJ=>exact fn_par w0 B a n c l _ HC.out HRET.out (hprev 2 (by decide)) N a1 w1 hJ hN
  | 2,hJ=>exact fn_blk w0 B a n c l _ HC.out HRET.out (hprev 3 (by decide)) N a1 w1 hJ hN
  | 3,hJ=>exact fn_hds w0 B a n c l _ HC.out HRET.out (hprev 4 (by decide)) N a1 w1 hJ hN
  | 4,hJ=>exact fn_body w0 B a n c l _ HC.out HRET.out N a1 w1 hJ hN
 case first =>
  intro hP
  have HP:=hide hP
  clear hP
  go_wp2_with fail
  refine wp_norm ?_
  go_region
  rw [onNormal_normal]
  clear z16 f16 d22
  generalize (w.setCell ⟨B,1+16,none⟩ (.int .i64 k)).drew=W at *
  go_wp2_with fail
  refine wp_label ?_
  rename_i Kx hKx
  exact hKx _ _ (HP.out 0 _ W ⟨k,_,⟨_,rfl,rfl,rfl⟩,HA.out,HS.out,HW2.out⟩)
def walkV (ins:Value) (ps:Nat→Int) (fv:Value) (k pt kd:Int):Value:=.agg #[ins,.int .i64 (ps 0),.int .i64 (ps 1),.int .i64 (ps 2),.int .i64 (ps 3),.int .i64 (ps 4),.int .i64 (ps 5),.int .i64 (ps 6),.int .i64 (ps 7),.int .i64 (ps 8),.int .i64 (ps 9),.int .i64 (ps 10),.int .i64 (ps 11),.int .i64 (ps 12),.int .i64 (ps 13),.int .i64 (ps 14),.int .i64 (ps 15),.int .i64 (ps 16),.int .i64 (ps 17),.int .i64 (ps 18),.int .i64 (ps 19),fv,.int .i64 k,.int .u8 pt,.int .u16 kd]
def WalkQ (w w':World) (b:Int) (l:List InstT) (e:Ending):Prop :=
 ∃ (ins fv:Value) (ps:Nat→Int) (k pt kd:Int),e=.returned (.tuple #[walkV ins ps fv k pt kd,.agg #[.int .i64 (layE b l).1,.int .i64 (layE b l).2]])∧Below w.heap.size w w'∧(ins.oneCell'=true∧fv.oneCell'=true) ∧
  ((layE b l).1≠0∧fv=.slice none 0 0∧(∀ i,ps i=0)∨(layE b l).1=0∧SpansE l ps∧FuncsAt w' w.heap.size fv (cutTo l l.length))
theorem stepAny_store {P:Program} (w:World) {F:Fence} (hF:∀ f,F.fn f) {o:Oper} {ops:Array Oper} {a:Act} {K:Act→World→Prop} {Q:Exit→Act→World→Prop} (hgd:o.guard=none) (ty:TypeId) (x y:Operand) (ho:o.op=.store ty x y)
  (b off:Nat) (cells:Array Value) (hx:a.eval x=.pointer (some ⟨b,off,none⟩)) (hy:a.eval y=.agg cells) (ht:w.there b off cells.size) (hi:(P.info? ty).map (·.size)=some cells.size) (h1:cells.all (·.oneCell')=true)
  (h:K (a.put o.dst undef) (w.setCells b off cells.toList)) :
  if Region.wanted o (yielded ops a.tmps)=true then Oper.wpIn F 0 P o a w K Q else (∀ f,o.about P w a.eval=some f→F.fn f)∧K (a.put o.dst undef) w:=by
 rw [if_pos (by simp [Region.wanted,hgd])]
 refine⟨fun f _=>hF f,?_⟩
 rw [Oper.semAt_eq _ _ _ (fun c hc=>by rw [ho] at hc;cases hc)]
 unfold execOp
 simp only [ho,hx,hy,Instr.storeAt,Instr.sureAddr,Sem.run_bind,Sem.run_pure,Result.andThen_ok,run_storeVar_mid w b off ty cells ht hi h1]
 exact h
theorem there_of_block {w:World} {b t:Nat} {cs:Array Value} (h:w.heap[b]?=some (.cells cs t (0,0))) (n:Nat) (hn:n=cs.size):w.there b 0 n:=fun j hj=>by
 obtain⟨hc,hf⟩:=one_block h
 rw [Nat.zero_add]
 refine⟨?_,hf j⟩
 rw [hc j];simp;omega
theorem range_of_block {w:World} {b t:Nat} {cs:List Value} {fr:Nat×Nat} (h:w.heap[b]?=some (.cells cs.toArray t fr)):w.rangeAt b 0 cs:=fun j v hv=>by
 rw [Nat.zero_add]
 simp [World.cell?,h,hv]
theorem FuncsAt.lower {w:World} {lo lo':Nat} {fv:Value} {fs:List FuncT} (h:FuncsAt w lo fv fs) (hl:lo'≤lo):FuncsAt w lo' fv fs:=by
 obtain⟨V,hV⟩:=h
 refine⟨V,⟨fun q hq=>?_,hV.apart⟩⟩
 have h1:=hV.own q hq
 unfold RowX.own at *
 refine⟨h1.1,?_⟩
 rcases h1.2 with h0 | ⟨g,cap,cur,e,hb,rest⟩
 ·exact .inl h0
 ·exact .inr ⟨g,cap,cur,e,by omega,rest⟩
theorem WkB.row {B:Nat} {ins:Value} {ps:Nat→Int} {fv:Value} {at_ part kind:Int} {W:World} (h:WkB B ins ps fv at_ part kind W):W.heap[B]?=some (.cells #[ins,.int .i64 (ps 0),.int .i64 (ps 1),.int .i64 (ps 2),.int .i64 (ps 3),.int .i64 (ps 4),.int .i64 (ps 5),.int .i64 (ps 6),.int .i64 (ps 7),.int .i64 (ps 8),.int .i64 (ps 9),.int .i64 (ps 10),.int .i64 (ps 11),.int .i64 (ps 12),.int .i64 (ps 13),.int .i64 (ps 14),.int .i64 (ps 15),.int .i64 (ps 16),.int .i64 (ps 17),.int .i64 (ps 18),.int .i64 (ps 19),fv,.int .i64 at_,.int .u8 part,.int .u16 kind] 133 (0,0)):=by
 obtain⟨cs,h1,h2,h3,h4,h5,h6,h7,h8⟩:=h.blk
 have e:cs=#[ins,.int .i64 (ps 0),.int .i64 (ps 1),.int .i64 (ps 2),.int .i64 (ps 3),.int .i64 (ps 4),.int .i64 (ps 5),.int .i64 (ps 6),.int .i64 (ps 7),.int .i64 (ps 8),.int .i64 (ps 9),.int .i64 (ps 10),.int .i64 (ps 11),.int .i64 (ps 12),.int .i64 (ps 13),.int .i64 (ps 14),.int .i64 (ps 15),.int .i64 (ps 16),.int .i64 (ps 17),.int .i64 (ps 18),.int .i64 (ps 19),fv,.int .i64 at_,.int .u8 part,.int .u16 kind]:=by
  apply Array.ext_getElem?
  intro i
  match i with
  | 0=>exact h3
  | 1=>exact h4 0 (by omega)
  | 2=>exact h4 1 (by omega)
  | 3=>exact h4 2 (by omega)
  | 4=>exact h4 3 (by omega)
  | 5=>exact h4 4 (by omega)
  | 6=>exact h4 5 (by omega)
  | 7=>exact h4 6 (by omega)
  | 8=>exact h4 7 (by omega)
  | 9=>exact h4 8 (by omega)
  | 10=>exact h4 9 (by omega)
  | 11=>exact h4 10 (by omega)
  | 12=>exact h4 11 (by omega)
  | 13=>exact h4 12 (by omega)
  | 14=>exact h4 13 (by omega)
  | 15=>exact h4 14 (by omega)
  | 16=>exact h4 15 (by omega)
  | 17=>exact h4 16 (by omega)
  | 18=>exact h4 17 (by omega)
  | 19=>exact h4 18 (by omega)
  | 20=>exact h4 19 (by omega)
  | 21=>exact h5
  | 22=>exact h6
  | 23=>exact h7
  | 24=>exact h8
  | m+25=>rw [Array.getElem?_eq_none (by omega),Array.getElem?_eq_none (by simp)]
 rw [h1,e]
theorem FuncsAt.slice {w:World} {lo:Nat} {fv:Value} {fs:List FuncT} (h:FuncsAt w lo fv fs):∃ a c,fv=.slice a fs.length c:=by
 obtain⟨V,hV⟩:=h
 have h1:=hV.own none trivial
 rcases h1.2 with ⟨e,e2⟩ | ⟨g,cap,cur,e,_⟩
 ·have e2':fs.length=0:=e2
  exact⟨none,0,by rw [e2'];exact e⟩
 ·exact⟨_,_,e⟩
theorem then_normalW {K:Act→World→Prop} {Q:Exit→Act→World→Prop} {a:Act} {w:World}:Exit.then K Q .normal a w=K a w:=rfl
theorem zero_span (i:Nat) (hi:i<20) (x:Value):(#[x,.int .i64 0,.int .i64 0,.int .i64 0,.int .i64 0,.int .i64 0,.int .i64 0,.int .i64 0,.int .i64 0,.int .i64 0,.int .i64 0,.int .i64 0,.int .i64 0,.int .i64 0,.int .i64 0,.int .i64 0,.int .i64 0,.int .i64 0,.int .i64 0,.int .i64 0,.int .i64 0,.slice none 0 0,.int .i64 0,.int .u8 0,.int .u16 0]:Array Value)[1+i]?=some (.int .i64 0):=by
 match i,hi with
 | 0,_=>rfl
 | 1,_=>rfl
 | 2,_=>rfl
 | 3,_=>rfl
 | 4,_=>rfl
 | 5,_=>rfl
 | 6,_=>rfl
 | 7,_=>rfl
 | 8,_=>rfl
 | 9,_=>rfl
 | 10,_=>rfl
 | 11,_=>rfl
 | 12,_=>rfl
 | 13,_=>rfl
 | 14,_=>rfl
 | 15,_=>rfl
 | 16,_=>rfl
 | 17,_=>rfl
 | 18,_=>rfl
 | 19,_=>rfl
 | m+20,h=>exact absurd h (by omega)
set_option maxHeartbeats 8000000 in
theorem walkOver_any (gen bnd:Int) (a:Option Addr) (n c:Nat) (l:List InstT) (w:World) (hv:InstsV w a l) (hok:InstsOk l) (hl:l.length=n) (hn:40 * n≤140737488351232) (g0:0≤gen) (g1:gen<4294967296) (b0:0≤bnd) (b1:bnd<4294967296) :
  Calls Tryz.prog 90 #[modV gen bnd a n c] w fun e w'=>WalkQ w w' bnd l e:=by
 unfold modV
 have hb0:Below w.heap.size w (((w.alloc (.cells #[.int .u32 gen,.int .u32 bnd,.slice a n c] 25)).alloc (.cells #[.slice none 0 0,.int .i64 0,.int .i64 0,.int .i64 0,.int .i64 0,.int .i64 0,.int .i64 0,.int .i64 0,.int .i64 0,.int .i64 0,.int .i64 0,.int .i64 0,.int .i64 0,.int .i64 0,.int .i64 0,.int .i64 0,.int .i64 0,.int .i64 0,.int .i64 0,.int .i64 0,.int .i64 0,.slice none 0 0,.int .i64 0,.int .u8 0,.int .u16 0] 133)).alloc (.cells #[.int .i64 0,.int .i64 0] 30)):=(((Below.refl _ w).alloc (Nat.le_refl _) _).alloc (by simp) _).alloc (by simp;omega) _
 have hSh:=codeShape_any gen bnd a n c l _ g0 g1 b0 b1 (hv.below hb0) hok hl hn
 have HSF:Hid (∀ E P,shapeE bnd l=(E,P)→(E≠0→layE bnd l=(E,P))∧(E=0→layE bnd l=layF l l.length 0∧l.length≤1048576∧VarsOk l)):=fun E P he=>by
  refine⟨fun h=>?_,fun h=>⟨?_,?_,?_⟩⟩
  ·unfold layE;rw [he,if_pos h]
  ·unfold layE;rw [he,if_neg (by simpa using h)]
  ·exact (shape_few (b:=bnd) (l:=l) (by rw [he];exact h)).1
  ·intro k hk h59
   exact var_args (b:=bnd) (shape_each (by rw [he];exact h) k hk) h59
 generalize hE:shapeE bnd l=E at *
 obtain⟨E,P⟩:=E
 have hSF:=HSF.out E P rfl
 have HMB:Hid ((((w.alloc (.cells #[.int .u32 gen,.int .u32 bnd,.slice a n c] 25)).alloc (.cells #[.slice none 0 0,.int .i64 0,.int .i64 0,.int .i64 0,.int .i64 0,.int .i64 0,.int .i64 0,.int .i64 0,.int .i64 0,.int .i64 0,.int .i64 0,.int .i64 0,.int .i64 0,.int .i64 0,.int .i64 0,.int .i64 0,.int .i64 0,.int .i64 0,.int .i64 0,.int .i64 0,.int .i64 0,.slice none 0 0,.int .i64 0,.int .u8 0,.int .u16 0] 133)).alloc (.cells #[.int .i64 0,.int .i64 0] 30)).heap[w.heap.size]?=some (.cells #[.int .u32 gen,.int .u32 bnd,.slice a n c] 25 (0,0))):=by
  show _=_
  rw [Below.heap_alloc _ _ _ (by simp;omega),Below.heap_alloc _ _ _ (by simp)];exact heap_alloc_new w _
 have HZB:Hid ((((w.alloc (.cells #[.int .u32 gen,.int .u32 bnd,.slice a n c] 25)).alloc (.cells #[.slice none 0 0,.int .i64 0,.int .i64 0,.int .i64 0,.int .i64 0,.int .i64 0,.int .i64 0,.int .i64 0,.int .i64 0,.int .i64 0,.int .i64 0,.int .i64 0,.int .i64 0,.int .i64 0,.int .i64 0,.int .i64 0,.int .i64 0,.int .i64 0,.int .i64 0,.int .i64 0,.int .i64 0,.slice none 0 0,.int .i64 0,.int .u8 0,.int .u16 0] 133)).alloc (.cells #[.int .i64 0,.int .i64 0] 30)).heap[w.heap.size+1]?=some (.cells #[.slice none 0 0,.int .i64 0,.int .i64 0,.int .i64 0,.int .i64 0,.int .i64 0,.int .i64 0,.int .i64 0,.int .i64 0,.int .i64 0,.int .i64 0,.int .i64 0,.int .i64 0,.int .i64 0,.int .i64 0,.int .i64 0,.int .i64 0,.int .i64 0,.int .i64 0,.int .i64 0,.int .i64 0,.slice none 0 0,.int .i64 0,.int .u8 0,.int .u16 0] 133 (0,0))):=by
  show _=_
  rw [Below.heap_alloc _ _ _ (by simp)];simpa using heap_alloc_new (w.alloc (.cells #[.int .u32 gen,.int .u32 bnd,.slice a n c] 25)) (.cells #[.slice none 0 0,.int .i64 0,.int .i64 0,.int .i64 0,.int .i64 0,.int .i64 0,.int .i64 0,.int .i64 0,.int .i64 0,.int .i64 0,.int .i64 0,.int .i64 0,.int .i64 0,.int .i64 0,.int .i64 0,.int .i64 0,.int .i64 0,.int .i64 0,.int .i64 0,.int .i64 0,.int .i64 0,.slice none 0 0,.int .i64 0,.int .u8 0,.int .u16 0] 133)
 have HSB:Hid ((((w.alloc (.cells #[.int .u32 gen,.int .u32 bnd,.slice a n c] 25)).alloc (.cells #[.slice none 0 0,.int .i64 0,.int .i64 0,.int .i64 0,.int .i64 0,.int .i64 0,.int .i64 0,.int .i64 0,.int .i64 0,.int .i64 0,.int .i64 0,.int .i64 0,.int .i64 0,.int .i64 0,.int .i64 0,.int .i64 0,.int .i64 0,.int .i64 0,.int .i64 0,.int .i64 0,.int .i64 0,.slice none 0 0,.int .i64 0,.int .u8 0,.int .u16 0] 133)).alloc (.cells #[.int .i64 0,.int .i64 0] 30)).heap[w.heap.size+2]?=some (.cells #[.int .i64 0,.int .i64 0] 30 (0,0))):=by
  show _=_
  simpa using heap_alloc_new ((w.alloc (.cells #[.int .u32 gen,.int .u32 bnd,.slice a n c] 25)).alloc (.cells #[.slice none 0 0,.int .i64 0,.int .i64 0,.int .i64 0,.int .i64 0,.int .i64 0,.int .i64 0,.int .i64 0,.int .i64 0,.int .i64 0,.int .i64 0,.int .i64 0,.int .i64 0,.int .i64 0,.int .i64 0,.int .i64 0,.int .i64 0,.int .i64 0,.int .i64 0,.int .i64 0,.int .i64 0,.slice none 0 0,.int .i64 0,.int .u8 0,.int .u16 0] 133)) (.cells #[.int .i64 0,.int .i64 0] 30)
 have HLT:Hid (w.heap.size+2<(((w.alloc (.cells #[.int .u32 gen,.int .u32 bnd,.slice a n c] 25)).alloc (.cells #[.slice none 0 0,.int .i64 0,.int .i64 0,.int .i64 0,.int .i64 0,.int .i64 0,.int .i64 0,.int .i64 0,.int .i64 0,.int .i64 0,.int .i64 0,.int .i64 0,.int .i64 0,.int .i64 0,.int .i64 0,.int .i64 0,.int .i64 0,.int .i64 0,.int .i64 0,.int .i64 0,.int .i64 0,.slice none 0 0,.int .i64 0,.int .u8 0,.int .u16 0] 133)).alloc (.cells #[.int .i64 0,.int .i64 0] 30)).heap.size):=by show _<_;simp
 have HB0:=hide hb0
 have HV:=hide (hv.below hb0)
 have HSFE:=hide hSF
 have HL:=hide hl
 obtain⟨L,hLL⟩:∃ L,L=layE bnd l:=⟨_,rfl⟩
 have HLL:=hide hLL
 have HG:Hid (∀ e w',(∃ (ins fv:Value) (ps:Nat→Int) (k pt kd:Int),e=.returned (.tuple #[walkV ins ps fv k pt kd,.agg #[.int .i64 L.1,.int .i64 L.2]])∧Below w.heap.size w w'∧(ins.oneCell'=true∧fv.oneCell'=true)∧(L.1≠0∧fv=.slice none 0 0∧(∀ i,ps i=0)∨L.1=0∧SpansE l ps∧FuncsAt w' w.heap.size fv (cutTo l l.length)))→WalkQ w w' bnd l e):=fun e w' h=>by
  rw [HLL.out] at h;exact h
 clear hb0 hSF HSF hv hok hl hLL hE
 have hret:∀ (a':Act) (Z:World) (ins fv:Value) (ps:Nat→Int) (k pt kd:Int),slot a'.tmps 2=.pointer (some ⟨w.heap.size+1,0,none⟩)→slot a'.tmps 3=.pointer (some ⟨w.heap.size+2,0,none⟩)→a'.defers=[]→Z.heap[w.heap.size+1]?=some (.cells #[ins,.int .i64 (ps 0),.int .i64 (ps 1),.int .i64 (ps 2),.int .i64 (ps 3),.int .i64 (ps 4),.int .i64 (ps 5),.int .i64 (ps 6),.int .i64 (ps 7),.int .i64 (ps 8),.int .i64 (ps 9),.int .i64 (ps 10),.int .i64 (ps 11),.int .i64 (ps 12),.int .i64 (ps 13),.int .i64 (ps 14),.int .i64 (ps 15),.int .i64 (ps 16),.int .i64 (ps 17),.int .i64 (ps 18),.int .i64 (ps 19),fv,.int .i64 k,.int .u8 pt,.int .u16 kd] 133 (0,0))→Z.heap[w.heap.size+2]?=some (.cells #[.int .i64 L.1,.int .i64 L.2] 30 (0,0)) →
   Below w.heap.size w Z→(ins.oneCell'=true∧fv.oneCell'=true)→(L.1≠0∧fv=.slice none 0 0∧(∀ i,ps i=0)∨L.1=0∧SpansE l ps∧FuncsAt Z w.heap.size fv (cutTo l l.length))→bodyPost Tryz.prog Tryz.f90 (fun e w'=>WalkQ w w' bnd l e) .ret a' Z:=by
  intro a' Z ins fv ps k pt kd q2 q3 q4 q5 q6 q7 q9 q8
  refine bodyPost_ret (v:=.tuple #[walkV ins ps fv k pt kd,.agg #[.int .i64 L.1,.int .i64 L.2]]) ?_ q4 (HG.out _ _ ⟨ins,fv,ps,k,pt,kd,rfl,q7,q9,q8⟩)
  have r5:=run_loadVar_mid (P:=Tryz.prog) Z (w.heap.size+1) 0 133 [ins,.int .i64 (ps 0),.int .i64 (ps 1),.int .i64 (ps 2),.int .i64 (ps 3),.int .i64 (ps 4),.int .i64 (ps 5),.int .i64 (ps 6),.int .i64 (ps 7),.int .i64 (ps 8),.int .i64 (ps 9),.int .i64 (ps 10),.int .i64 (ps 11),.int .i64 (ps 12),.int .i64 (ps 13),.int .i64 (ps 14),.int .i64 (ps 15),.int .i64 (ps 16),.int .i64 (ps 17),.int .i64 (ps 18),.int .i64 (ps 19),fv,.int .i64 k,.int .u8 pt,.int .u16 kd] _ (range_of_block q5) Tryz.underlying133 rfl (by kernel_rfl)
  have r6:=run_loadVar_mid (P:=Tryz.prog) Z (w.heap.size+2) 0 30 [.int .i64 L.1,.int .i64 L.2] _ (range_of_block q6) Tryz.underlying30 rfl (by kernel_rfl)
  clear q5 q6 q7 q8 q9
  simp only [results,Tryz.results90]
  have q2':a'.tmps[2]?.getD undef=.pointer (some ⟨w.heap.size+1,0,none⟩):=by rw [← Array.getD_eq_getD_getElem?];exact q2
  have q3':a'.tmps[3]?.getD undef=.pointer (some ⟨w.heap.size+2,0,none⟩):=by rw [← Array.getD_eq_getD_getElem?];exact q3
  have hG2:a'.tmps.getD 2 undef=.pointer (some ⟨w.heap.size+1,0,none⟩):=q2
  have hG3:a'.tmps.getD 3 undef=.pointer (some ⟨w.heap.size+2,0,none⟩):=q3
  simp only [List.mapM_toArray,List.mapM_cons,List.mapM_nil,hG2,hG3,asAddr,Sem.run_bind,Sem.run_pure,Result.andThen_ok,bind_assoc,pure_bind,Sem.run_map,map_pure,r5,r6]
  rfl
 have HRET:=hide hret
 clear hret
 go_enter Tryz.func90,Tryz.ntmps90
 go_wp2_with fail
 generalize ((w.alloc (.cells #[.int .u32 gen,.int .u32 bnd,.slice a n c] 25)).alloc (.cells #[.slice none 0 0,.int .i64 0,.int .i64 0,.int .i64 0,.int .i64 0,.int .i64 0,.int .i64 0,.int .i64 0,.int .i64 0,.int .i64 0,.int .i64 0,.int .i64 0,.int .i64 0,.int .i64 0,.int .i64 0,.int .i64 0,.int .i64 0,.int .i64 0,.int .i64 0,.int .i64 0,.int .i64 0,.slice none 0 0,.int .i64 0,.int .u8 0,.int .u16 0] 133)).alloc (.cells #[.int .i64 0,.int .i64 0] 30)=W0 at *
 refine hSh.mono ?_
 rintro e w1 ⟨rfl,hb1⟩
 clear hSh
 by_cases hE0:E=0
 ·subst hE0
  obtain⟨hLay,hlen,hvar⟩:=HSFE.out.2 rfl
  have hb2:Below W0.heap.size W0 (w1.alloc (.cells #[.int .i64 0,.int .i64 P] 30)):=hb1.alloc hb1.size _
  have kl:=HLT.out
  have kw:W0.heap.size≤w1.heap.size:=hb1.size
  have m2:=(hb1.cell (p:=⟨w.heap.size,2,none⟩) (show w.heap.size<W0.heap.size by omega)).trans ((one_block HMB.out).1 2)
  have HB2:=hide hb2
  have HV2:=hide (HV.out.below hb2)
  have HLAY:=hide hLay
  have HLEN:=hide hlen
  have HVAR:=hide hvar
  have HS2:Hid ((w1.alloc (.cells #[.int .i64 0,.int .i64 P] 30)).heap.size=w1.heap.size+1):=by show _=_;simp
  have HN:=hide hn
  have hHl:w.heap.size<w1.heap.size:=by omega
  have HA3:Hid (((w1.alloc (.cells #[.int .i64 0,.int .i64 P] 30)).alloc (.cells #[.slice none 0 0,.int .i64 0,.int .i64 0,.int .i64 0,.int .i64 0,.int .i64 0,.int .i64 0,.int .i64 0,.int .i64 0,.int .i64 0,.int .i64 0,.int .i64 0,.int .i64 0,.int .i64 0,.int .i64 0,.int .i64 0,.int .i64 0,.int .i64 0,.int .i64 0,.int .i64 0,.int .i64 0,.slice none 0 0,.int .i64 0,.int .u8 0,.int .u16 0] 133)).heap[w1.heap.size+1]?=some (.cells #[.slice none 0 0,.int .i64 0,.int .i64 0,.int .i64 0,.int .i64 0,.int .i64 0,.int .i64 0,.int .i64 0,.int .i64 0,.int .i64 0,.int .i64 0,.int .i64 0,.int .i64 0,.int .i64 0,.int .i64 0,.int .i64 0,.int .i64 0,.int .i64 0,.int .i64 0,.int .i64 0,.int .i64 0,.slice none 0 0,.int .i64 0,.int .u8 0,.int .u16 0] 133 (0,0))):=by
   show _=_
   rw [← HS2.out];exact heap_alloc_new _ _
  have HTH:Hid (((w1.alloc (.cells #[.int .i64 0,.int .i64 P] 30)).alloc (.cells #[.slice none 0 0,.int .i64 0,.int .i64 0,.int .i64 0,.int .i64 0,.int .i64 0,.int .i64 0,.int .i64 0,.int .i64 0,.int .i64 0,.int .i64 0,.int .i64 0,.int .i64 0,.int .i64 0,.int .i64 0,.int .i64 0,.int .i64 0,.int .i64 0,.int .i64 0,.int .i64 0,.int .i64 0,.slice none 0 0,.int .i64 0,.int .u8 0,.int .u16 0] 133)).there (w1.heap.size+1) 0 25):=there_of_block HA3.out 25 rfl
  have HP3:=hide (setCells_all [.slice a n c,.int .i64 0,.int .i64 0,.int .i64 0,.int .i64 0,.int .i64 0,.int .i64 0,.int .i64 0,.int .i64 0,.int .i64 0,.int .i64 0,.int .i64 0,.int .i64 0,.int .i64 0,.int .i64 0,.int .i64 0,.int .i64 0,.int .i64 0,.int .i64 0,.int .i64 0,.int .i64 0,.slice none 0 0,.int .i64 0,.int .u8 0,.int .u16 0] HA3.out rfl)
  have HWK:Hid (WkB (w1.heap.size+1) (.slice a n c) (fun _=>0) (.slice none 0 0) 0 0 0 (((w1.alloc (.cells #[.int .i64 0,.int .i64 P] 30)).alloc (.cells #[.slice none 0 0,.int .i64 0,.int .i64 0,.int .i64 0,.int .i64 0,.int .i64 0,.int .i64 0,.int .i64 0,.int .i64 0,.int .i64 0,.int .i64 0,.int .i64 0,.int .i64 0,.int .i64 0,.int .i64 0,.int .i64 0,.int .i64 0,.int .i64 0,.int .i64 0,.int .i64 0,.int .i64 0,.slice none 0 0,.int .i64 0,.int .u8 0,.int .u16 0] 133)).setCells (w1.heap.size+1) 0 [.slice a n c,.int .i64 0,.int .i64 0,.int .i64 0,.int .i64 0,.int .i64 0,.int .i64 0,.int .i64 0,.int .i64 0,.int .i64 0,.int .i64 0,.int .i64 0,.int .i64 0,.int .i64 0,.int .i64 0,.int .i64 0,.int .i64 0,.int .i64 0,.int .i64 0,.int .i64 0,.int .i64 0,.slice none 0 0,.int .i64 0,.int .u8 0,.int .u16 0])):=⟨⟨_,HP3.out,rfl,rfl,fun i hi=>zero_span i hi _,rfl,rfl,rfl,rfl⟩⟩
  have HB3:Hid (Below (w1.alloc (.cells #[.int .i64 0,.int .i64 P] 30)).heap.size (w1.alloc (.cells #[.int .i64 0,.int .i64 P] 30)) (((w1.alloc (.cells #[.int .i64 0,.int .i64 P] 30)).alloc (.cells #[.slice none 0 0,.int .i64 0,.int .i64 0,.int .i64 0,.int .i64 0,.int .i64 0,.int .i64 0,.int .i64 0,.int .i64 0,.int .i64 0,.int .i64 0,.int .i64 0,.int .i64 0,.int .i64 0,.int .i64 0,.int .i64 0,.int .i64 0,.int .i64 0,.int .i64 0,.int .i64 0,.int .i64 0,.slice none 0 0,.int .i64 0,.int .u8 0,.int .u16 0] 133)).setCells (w1.heap.size+1) 0 [.slice a n c,.int .i64 0,.int .i64 0,.int .i64 0,.int .i64 0,.int .i64 0,.int .i64 0,.int .i64 0,.int .i64 0,.int .i64 0,.int .i64 0,.int .i64 0,.int .i64 0,.int .i64 0,.int .i64 0,.int .i64 0,.int .i64 0,.int .i64 0,.int .i64 0,.int .i64 0,.int .i64 0,.slice none 0 0,.int .i64 0,.int .u8 0,.int .u16 0])):=below_grown ((Below.refl _ _).alloc (Nat.le_refl _) _) (setCells_grown (w1.heap.size+1) [.slice a n c,.int .i64 0,.int .i64 0,.int .i64 0,.int .i64 0,.int .i64 0,.int .i64 0,.int .i64 0,.int .i64 0,.int .i64 0,.int .i64 0,.int .i64 0,.int .i64 0,.int .i64 0,.int .i64 0,.int .i64 0,.int .i64 0,.int .i64 0,.int .i64 0,.int .i64 0,.int .i64 0,.slice none 0 0,.int .i64 0,.int .u8 0,.int .u16 0] 0 _) (fun g e=>by have:=HS2.out;simp only [Option.some.injEq] at e;omega)
  clear hb1 hb2 hLay hlen hvar HSFE hn
  go_wp2_with (with_reducible refine stopS 133 ?_)
  refine wpList_store_mid rfl 133 (.tmp 5) (.tmp 15) rfl (w1.heap.size+1) 0 #[.slice a n c,.int .i64 0,.int .i64 0,.int .i64 0,.int .i64 0,.int .i64 0,.int .i64 0,.int .i64 0,.int .i64 0,.int .i64 0,.int .i64 0,.int .i64 0,.int .i64 0,.int .i64 0,.int .i64 0,.int .i64 0,.int .i64 0,.int .i64 0,.int .i64 0,.int .i64 0,.int .i64 0,.slice none 0 0,.int .i64 0,.int .u8 0,.int .u16 0] rfl rfl HTH.out (by kernel_rfl) (by simp [Value.oneCell']) ?_
  simp only [Act.put]
  generalize ((w1.alloc (.cells #[.int .i64 0,.int .i64 P] 30)).alloc (.cells #[.slice none 0 0,.int .i64 0,.int .i64 0,.int .i64 0,.int .i64 0,.int .i64 0,.int .i64 0,.int .i64 0,.int .i64 0,.int .i64 0,.int .i64 0,.int .i64 0,.int .i64 0,.int .i64 0,.int .i64 0,.int .i64 0,.int .i64 0,.int .i64 0,.int .i64 0,.int .i64 0,.int .i64 0,.slice none 0 0,.int .i64 0,.int .u8 0,.int .u16 0] 133)).setCells (w1.heap.size+1) 0 [.slice a n c,.int .i64 0,.int .i64 0,.int .i64 0,.int .i64 0,.int .i64 0,.int .i64 0,.int .i64 0,.int .i64 0,.int .i64 0,.int .i64 0,.int .i64 0,.int .i64 0,.int .i64 0,.int .i64 0,.int .i64 0,.int .i64 0,.int .i64 0,.int .i64 0,.int .i64 0,.int .i64 0,.slice none 0 0,.int .i64 0,.int .u8 0,.int .u16 0]=W3 at *
  clear HA3 HTH HP3
  generalize w1.alloc (.cells #[.int .i64 0,.int .i64 P] 30)=W2 at *
  have hBW:W2.heap.size≤w1.heap.size+1:=Nat.le_of_eq HS2.out
  have HSZ2:Hid (W2.heap.size=w1.heap.size+1):=HS2.out
  generalize w1.heap.size+1=B at *
  go_wp2_with fail
  have hLk:=look_any B a n c (fun _=>0) (.slice none 0 0) 0 0 0 l W2 W3 HWK.out HV2.out HB3.out hBW HL.out HN.out HVAR.out (Nat.zero_le _)
  refine hLk.mono ?_
  rintro e w4 ⟨rfl,hW4,hK4⟩
  have hlow4:=KeepB.low HB3.out hBW hK4
  have hFr:=fronts_any B a n c (fun _=>0) (.slice none 0 0) l W2 w4 hW4 HV2.out hlow4 hBW HL.out HN.out HVAR.out
  have HLOW4:=hide hlow4
  clear hLk hW4 hK4 hlow4 m2 hHl HWK HB3
  go_wp2_with fail
  refine hFr.mono ?_
  rintro e w5 ⟨b5,k5,ps5,rfl,hW5,hK5,ht5,hf5⟩
  have hlow5:=KeepB.low HLOW4.out hBW hK5
  clear hFr
  cases b5 with
  | false =>
   have hwr:=hf5 rfl
   have HLF:=hide (HLL.out.trans (HLAY.out.trans (layF_wrong hwr)))
   have hFa:=fault_any5 B _ _ _ _ _ _ w5 hW5
   have HLOW5:=hide hlow5
   clear hf5 ht5 hwr hW5 hK5 hlow5
   have HER:Hid ((if partAt l k5=9 then (51:Int) else 50)≠0):=by show _≠_;split <;> decide
   generalize (if partAt l k5=9 then (51:Int) else 50)=ER at *
   go_wp2_with fail
   refine hFa.mono ?_
   rintro e w6 ⟨rfl,hb6⟩
   have HLOW6:=hide (HLOW5.out.trans (hb6.mono HLOW5.out.size))
   clear hFa hb6
   go_wp2_with (with_reducible refine stopS 133 ?_)
   have kl2:=HLT.out
   have hWB:=HB2.out.size
   have kz:=(HLOW6.out.block (w.heap.size+1) (by omega)).trans ((HB2.out.block (w.heap.size+1) (by omega)).trans HZB.out)
   have ks:=(HLOW6.out.block (w.heap.size+2) (by omega)).trans ((HB2.out.block (w.heap.size+2) (by omega)).trans HSB.out)
   have hsz:w.heap.size+2<w6.heap.size:=by have:=HLOW6.out.size;omega
   have hg1:=setCells_grown (w.heap.size+1) [.slice none 0 0,.int .i64 0,.int .i64 0,.int .i64 0,.int .i64 0,.int .i64 0,.int .i64 0,.int .i64 0,.int .i64 0,.int .i64 0,.int .i64 0,.int .i64 0,.int .i64 0,.int .i64 0,.int .i64 0,.int .i64 0,.int .i64 0,.int .i64 0,.int .i64 0,.int .i64 0,.int .i64 0,.slice none 0 0,.int .i64 0,.int .u8 0,.int .u16 0] 0 w6
   have hp1:=setCells_all [.slice none 0 0,.int .i64 0,.int .i64 0,.int .i64 0,.int .i64 0,.int .i64 0,.int .i64 0,.int .i64 0,.int .i64 0,.int .i64 0,.int .i64 0,.int .i64 0,.int .i64 0,.int .i64 0,.int .i64 0,.int .i64 0,.int .i64 0,.int .i64 0,.int .i64 0,.int .i64 0,.int .i64 0,.slice none 0 0,.int .i64 0,.int .u8 0,.int .u16 0] kz rfl
   have hg2:=setCells_grown (w.heap.size+2) [.int .i64 ER,.int .i64 (k5:Nat)] 0 (w6.setCells (w.heap.size+1) 0 [.slice none 0 0,.int .i64 0,.int .i64 0,.int .i64 0,.int .i64 0,.int .i64 0,.int .i64 0,.int .i64 0,.int .i64 0,.int .i64 0,.int .i64 0,.int .i64 0,.int .i64 0,.int .i64 0,.int .i64 0,.int .i64 0,.int .i64 0,.int .i64 0,.int .i64 0,.int .i64 0,.int .i64 0,.slice none 0 0,.int .i64 0,.int .u8 0,.int .u16 0])
   have ks2:=(hg1.block (w.heap.size+2) hsz (by simp)).trans ks
   have hp2:=setCells_all (w:=w6.setCells (w.heap.size+1) 0 [.slice none 0 0,.int .i64 0,.int .i64 0,.int .i64 0,.int .i64 0,.int .i64 0,.int .i64 0,.int .i64 0,.int .i64 0,.int .i64 0,.int .i64 0,.int .i64 0,.int .i64 0,.int .i64 0,.int .i64 0,.int .i64 0,.int .i64 0,.int .i64 0,.int .i64 0,.int .i64 0,.int .i64 0,.slice none 0 0,.int .i64 0,.int .u8 0,.int .u16 0]) [.int .i64 ER,.int .i64 (k5:Nat)] ks2 rfl
   have HP1:Hid (((w6.setCells (w.heap.size+1) 0 [.slice none 0 0,.int .i64 0,.int .i64 0,.int .i64 0,.int .i64 0,.int .i64 0,.int .i64 0,.int .i64 0,.int .i64 0,.int .i64 0,.int .i64 0,.int .i64 0,.int .i64 0,.int .i64 0,.int .i64 0,.int .i64 0,.int .i64 0,.int .i64 0,.int .i64 0,.int .i64 0,.int .i64 0,.slice none 0 0,.int .i64 0,.int .u8 0,.int .u16 0]).setCells (w.heap.size+2) 0 [.int .i64 ER,.int .i64 (k5:Nat)]).heap[w.heap.size+1]?=some (.cells #[.slice none 0 0,.int .i64 0,.int .i64 0,.int .i64 0,.int .i64 0,.int .i64 0,.int .i64 0,.int .i64 0,.int .i64 0,.int .i64 0,.int .i64 0,.int .i64 0,.int .i64 0,.int .i64 0,.int .i64 0,.int .i64 0,.int .i64 0,.int .i64 0,.int .i64 0,.int .i64 0,.int .i64 0,.slice none 0 0,.int .i64 0,.int .u8 0,.int .u16 0] 133 (0,0))):=(hg2.block (w.heap.size+1) (by have:=hg1.size;omega) (by simp)).trans hp1
   have HP2:Hid (((w6.setCells (w.heap.size+1) 0 [.slice none 0 0,.int .i64 0,.int .i64 0,.int .i64 0,.int .i64 0,.int .i64 0,.int .i64 0,.int .i64 0,.int .i64 0,.int .i64 0,.int .i64 0,.int .i64 0,.int .i64 0,.int .i64 0,.int .i64 0,.int .i64 0,.int .i64 0,.int .i64 0,.int .i64 0,.int .i64 0,.int .i64 0,.slice none 0 0,.int .i64 0,.int .u8 0,.int .u16 0]).setCells (w.heap.size+2) 0 [.int .i64 ER,.int .i64 (k5:Nat)]).heap[w.heap.size+2]?=some (.cells #[.int .i64 ER,.int .i64 (k5:Nat)] 30 (0,0))):=hp2
   have HBF:Hid (Below w.heap.size w ((w6.setCells (w.heap.size+1) 0 [.slice none 0 0,.int .i64 0,.int .i64 0,.int .i64 0,.int .i64 0,.int .i64 0,.int .i64 0,.int .i64 0,.int .i64 0,.int .i64 0,.int .i64 0,.int .i64 0,.int .i64 0,.int .i64 0,.int .i64 0,.int .i64 0,.int .i64 0,.int .i64 0,.int .i64 0,.int .i64 0,.int .i64 0,.slice none 0 0,.int .i64 0,.int .u8 0,.int .u16 0]).setCells (w.heap.size+2) 0 [.int .i64 ER,.int .i64 (k5:Nat)])):=below_grown (below_grown ((HB0.out.trans (HB2.out.mono HB0.out.size)).trans (HLOW6.out.mono (by have:=HB0.out.size;omega))) hg1 (fun g e=>by simp at e;omega)) hg2 (fun g e=>by simp at e;omega)
   have ht1:=there_of_block kz 25 rfl
   have ht2:=there_of_block ks2 2 rfl
   clear hg1 hp1 hg2 hp2 kz ks ks2
   refine wpList_store_mid rfl 133 (.tmp 2) (.tmp 23) rfl (w.heap.size+1) 0 #[.slice none 0 0,.int .i64 0,.int .i64 0,.int .i64 0,.int .i64 0,.int .i64 0,.int .i64 0,.int .i64 0,.int .i64 0,.int .i64 0,.int .i64 0,.int .i64 0,.int .i64 0,.int .i64 0,.int .i64 0,.int .i64 0,.int .i64 0,.int .i64 0,.int .i64 0,.int .i64 0,.int .i64 0,.slice none 0 0,.int .i64 0,.int .u8 0,.int .u16 0] rfl rfl ht1 (by kernel_rfl) (by simp [Value.oneCell']) ?_
   simp only [Act.put]
   refine wpList_store_mid rfl 30 (.tmp 3) (.tmp 24) rfl (w.heap.size+2) 0 #[.int .i64 ER,.int .i64 (k5:Nat)] rfl rfl ht2 (by kernel_rfl) (by simp [Value.oneCell']) ?_
   simp only [Act.put]
   clear ht1 ht2
   generalize (w6.setCells (w.heap.size+1) 0 [.slice none 0 0,.int .i64 0,.int .i64 0,.int .i64 0,.int .i64 0,.int .i64 0,.int .i64 0,.int .i64 0,.int .i64 0,.int .i64 0,.int .i64 0,.int .i64 0,.int .i64 0,.int .i64 0,.int .i64 0,.int .i64 0,.int .i64 0,.int .i64 0,.int .i64 0,.int .i64 0,.int .i64 0,.slice none 0 0,.int .i64 0,.int .u8 0,.int .u16 0]).setCells (w.heap.size+2) 0 [.int .i64 ER,.int .i64 (k5:Nat)]=Z at *
   go_wp2_with fail
   exact HRET.out _ Z (.slice none 0 0) (.slice none 0 0) (fun _=>0) 0 0 0 rfl rfl rfl HP1.out (by rw [HLF.out];exact HP2.out) HBF.out ⟨rfl,rfl⟩ (.inl ⟨by rw [HLF.out];exact HER.out,rfl,fun _=>rfl⟩)
  | true =>
   have hO5:=ht5 rfl
   have hC:LyC W2 B a n l:=⟨HV2.out,hBW,HL.out,by rw [← HL.out];exact HLEN.out,HVAR.out⟩
   have hFn:=functions_any W2 B a n c l hC ps5 k5 w5 hO5 ⟨⟨_,hW5,FuncsAt.nil _ _⟩,hlow5⟩
   clear hf5 ht5 hW5 hK5 hlow5 hO5 hC
   go_wp2_with fail
   refine hFn.mono ?_
   rintro e w6 ⟨b6,k6,ps6,rfl,hW6,ht6,hf6⟩
   clear hFn
   obtain⟨⟨fv6,hK6,hF6⟩,hlow6⟩:=hW6
   cases b6 with
   | false =>
    have hwr:=hf6 rfl
    have HLF:=hide (HLL.out.trans (HLAY.out.trans (layF_wrong hwr)))
    have hFa:=fault_any5 B _ _ _ _ _ _ w6 hK6
    have HLOW6:=hide hlow6
    clear hf6 ht6 hwr hK6 hF6 hlow6
    have HER:Hid ((if partAt l k6=9 then (51:Int) else 50)≠0):=by show _≠_;split <;> decide
    generalize (if partAt l k6=9 then (51:Int) else 50)=ER at *
    go_wp2_with fail
    refine hFa.mono ?_
    rintro e w7 ⟨rfl,hb7⟩
    have HLOW7:=hide (HLOW6.out.trans (hb7.mono HLOW6.out.size))
    clear hFa hb7
    go_wp2_with (with_reducible refine stopS 133 ?_)
    have kl2:=HLT.out
    have hWB:=HB2.out.size
    have kz:=(HLOW7.out.block (w.heap.size+1) (by omega)).trans ((HB2.out.block (w.heap.size+1) (by omega)).trans HZB.out)
    have ks:=(HLOW7.out.block (w.heap.size+2) (by omega)).trans ((HB2.out.block (w.heap.size+2) (by omega)).trans HSB.out)
    have hsz:w.heap.size+2<w7.heap.size:=by have:=HLOW7.out.size;omega
    have hg1:=setCells_grown (w.heap.size+1) [.slice none 0 0,.int .i64 0,.int .i64 0,.int .i64 0,.int .i64 0,.int .i64 0,.int .i64 0,.int .i64 0,.int .i64 0,.int .i64 0,.int .i64 0,.int .i64 0,.int .i64 0,.int .i64 0,.int .i64 0,.int .i64 0,.int .i64 0,.int .i64 0,.int .i64 0,.int .i64 0,.int .i64 0,.slice none 0 0,.int .i64 0,.int .u8 0,.int .u16 0] 0 w7
    have hp1:=setCells_all [.slice none 0 0,.int .i64 0,.int .i64 0,.int .i64 0,.int .i64 0,.int .i64 0,.int .i64 0,.int .i64 0,.int .i64 0,.int .i64 0,.int .i64 0,.int .i64 0,.int .i64 0,.int .i64 0,.int .i64 0,.int .i64 0,.int .i64 0,.int .i64 0,.int .i64 0,.int .i64 0,.int .i64 0,.slice none 0 0,.int .i64 0,.int .u8 0,.int .u16 0] kz rfl
    have hg2:=setCells_grown (w.heap.size+2) [.int .i64 ER,.int .i64 (k6:Nat)] 0 (w7.setCells (w.heap.size+1) 0 [.slice none 0 0,.int .i64 0,.int .i64 0,.int .i64 0,.int .i64 0,.int .i64 0,.int .i64 0,.int .i64 0,.int .i64 0,.int .i64 0,.int .i64 0,.int .i64 0,.int .i64 0,.int .i64 0,.int .i64 0,.int .i64 0,.int .i64 0,.int .i64 0,.int .i64 0,.int .i64 0,.int .i64 0,.slice none 0 0,.int .i64 0,.int .u8 0,.int .u16 0])
    have ks2:=(hg1.block (w.heap.size+2) hsz (by simp)).trans ks
    have hp2:=setCells_all (w:=w7.setCells (w.heap.size+1) 0 [.slice none 0 0,.int .i64 0,.int .i64 0,.int .i64 0,.int .i64 0,.int .i64 0,.int .i64 0,.int .i64 0,.int .i64 0,.int .i64 0,.int .i64 0,.int .i64 0,.int .i64 0,.int .i64 0,.int .i64 0,.int .i64 0,.int .i64 0,.int .i64 0,.int .i64 0,.int .i64 0,.int .i64 0,.slice none 0 0,.int .i64 0,.int .u8 0,.int .u16 0]) [.int .i64 ER,.int .i64 (k6:Nat)] ks2 rfl
    have HP1:Hid (((w7.setCells (w.heap.size+1) 0 [.slice none 0 0,.int .i64 0,.int .i64 0,.int .i64 0,.int .i64 0,.int .i64 0,.int .i64 0,.int .i64 0,.int .i64 0,.int .i64 0,.int .i64 0,.int .i64 0,.int .i64 0,.int .i64 0,.int .i64 0,.int .i64 0,.int .i64 0,.int .i64 0,.int .i64 0,.int .i64 0,.int .i64 0,.slice none 0 0,.int .i64 0,.int .u8 0,.int .u16 0]).setCells (w.heap.size+2) 0 [.int .i64 ER,.int .i64 (k6:Nat)]).heap[w.heap.size+1]?=some (.cells #[.slice none 0 0,.int .i64 0,.int .i64 0,.int .i64 0,.int .i64 0,.int .i64 0,.int .i64 0,.int .i64 0,.int .i64 0,.int .i64 0,.int .i64 0,.int .i64 0,.int .i64 0,.int .i64 0,.int .i64 0,.int .i64 0,.int .i64 0,.int .i64 0,.int .i64 0,.int .i64 0,.int .i64 0,.slice none 0 0,.int .i64 0,.int .u8 0,.int .u16 0] 133 (0,0))):=(hg2.block (w.heap.size+1) (by have:=hg1.size;omega) (by simp)).trans hp1
    have HP2:Hid (((w7.setCells (w.heap.size+1) 0 [.slice none 0 0,.int .i64 0,.int .i64 0,.int .i64 0,.int .i64 0,.int .i64 0,.int .i64 0,.int .i64 0,.int .i64 0,.int .i64 0,.int .i64 0,.int .i64 0,.int .i64 0,.int .i64 0,.int .i64 0,.int .i64 0,.int .i64 0,.int .i64 0,.int .i64 0,.int .i64 0,.int .i64 0,.slice none 0 0,.int .i64 0,.int .u8 0,.int .u16 0]).setCells (w.heap.size+2) 0 [.int .i64 ER,.int .i64 (k6:Nat)]).heap[w.heap.size+2]?=some (.cells #[.int .i64 ER,.int .i64 (k6:Nat)] 30 (0,0))):=hp2
    have HBF:Hid (Below w.heap.size w ((w7.setCells (w.heap.size+1) 0 [.slice none 0 0,.int .i64 0,.int .i64 0,.int .i64 0,.int .i64 0,.int .i64 0,.int .i64 0,.int .i64 0,.int .i64 0,.int .i64 0,.int .i64 0,.int .i64 0,.int .i64 0,.int .i64 0,.int .i64 0,.int .i64 0,.int .i64 0,.int .i64 0,.int .i64 0,.int .i64 0,.int .i64 0,.slice none 0 0,.int .i64 0,.int .u8 0,.int .u16 0]).setCells (w.heap.size+2) 0 [.int .i64 ER,.int .i64 (k6:Nat)])):=below_grown (below_grown ((HB0.out.trans (HB2.out.mono HB0.out.size)).trans (HLOW7.out.mono (by have:=HB0.out.size;omega))) hg1 (fun g e=>by simp at e;omega)) hg2 (fun g e=>by simp at e;omega)
    have ht1:=there_of_block kz 25 rfl
    have ht2:=there_of_block ks2 2 rfl
    clear hg1 hp1 hg2 hp2 kz ks ks2
    refine wpList_store_mid rfl 133 (.tmp 2) (.tmp 23) rfl (w.heap.size+1) 0 #[.slice none 0 0,.int .i64 0,.int .i64 0,.int .i64 0,.int .i64 0,.int .i64 0,.int .i64 0,.int .i64 0,.int .i64 0,.int .i64 0,.int .i64 0,.int .i64 0,.int .i64 0,.int .i64 0,.int .i64 0,.int .i64 0,.int .i64 0,.int .i64 0,.int .i64 0,.int .i64 0,.int .i64 0,.slice none 0 0,.int .i64 0,.int .u8 0,.int .u16 0] rfl rfl ht1 (by kernel_rfl) (by simp [Value.oneCell']) ?_
    simp only [Act.put]
    refine wpList_store_mid rfl 30 (.tmp 3) (.tmp 24) rfl (w.heap.size+2) 0 #[.int .i64 ER,.int .i64 (k6:Nat)] rfl rfl ht2 (by kernel_rfl) (by simp [Value.oneCell']) ?_
    simp only [Act.put]
    clear ht1 ht2
    generalize (w7.setCells (w.heap.size+1) 0 [.slice none 0 0,.int .i64 0,.int .i64 0,.int .i64 0,.int .i64 0,.int .i64 0,.int .i64 0,.int .i64 0,.int .i64 0,.int .i64 0,.int .i64 0,.int .i64 0,.int .i64 0,.int .i64 0,.int .i64 0,.int .i64 0,.int .i64 0,.int .i64 0,.int .i64 0,.int .i64 0,.int .i64 0,.slice none 0 0,.int .i64 0,.int .u8 0,.int .u16 0]).setCells (w.heap.size+2) 0 [.int .i64 ER,.int .i64 (k6:Nat)]=Z at *
    go_wp2_with fail
    exact HRET.out _ Z (.slice none 0 0) (.slice none 0 0) (fun _=>0) 0 0 0 rfl rfl rfl HP1.out (by rw [HLF.out];exact HP2.out) HBF.out ⟨rfl,rfl⟩ (.inl ⟨by rw [HLF.out];exact HER.out,rfl,fun _=>rfl⟩)
   | true =>
    obtain⟨hsp,hk6,hok6,hmo6,hah6⟩:=ht6 rfl
    obtain⟨fa6,fc6,rfl⟩:=hF6.slice
    generalize hfl6:(cutTo l k6).length=fl6 at *
    have HFL6:=hide hfl6
    clear hfl6
    have HLF:Hid (L=(0,0)):=HLL.out.trans (HLAY.out.trans (layF_done (by rw [← hk6];exact hok6) (by rw [← hk6];exact hmo6) (by rw [← hk6];exact hah6)))
    have HSP:=hide hsp
    have HK6:=hide hk6
    have HF6:=hide hF6
    have HLOW6:=hide hlow6
    have hrow:=hK6.row
    have hBl:=hK6.lt
    clear hf6 ht6 hsp hk6 hok6 hmo6 hah6 hK6 hF6 hlow6
    go_wp2_with (with_reducible refine stopD 133 ?_)
    refine wpList_load_mid rfl 133 (.tmp 5) rfl B 0 rfl [.slice a n c,.int .i64 (ps6 0),.int .i64 (ps6 1),.int .i64 (ps6 2),.int .i64 (ps6 3),.int .i64 (ps6 4),.int .i64 (ps6 5),.int .i64 (ps6 6),.int .i64 (ps6 7),.int .i64 (ps6 8),.int .i64 (ps6 9),.int .i64 (ps6 10),.int .i64 (ps6 11),.int .i64 (ps6 12),.int .i64 (ps6 13),.int .i64 (ps6 14),.int .i64 (ps6 15),.int .i64 (ps6 16),.int .i64 (ps6 17),.int .i64 (ps6 18),.int .i64 (ps6 19),.slice fa6 fl6 fc6,.int .i64 (k6:Int),.int .u8 (partAt l k6),.int .u16 (kindAt l k6)] _ (range_of_block hrow) Tryz.underlying133 rfl (by kernel_rfl) ?_
    simp only [Act.put,ap1,ap2,ap3]
    clear hrow
    go_wp2_with (with_reducible refine stopS 133 ?_)
    have kl2:=HLT.out
    have hWB:=HB2.out.size
    have kz:=(HLOW6.out.block (w.heap.size+1) (by omega)).trans ((HB2.out.block (w.heap.size+1) (by omega)).trans HZB.out)
    have ks:=(HLOW6.out.block (w.heap.size+2) (by omega)).trans ((HB2.out.block (w.heap.size+2) (by omega)).trans HSB.out)
    have hsz:w.heap.size+2<w6.heap.size:=by have:=HLOW6.out.size;omega
    have hg1:=setCells_grown (w.heap.size+1) [.slice a n c,.int .i64 (ps6 0),.int .i64 (ps6 1),.int .i64 (ps6 2),.int .i64 (ps6 3),.int .i64 (ps6 4),.int .i64 (ps6 5),.int .i64 (ps6 6),.int .i64 (ps6 7),.int .i64 (ps6 8),.int .i64 (ps6 9),.int .i64 (ps6 10),.int .i64 (ps6 11),.int .i64 (ps6 12),.int .i64 (ps6 13),.int .i64 (ps6 14),.int .i64 (ps6 15),.int .i64 (ps6 16),.int .i64 (ps6 17),.int .i64 (ps6 18),.int .i64 (ps6 19),.slice fa6 fl6 fc6,.int .i64 (k6:Int),.int .u8 (partAt l k6),.int .u16 (kindAt l k6)] 0 w6
    have hp1:=setCells_all [.slice a n c,.int .i64 (ps6 0),.int .i64 (ps6 1),.int .i64 (ps6 2),.int .i64 (ps6 3),.int .i64 (ps6 4),.int .i64 (ps6 5),.int .i64 (ps6 6),.int .i64 (ps6 7),.int .i64 (ps6 8),.int .i64 (ps6 9),.int .i64 (ps6 10),.int .i64 (ps6 11),.int .i64 (ps6 12),.int .i64 (ps6 13),.int .i64 (ps6 14),.int .i64 (ps6 15),.int .i64 (ps6 16),.int .i64 (ps6 17),.int .i64 (ps6 18),.int .i64 (ps6 19),.slice fa6 fl6 fc6,.int .i64 (k6:Int),.int .u8 (partAt l k6),.int .u16 (kindAt l k6)] kz rfl
    have hg2:=setCells_grown (w.heap.size+2) [.int .i64 0,.int .i64 0] 0 (w6.setCells (w.heap.size+1) 0 [.slice a n c,.int .i64 (ps6 0),.int .i64 (ps6 1),.int .i64 (ps6 2),.int .i64 (ps6 3),.int .i64 (ps6 4),.int .i64 (ps6 5),.int .i64 (ps6 6),.int .i64 (ps6 7),.int .i64 (ps6 8),.int .i64 (ps6 9),.int .i64 (ps6 10),.int .i64 (ps6 11),.int .i64 (ps6 12),.int .i64 (ps6 13),.int .i64 (ps6 14),.int .i64 (ps6 15),.int .i64 (ps6 16),.int .i64 (ps6 17),.int .i64 (ps6 18),.int .i64 (ps6 19),.slice fa6 fl6 fc6,.int .i64 (k6:Int),.int .u8 (partAt l k6),.int .u16 (kindAt l k6)])
    have ks2:=(hg1.block (w.heap.size+2) hsz (by simp)).trans ks
    have hp2:=setCells_all (w:=w6.setCells (w.heap.size+1) 0 [.slice a n c,.int .i64 (ps6 0),.int .i64 (ps6 1),.int .i64 (ps6 2),.int .i64 (ps6 3),.int .i64 (ps6 4),.int .i64 (ps6 5),.int .i64 (ps6 6),.int .i64 (ps6 7),.int .i64 (ps6 8),.int .i64 (ps6 9),.int .i64 (ps6 10),.int .i64 (ps6 11),.int .i64 (ps6 12),.int .i64 (ps6 13),.int .i64 (ps6 14),.int .i64 (ps6 15),.int .i64 (ps6 16),.int .i64 (ps6 17),.int .i64 (ps6 18),.int .i64 (ps6 19),.slice fa6 fl6 fc6,.int .i64 (k6:Int),.int .u8 (partAt l k6),.int .u16 (kindAt l k6)]) [.int .i64 0,.int .i64 0] ks2 rfl
    have HP1:Hid (((w6.setCells (w.heap.size+1) 0 [.slice a n c,.int .i64 (ps6 0),.int .i64 (ps6 1),.int .i64 (ps6 2),.int .i64 (ps6 3),.int .i64 (ps6 4),.int .i64 (ps6 5),.int .i64 (ps6 6),.int .i64 (ps6 7),.int .i64 (ps6 8),.int .i64 (ps6 9),.int .i64 (ps6 10),.int .i64 (ps6 11),.int .i64 (ps6 12),.int .i64 (ps6 13),.int .i64 (ps6 14),.int .i64 (ps6 15),.int .i64 (ps6 16),.int .i64 (ps6 17),.int .i64 (ps6 18),.int .i64 (ps6 19),.slice fa6 fl6 fc6,.int .i64 (k6:Int),.int .u8 (partAt l k6),.int .u16 (kindAt l k6)]).setCells (w.heap.size+2) 0 [.int .i64 0,.int .i64 0]).heap[w.heap.size+1]?=some (.cells #[.slice a n c,.int .i64 (ps6 0),.int .i64 (ps6 1),.int .i64 (ps6 2),.int .i64 (ps6 3),.int .i64 (ps6 4),.int .i64 (ps6 5),.int .i64 (ps6 6),.int .i64 (ps6 7),.int .i64 (ps6 8),.int .i64 (ps6 9),.int .i64 (ps6 10),.int .i64 (ps6 11),.int .i64 (ps6 12),.int .i64 (ps6 13),.int .i64 (ps6 14),.int .i64 (ps6 15),.int .i64 (ps6 16),.int .i64 (ps6 17),.int .i64 (ps6 18),.int .i64 (ps6 19),.slice fa6 fl6 fc6,.int .i64 (k6:Int),.int .u8 (partAt l k6),.int .u16 (kindAt l k6)] 133 (0,0))):=(hg2.block (w.heap.size+1) (by have:=hg1.size;omega) (by simp)).trans hp1
    have HP2:Hid (((w6.setCells (w.heap.size+1) 0 [.slice a n c,.int .i64 (ps6 0),.int .i64 (ps6 1),.int .i64 (ps6 2),.int .i64 (ps6 3),.int .i64 (ps6 4),.int .i64 (ps6 5),.int .i64 (ps6 6),.int .i64 (ps6 7),.int .i64 (ps6 8),.int .i64 (ps6 9),.int .i64 (ps6 10),.int .i64 (ps6 11),.int .i64 (ps6 12),.int .i64 (ps6 13),.int .i64 (ps6 14),.int .i64 (ps6 15),.int .i64 (ps6 16),.int .i64 (ps6 17),.int .i64 (ps6 18),.int .i64 (ps6 19),.slice fa6 fl6 fc6,.int .i64 (k6:Int),.int .u8 (partAt l k6),.int .u16 (kindAt l k6)]).setCells (w.heap.size+2) 0 [.int .i64 0,.int .i64 0]).heap[w.heap.size+2]?=some (.cells #[.int .i64 0,.int .i64 0] 30 (0,0))):=hp2
    have HBF:Hid (Below w.heap.size w ((w6.setCells (w.heap.size+1) 0 [.slice a n c,.int .i64 (ps6 0),.int .i64 (ps6 1),.int .i64 (ps6 2),.int .i64 (ps6 3),.int .i64 (ps6 4),.int .i64 (ps6 5),.int .i64 (ps6 6),.int .i64 (ps6 7),.int .i64 (ps6 8),.int .i64 (ps6 9),.int .i64 (ps6 10),.int .i64 (ps6 11),.int .i64 (ps6 12),.int .i64 (ps6 13),.int .i64 (ps6 14),.int .i64 (ps6 15),.int .i64 (ps6 16),.int .i64 (ps6 17),.int .i64 (ps6 18),.int .i64 (ps6 19),.slice fa6 fl6 fc6,.int .i64 (k6:Int),.int .u8 (partAt l k6),.int .u16 (kindAt l k6)]).setCells (w.heap.size+2) 0 [.int .i64 0,.int .i64 0])):=below_grown (below_grown ((HB0.out.trans (HB2.out.mono HB0.out.size)).trans (HLOW6.out.mono (by have:=HB0.out.size;omega))) hg1 (fun g e=>by simp at e;omega)) hg2 (fun g e=>by simp at e;omega)
    have HFZ:=hide (((HF6.out.kept hg1 (fun g e=>by simp at e;omega)).kept hg2 (fun g e=>by simp at e;omega)).lower (show w.heap.size≤B+1 by omega))
    have ht1:=there_of_block kz 25 rfl
    have ht2:=there_of_block ks2 2 rfl
    clear hg1 hp1 hg2 hp2 kz ks ks2
    refine wpList_store_mid rfl 133 (.tmp 2) (.tmp 25) rfl (w.heap.size+1) 0 #[.slice a n c,.int .i64 (ps6 0),.int .i64 (ps6 1),.int .i64 (ps6 2),.int .i64 (ps6 3),.int .i64 (ps6 4),.int .i64 (ps6 5),.int .i64 (ps6 6),.int .i64 (ps6 7),.int .i64 (ps6 8),.int .i64 (ps6 9),.int .i64 (ps6 10),.int .i64 (ps6 11),.int .i64 (ps6 12),.int .i64 (ps6 13),.int .i64 (ps6 14),.int .i64 (ps6 15),.int .i64 (ps6 16),.int .i64 (ps6 17),.int .i64 (ps6 18),.int .i64 (ps6 19),.slice fa6 fl6 fc6,.int .i64 (k6:Int),.int .u8 (partAt l k6),.int .u16 (kindAt l k6)] rfl rfl ht1 (by kernel_rfl) (by simp [Value.oneCell']) ?_
    simp only [Act.put]
    refine wpList_store_mid rfl 30 (.tmp 3) (.tmp 26) rfl (w.heap.size+2) 0 #[.int .i64 0,.int .i64 0] rfl rfl ht2 (by kernel_rfl) (by simp [Value.oneCell']) ?_
    simp only [Act.put]
    clear ht1 ht2
    generalize (w6.setCells (w.heap.size+1) 0 [.slice a n c,.int .i64 (ps6 0),.int .i64 (ps6 1),.int .i64 (ps6 2),.int .i64 (ps6 3),.int .i64 (ps6 4),.int .i64 (ps6 5),.int .i64 (ps6 6),.int .i64 (ps6 7),.int .i64 (ps6 8),.int .i64 (ps6 9),.int .i64 (ps6 10),.int .i64 (ps6 11),.int .i64 (ps6 12),.int .i64 (ps6 13),.int .i64 (ps6 14),.int .i64 (ps6 15),.int .i64 (ps6 16),.int .i64 (ps6 17),.int .i64 (ps6 18),.int .i64 (ps6 19),.slice fa6 fl6 fc6,.int .i64 (k6:Int),.int .u8 (partAt l k6),.int .u16 (kindAt l k6)]).setCells (w.heap.size+2) 0 [.int .i64 0,.int .i64 0]=Z at *
    go_wp2_with fail
    exact HRET.out _ Z _ _ ps6 _ _ _ rfl rfl rfl HP1.out (by rw [HLF.out];exact HP2.out) HBF.out ⟨rfl,rfl⟩ (.inr ⟨by rw [HLF.out],HSP.out,by rw [← HK6.out];exact HFZ.out⟩)
 ·have hE1:(E != 0)=true:=by simpa using hE0
  have hb2:Below W0.heap.size W0 (w1.alloc (.cells #[.int .i64 E,.int .i64 P] 30)):=hb1.alloc hb1.size _
  have HSN:=hide (heap_alloc_new w1 (.cells #[.int .i64 E,.int .i64 P] 30))
  have HB2:=hide hb2
  have HSW:Hid (W0.heap.size≤w1.heap.size):=hb1.size
  have HSX:Hid (w1.heap.size<(w1.alloc (.cells #[.int .i64 E,.int .i64 P] 30)).heap.size):=by show _<_;simp
  have HLE:Hid (L=(E,P)):=HLL.out.trans (HSFE.out.1 hE0)
  have HE0:=hide hE0
  clear hb1 hb2 hE0
  go_wp2_with fail
  generalize w1.alloc (.cells #[.int .i64 E,.int .i64 P] 30)=W1 at *
  have kl:=HLT.out
  have kw:=HSW.out
  have kz:=(HB2.out.block (w.heap.size+1) (by omega)).trans HZB.out
  have ks:=(HB2.out.block (w.heap.size+2) (by omega)).trans HSB.out
  have hsz:w.heap.size+2<W1.heap.size:=by have:=HB2.out.size;omega
  have hg1:=setCells_grown (w.heap.size+1) [.slice none 0 0,.int .i64 0,.int .i64 0,.int .i64 0,.int .i64 0,.int .i64 0,.int .i64 0,.int .i64 0,.int .i64 0,.int .i64 0,.int .i64 0,.int .i64 0,.int .i64 0,.int .i64 0,.int .i64 0,.int .i64 0,.int .i64 0,.int .i64 0,.int .i64 0,.int .i64 0,.int .i64 0,.slice none 0 0,.int .i64 0,.int .u8 0,.int .u16 0] 0 W1.drew
  have hp1:=setCells_all [.slice none 0 0,.int .i64 0,.int .i64 0,.int .i64 0,.int .i64 0,.int .i64 0,.int .i64 0,.int .i64 0,.int .i64 0,.int .i64 0,.int .i64 0,.int .i64 0,.int .i64 0,.int .i64 0,.int .i64 0,.int .i64 0,.int .i64 0,.int .i64 0,.int .i64 0,.int .i64 0,.int .i64 0,.slice none 0 0,.int .i64 0,.int .u8 0,.int .u16 0] kz rfl
  have hg2:=setCells_grown (w.heap.size+2) [.int .i64 E,.int .i64 P] 0 (W1.drew.setCells (w.heap.size+1) 0 [.slice none 0 0,.int .i64 0,.int .i64 0,.int .i64 0,.int .i64 0,.int .i64 0,.int .i64 0,.int .i64 0,.int .i64 0,.int .i64 0,.int .i64 0,.int .i64 0,.int .i64 0,.int .i64 0,.int .i64 0,.int .i64 0,.int .i64 0,.int .i64 0,.int .i64 0,.int .i64 0,.int .i64 0,.slice none 0 0,.int .i64 0,.int .u8 0,.int .u16 0])
  have hp2:=setCells_all (w:=W1.drew.setCells (w.heap.size+1) 0 [.slice none 0 0,.int .i64 0,.int .i64 0,.int .i64 0,.int .i64 0,.int .i64 0,.int .i64 0,.int .i64 0,.int .i64 0,.int .i64 0,.int .i64 0,.int .i64 0,.int .i64 0,.int .i64 0,.int .i64 0,.int .i64 0,.int .i64 0,.int .i64 0,.int .i64 0,.int .i64 0,.int .i64 0,.slice none 0 0,.int .i64 0,.int .u8 0,.int .u16 0]) [.int .i64 E,.int .i64 P] ((hg1.block (w.heap.size+2) hsz (by simp)).trans ks) rfl
  have HP1:Hid (((W1.drew.setCells (w.heap.size+1) 0 [.slice none 0 0,.int .i64 0,.int .i64 0,.int .i64 0,.int .i64 0,.int .i64 0,.int .i64 0,.int .i64 0,.int .i64 0,.int .i64 0,.int .i64 0,.int .i64 0,.int .i64 0,.int .i64 0,.int .i64 0,.int .i64 0,.int .i64 0,.int .i64 0,.int .i64 0,.int .i64 0,.int .i64 0,.slice none 0 0,.int .i64 0,.int .u8 0,.int .u16 0]).setCells (w.heap.size+2) 0 [.int .i64 E,.int .i64 P]).heap[w.heap.size+1]?=some (.cells #[.slice none 0 0,.int .i64 0,.int .i64 0,.int .i64 0,.int .i64 0,.int .i64 0,.int .i64 0,.int .i64 0,.int .i64 0,.int .i64 0,.int .i64 0,.int .i64 0,.int .i64 0,.int .i64 0,.int .i64 0,.int .i64 0,.int .i64 0,.int .i64 0,.int .i64 0,.int .i64 0,.int .i64 0,.slice none 0 0,.int .i64 0,.int .u8 0,.int .u16 0] 133 (0,0))):=(hg2.block (w.heap.size+1) (by have:=hg1.size;have:w.heap.size+2<W1.drew.heap.size:=hsz;omega) (by simp)).trans hp1
  have HP2:Hid (((W1.drew.setCells (w.heap.size+1) 0 [.slice none 0 0,.int .i64 0,.int .i64 0,.int .i64 0,.int .i64 0,.int .i64 0,.int .i64 0,.int .i64 0,.int .i64 0,.int .i64 0,.int .i64 0,.int .i64 0,.int .i64 0,.int .i64 0,.int .i64 0,.int .i64 0,.int .i64 0,.int .i64 0,.int .i64 0,.int .i64 0,.int .i64 0,.slice none 0 0,.int .i64 0,.int .u8 0,.int .u16 0]).setCells (w.heap.size+2) 0 [.int .i64 E,.int .i64 P]).heap[w.heap.size+2]?=some (.cells #[.int .i64 E,.int .i64 P] 30 (0,0))):=hp2
  have HBF:Hid (Below w.heap.size w ((W1.drew.setCells (w.heap.size+1) 0 [.slice none 0 0,.int .i64 0,.int .i64 0,.int .i64 0,.int .i64 0,.int .i64 0,.int .i64 0,.int .i64 0,.int .i64 0,.int .i64 0,.int .i64 0,.int .i64 0,.int .i64 0,.int .i64 0,.int .i64 0,.int .i64 0,.int .i64 0,.int .i64 0,.int .i64 0,.int .i64 0,.int .i64 0,.slice none 0 0,.int .i64 0,.int .u8 0,.int .u16 0]).setCells (w.heap.size+2) 0 [.int .i64 E,.int .i64 P])):=below_grown (below_grown ((HB0.out.trans (HB2.out.mono HB0.out.size)).drew) hg1 (fun g e=>by simp at e;omega)) hg2 (fun g e=>by simp at e;omega)
  have ht1:Hid (W1.drew.there (w.heap.size+1) 0 25):=there_of_block (w:=W1.drew) kz 25 rfl
  have ht2:Hid ((W1.drew.setCells (w.heap.size+1) 0 [.slice none 0 0,.int .i64 0,.int .i64 0,.int .i64 0,.int .i64 0,.int .i64 0,.int .i64 0,.int .i64 0,.int .i64 0,.int .i64 0,.int .i64 0,.int .i64 0,.int .i64 0,.int .i64 0,.int .i64 0,.int .i64 0,.int .i64 0,.int .i64 0,.int .i64 0,.int .i64 0,.int .i64 0,.slice none 0 0,.int .i64 0,.int .u8 0,.int .u16 0]).there (w.heap.size+2) 0 2):=there_of_block ((hg1.block (w.heap.size+2) hsz (by simp)).trans ks) 2 rfl
  have hC1:(W1.drew.setCells (w.heap.size+1) 0 [.slice none 0 0,.int .i64 0,.int .i64 0,.int .i64 0,.int .i64 0,.int .i64 0,.int .i64 0,.int .i64 0,.int .i64 0,.int .i64 0,.int .i64 0,.int .i64 0,.int .i64 0,.int .i64 0,.int .i64 0,.int .i64 0,.int .i64 0,.int .i64 0,.int .i64 0,.int .i64 0,.int .i64 0,.slice none 0 0,.int .i64 0,.int .u8 0,.int .u16 0]).heap[w1.heap.size]?=W1.heap[w1.heap.size]?:=hg1.block _ (by have:=HSX.out;exact this) (by simp;omega)
  have hC2:((W1.drew.setCells (w.heap.size+1) 0 [.slice none 0 0,.int .i64 0,.int .i64 0,.int .i64 0,.int .i64 0,.int .i64 0,.int .i64 0,.int .i64 0,.int .i64 0,.int .i64 0,.int .i64 0,.int .i64 0,.int .i64 0,.int .i64 0,.int .i64 0,.int .i64 0,.int .i64 0,.int .i64 0,.int .i64 0,.int .i64 0,.int .i64 0,.slice none 0 0,.int .i64 0,.int .u8 0,.int .u16 0]).setCells (w.heap.size+2) 0 [.int .i64 E,.int .i64 P]).heap[w1.heap.size]?=W1.heap[w1.heap.size]?:=(hg2.block _ (by have:=HSX.out;have h2:=hg1.size;exact Nat.lt_of_lt_of_le this h2) (by simp;omega)).trans hC1
  have LC:Hid (∀ w':World,w'.heap[w1.heap.size]?=W1.heap[w1.heap.size]?→w'.cell? ⟨w1.heap.size,0,none⟩=some (.int .i64 E)∧w'.cell? ⟨w1.heap.size,1,none⟩=some (.int .i64 P)):=fun w' h=>by
   obtain⟨ce,_⟩:=one_block (h.trans HSN.out)
   exact⟨ce 0,ce 1⟩
  clear hg1 hp1 hg2 hp2 kz ks
  have hmix:Tryz.prog.follows .mixedOrders=true:=by kernel_rfl
  have hC0:W1.drew.heap[w1.heap.size]?=W1.heap[w1.heap.size]?:=rfl
  refine (wpIn_wide (n:=0)).1 ?_
  refine wpIn_normal (wpIn_region_any hmix (wpAnyE_sound (C:=fun w'=>w'.heap[w1.heap.size]?=W1.heap[w1.heap.size]?) (E:=fun i=>false) _ _ _ _ ?_))
  change wpAnyE _ _ _ _ _ _ _ _ _ _ _ (World.drew _)
  refine wpAnyE_takeD (i:=0) (some 11) (v:=.agg #[.slice none 0 0,.int .i64 0,.int .i64 0,.int .i64 0,.int .i64 0,.int .i64 0,.int .i64 0,.int .i64 0,.int .i64 0,.int .i64 0,.int .i64 0,.int .i64 0,.int .i64 0,.int .i64 0,.int .i64 0,.int .i64 0,.int .i64 0,.int .i64 0,.int .i64 0,.int .i64 0,.int .i64 0,.slice none 0 0,.int .i64 0,.int .u8 0,.int .u16 0]) (fun _=>trivial) (by kernel_rfl) rfl rfl (by kernel_rfl) (by kernel_rfl) (by kernel_rfl) (by kernel_rfl) (fun _ _ _ h=>by cases h.1) hC0 (Or.inl ⟨by rfl,fun w' hC=>by clear hC;go_simp⟩) ?_
  simp only [Act.put,ap1,ap2,ap3]
  refine wpAnyE_takeD (i:=1) (some 12) (v:=.agg #[.int .i64 E,.int .i64 P]) (fun _=>trivial) (by kernel_rfl) rfl rfl (by kernel_rfl) (by kernel_rfl) (by kernel_rfl) (by kernel_rfl) (fun _ _ _ h=>by cases h.1) hC0 (Or.inl ⟨by rfl,fun w' hC=>by obtain⟨e0,e1⟩:=LC.out w' hC;clear hC;go_simp⟩) ?_
  simp only [Act.put,ap1,ap2,ap3]
  refine wpAnyE_ready (rs:=[2]) (by kernel_rfl) (by simp) ?_
  refine AllE.cons rfl (fun K hK=>?_) AllE.nil
  refine stepAny_store _ (fun _=>trivial) rfl 133 (.tmp 2) (.tmp 11) rfl (w.heap.size+1) 0 #[.slice none 0 0,.int .i64 0,.int .i64 0,.int .i64 0,.int .i64 0,.int .i64 0,.int .i64 0,.int .i64 0,.int .i64 0,.int .i64 0,.int .i64 0,.int .i64 0,.int .i64 0,.int .i64 0,.int .i64 0,.int .i64 0,.int .i64 0,.int .i64 0,.int .i64 0,.int .i64 0,.int .i64 0,.slice none 0 0,.int .i64 0,.int .u8 0,.int .u16 0] rfl rfl ht1.out (by kernel_rfl) (by simp [Value.oneCell']) ?_
  refine hK _ _ (.inr hC1) ?_
  clear hK K
  refine wpAnyE_ready (rs:=[3]) (by kernel_rfl) (by simp) ?_
  refine AllE.cons rfl (fun K hK=>?_) AllE.nil
  refine stepAny_store _ (fun _=>trivial) rfl 30 (.tmp 3) (.tmp 12) rfl (w.heap.size+2) 0 #[.int .i64 E,.int .i64 P] rfl rfl ht2.out (by kernel_rfl) (by simp [Value.oneCell']) ?_
  refine hK _ _ (.inr hC2) ?_
  clear hK K
  refine wpAnyE_done (by kernel_rfl) ⟨rfl,?_⟩ _
  clear ht1 ht2 hC1 hC2 hC0 LC
  dsimp only
  generalize (W1.drew.setCells (w.heap.size+1) 0 [.slice none 0 0,.int .i64 0,.int .i64 0,.int .i64 0,.int .i64 0,.int .i64 0,.int .i64 0,.int .i64 0,.int .i64 0,.int .i64 0,.int .i64 0,.int .i64 0,.int .i64 0,.int .i64 0,.int .i64 0,.int .i64 0,.int .i64 0,.int .i64 0,.int .i64 0,.int .i64 0,.int .i64 0,.slice none 0 0,.int .i64 0,.int .u8 0,.int .u16 0]).setCells (w.heap.size+2) 0 [.int .i64 E,.int .i64 P]=Z at *
  rw [then_normalW]
  go_wp2_with fail
  exact HRET.out _ Z (.slice none 0 0) (.slice none 0 0) (fun _=>0) 0 0 0 rfl rfl rfl HP1.out (by rw [HLE.out];exact HP2.out) HBF.out ⟨rfl,rfl⟩ (.inl ⟨by rw [HLE.out];exact HE0.out,rfl,fun _=>rfl⟩)
end Go.Proofs.YtoebhgpciinkgaaGreatDoor
