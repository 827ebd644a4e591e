/-
  Texts in one: Ref03Of, GrammarTexts, GrammarReadForm, GrammarOf, GrammarLetter, Ref03Names.
-/
import Derived.Test.YtonhnflilfjkbaaGreatDoorB03
import Derived.WalkMore
import Derived.Lib.OthersKept
import Derived.Laws.AppendOwn
namespace Go.Proofs.YtonhnflilfjkbaaGreatDoor
open Go.RowKit
set_option maxRecDepth 10000
set_option linter.unusedVariables false
set_option linter.unusedSimpArgs false
theorem one_block {w:World} {B T:Nat} {cs:Array Value} (h:w.heap[B]?=some (.cells cs T (0,0))):(∀ i,w.cell? ⟨B,i,none⟩=cs[i]?)∧(∀ i,w.frozen? ⟨B,i,none⟩=false):=by
 refine⟨fun i=>?_,fun i=>?_⟩
 ·simp [World.cell?,h]
 ·simp [World.frozen?,h]
theorem alloc_new (w:World) (cs:Array Value) (T:Nat):(w.alloc (.cells cs T)).heap[w.heap.size]?=some (.cells cs T (0,0)):=heap_alloc_new w _
theorem eight_set {w:World} {B T:Nat} {z0 z1 z2 z3 z4 z5 z6 z7:Value} (h:w.heap[B]?=some (.cells #[z0,z1,z2,z3,z4,z5,z6,z7] T (0,0))) (u0 u1 u2 u3 u4 u5 u6 u7:Value) :
  ((((((((w.setCell ⟨B,0,none⟩ u0).setCell ⟨B,1,none⟩ u1).setCell ⟨B,2,none⟩ u2).setCell ⟨B,3,none⟩ u3).setCell ⟨B,4,none⟩ u4).setCell ⟨B,5,none⟩ u5).setCell ⟨B,6,none⟩ u6).setCell ⟨B,7,none⟩ u7).heap[B]?=some (.cells #[u0,u1,u2,u3,u4,u5,u6,u7] T (0,0)):=by
 simp only [World.setCell,Array.getElem?_modify,h];simp
theorem eight_below (w:World) (B:Nat) (u0 u1 u2 u3 u4 u5 u6 u7:Value) :
  Below B w ((((((((w.setCell ⟨B,0,none⟩ u0).setCell ⟨B,1,none⟩ u1).setCell ⟨B,2,none⟩ u2).setCell ⟨B,3,none⟩ u3).setCell ⟨B,4,none⟩ u4).setCell ⟨B,5,none⟩ u5).setCell ⟨B,6,none⟩ u6).setCell ⟨B,7,none⟩ u7) :=
 ((((((((Below.refl B w).setCell (Nat.le_refl _) _).setCell (Nat.le_refl _) _).setCell (Nat.le_refl _) _).setCell (Nat.le_refl _) _).setCell (Nat.le_refl _) _).setCell (Nat.le_refl _) _).setCell (Nat.le_refl _) _).setCell (Nat.le_refl _) _
def frmCells (n:Int) (f:Frm):Array Value:=#[.int .u16 n,.string f.1,.bool f.2.1,.bool f.2.2.1,.string f.2.2.2.1,.string f.2.2.2.2.1,.int .i64 f.2.2.2.2.2.1,.int .u8 f.2.2.2.2.2.2]
theorem frm_cells {w:World} {B T:Nat} {n:Int} {f:Frm} (h:w.heap[B]?=some (.cells (frmCells n f) T (0,0))) :
  w.cell? ⟨B,0,none⟩=some (.int .u16 n)∧w.cell? ⟨B,1,none⟩=some (.string f.1)∧w.cell? ⟨B,2,none⟩=some (.bool f.2.1)∧w.cell? ⟨B,3,none⟩=some (.bool f.2.2.1)∧w.cell? ⟨B,4,none⟩=some (.string f.2.2.2.1)∧w.cell? ⟨B,5,none⟩=some (.string f.2.2.2.2.1)∧w.cell? ⟨B,6,none⟩=some (.int .i64 f.2.2.2.2.2.1)∧w.cell? ⟨B,7,none⟩=some (.int .u8 f.2.2.2.2.2.2)∧∀ i,w.frozen? ⟨B,i,none⟩=false:=by
 obtain⟨hc,hf⟩:=one_block h
 exact⟨hc 0,hc 1,hc 2,hc 3,hc 4,hc 5,hc 6,hc 7,hf⟩
theorem store_frm (w:World) (B:Nat) (z0 z1 z2 z3 z4 z5 z6 z7:Value) (h:w.heap[B]?=some (.cells #[z0,z1,z2,z3,z4,z5,z6,z7] 66 (0,0))) (a:Act) (r:Nat) (n:Int) (f:Frm) (h2:a.tmps[2]?.getD undef=.pointer (some ⟨B,0,none⟩)) (hr:a.tmps[r]?.getD undef=formV n f) (ty:TypeId) (pos:String) (af:Array Edge) :
  ∃ w',(execOp a.eval ⟨none,.store 66 (.tmp 2) (.tmp r),ty,pos,af,none⟩).run Tryz.prog w=.ok .skip w'∧w'.heap[B]?=some (.cells (frmCells n f) 66 (0,0))∧Below B w w':=by
 obtain⟨hc,hf⟩:=one_block h
 have c0:=hc 0
 have c1:=hc 1
 have c2:=hc 2
 have c3:=hc 3
 have c4:=hc 4
 have c5:=hc 5
 have c6:=hc 6
 have c7:=hc 7
 unfold formV at hr
 refine⟨_,?_,eight_set h _ _ _ _ _ _ _ _,eight_below _ _ _ _ _ _ _ _ _ _⟩
 clear h
 simp [execOp,go_sem,h2,hr,hf,c0,c1,c2,c3,c4,c5,c6,c7]
theorem op_skip {P:Program} {o:Oper} {a:Act} {w w':World} {K:Act→World→Prop} {Q:Exit→Act→World→Prop} (h:(execOp a.eval o).run P w=.ok .skip w') (hK:K (a.put o.dst undef) w'):o.wp P a w K Q:=by
 unfold Oper.wp;rw [h];exact hK
theorem op_new {P:Program} {o:Oper} {a:Act} {w w':World} {K:Act→World→Prop} {Q:Exit→Act→World→Prop} {v:Value} (h:(execOp a.eval o).run P w=.ok (.value v) w') (hK:K (a.put o.dst v) w'):o.wp P a w K Q:=by
 unfold Oper.wp;rw [h];exact hK
theorem op_enter {P:Program} {o:Oper} {a:Act} {w:World} {K:Act→World→Prop} {Q:Exit→Act→World→Prop} {f:FuncId} {args:Array Value} (h:(execOp a.eval o).run P w=.ok (.enter f args) w) {v:Value} {R:World→Prop} (hc:Calls P f args w fun e w'=>e=.returned v∧R w')
  (hK:∀ w',R w'→K (a.put o.dst v) w'):o.wp P a w K Q:=by
 unfold Oper.wp;rw [h]
 refine hc.mono ?_
 rintro e w' ⟨rfl,hr⟩
 exact hK w' hr
def armForm (g T top:Nat):Code→Option Frm
 | .seq (.region _ ops false) .ret =>
  match ops.toList with
  | [⟨some m,.move (.tmp 0),_,_,_,none⟩,⟨some r,.call ⟨.value (.func g'),args,_⟩,_,_,_,none⟩,⟨none,.store T' (.tmp 2) (.tmp r'),_,_,_,none⟩,⟨some 3,.assign (.const (.bool true)),_,_,_,none⟩] =>
   match args.toList with
   | [.tmp m',.const (.string nm),.const (.bool t),.const (.bool rr),.const (.string fx),.const (.string rs),.const (.int .i64 mo),.const (.int .u8 pa)] =>
    if g'=g∧T'=T∧m'=m∧r'=r∧5≤m∧5≤r∧m<top∧r<top∧m≠r then some (nm,t,rr,fx,rs,mo,pa) else none
   | _=>none
  | _=>none
 | _=>none
theorem wp_armForm {top:Nat} {c:Code} {f:Frm} (h:armForm 68 66 top c=some f) {a:Act} {w:World} {B:Nat} {n:Int} {fn:Func} {R:Ending→World→Prop} (hfn:fn.results=#[.cell 2 66,.tmp 3]) (h5:5≤top)
  (hs:a.tmps.size=top) (hd:a.defers=[]) (h0:a.tmps.getD 0 undef=.int .u16 n) (h2:a.tmps.getD 2 undef=.pointer (some ⟨B,0,none⟩)) {z0 z1 z2 z3 z4 z5 z6 z7:Value} (hB:w.heap[B]?=some (.cells #[z0,z1,z2,z3,z4,z5,z6,z7] 66 (0,0)))
  (hR:∀ w',Below B w w'→R (.returned (.tuple #[formV n f,.bool true])) w') {Q:Exit→Act→World→Prop} (hQ:∀ a' w',bodyPost Tryz.prog fn R .ret a' w'→Q .ret a' w'):c.wp Tryz.prog Q a w:=by
 unfold armForm at h
 split at h
 case h_2=>cases h
 rename_i id ops
 split at h
 case h_2=>cases h
 rename_i m y1 y2 y3 r g' args y4 y5 y6 y7 T' r' y8 y9 y10 y11 y12 y13 hl
 split at h
 case h_2=>cases h
 rename_i m' nm t rr fx rs mo pa hargs
 split at h
 case isFalse=>cases h
 rename_i hh
 obtain⟨rfl,rfl,rfl,rfl,k1,k2,k3,k4,k5⟩:=hh
 have q1:∀ i:Nat,i<5→∀ s:Nat,¬ (m'=i∧i<s):=fun i hi s h=>absurd (Nat.lt_of_lt_of_le hi k1) (by rw [h.1];exact Nat.lt_irrefl _)
 have q2:∀ i:Nat,i<5→∀ s:Nat,¬ (r'=i∧i<s):=fun i hi s h=>absurd (Nat.lt_of_lt_of_le hi k2) (by rw [h.1];exact Nat.lt_irrefl _)
 cases h
 obtain⟨args⟩:=args
 simp only at hargs
 subst hargs
 refine wp_seq (wp_region_list ?_)
 rw [hl]
 have hBs:B<w.heap.size:=(Array.getElem?_eq_some_iff.1 hB).1
 have e0:a.tmps[0]?.getD undef=.int .u16 n:=by rw [← Array.getD_eq_getD_getElem?];exact h0
 refine wpList_plain rfl fun K hK=>op_value (v:=.int .u16 n) (by simp [execOp,go_sem,e0]) (hK _ _ ?_)
 clear hK K
 generalize ha1:a.put (some m') (.int .u16 n)=a1
 have e1:a1.tmps[m']?.getD undef=.int .u16 n:=by rw [← Array.getD_eq_getD_getElem?,← ha1,getD_put,if_pos ⟨rfl,by rw [hs];exact k3⟩]
 refine wpList_plain rfl fun K hK=>op_enter (f:=68) (by simp [execOp,go_sem,e1]) (form_any n nm t rr fx rs mo pa w) (fun w1 hb1=>hK _ _ ?_)
 clear hK K
 have hB1:=(hb1.block B hBs).trans hB
 generalize ha2:a1.put (some r') _=a2
 have e2:a2.tmps[2]?.getD undef=.pointer (some ⟨B,0,none⟩):=by rw [← Array.getD_eq_getD_getElem?,← ha2,getD_put,if_neg (q2 2 (by decide) _),← ha1,getD_put,if_neg (q1 2 (by decide) _)];exact h2
 have e3:a2.tmps[r']?.getD undef=formV n (nm,t,rr,fx,rs,mo,pa):=by rw [← Array.getD_eq_getD_getElem?,← ha2,getD_put,if_pos ⟨rfl,by rw [← ha1];simp [Act.put];rw [hs];exact k4⟩];rfl
 obtain⟨w2,hrun,hB2,hb2⟩:=store_frm w1 B z0 z1 z2 z3 z4 z5 z6 z7 hB1 a2 r' n (nm,t,rr,fx,rs,mo,pa) e2 e3 y8 y9 y10
 refine wpList_plain rfl fun K hK=>op_skip hrun (hK _ _ ?_)
 clear hK K
 refine wpList_plain rfl fun K hK=>op_value (v:=.bool true) (by simp [execOp,go_sem]) (hK _ _ ?_)
 clear hK K
 refine wpList_nil (wp_ret (hQ _ _ ?_))
 have sz:(a2.put none undef).tmps.size=top:=by rw [← ha2,← ha1];simp [Act.put,hs]
 refine⟨by rw [← ha2,← ha1];simp [Act.put,hd],.tuple #[formV n (nm,t,rr,fx,rs,mo,pa),.bool true],?_,hR w2 ((hb1.mono (Nat.le_of_lt hBs)).trans hb2)⟩
 generalize ha3:(a2.put none undef).put (some 3) (.bool true)=a3
 have e4:a3.tmps[2]?.getD undef=.pointer (some ⟨B,0,none⟩):=by rw [← Array.getD_eq_getD_getElem?,← ha3,getD_put,if_neg (by omega),Array.getD_eq_getD_getElem?];exact e2
 have e5:a3.tmps[3]?.getD undef=.bool true:=by rw [← Array.getD_eq_getD_getElem?,← ha3,getD_put,if_pos ⟨rfl,by rw [sz];omega⟩]
 obtain⟨hc,hf⟩:=one_block hB2
 have c0:=hc 0
 have c1:=hc 1
 have c2:=hc 2
 have c3:=hc 3
 have c4:=hc 4
 have c5:=hc 5
 have c6:=hc 6
 have c7:=hc 7
 unfold frmCells at c0 c1 c2 c3 c4 c5 c6 c7
 simp [results,hfn,go_sem,e4,e5,formV,c0,c1,c2,c3,c4,c5,c6,c7]
def formsOf (g T top:Nat):List (Int×Code)→Option (List (Int×Frm))
 | []=>some []
 | (k,c) :: l=>match armForm g T top c,formsOf g T top l with
  | some s,some t=>some ((k,s) :: t)
  | _,_=>none
theorem formsOf_mem {g T top:Nat}:∀ {l:List (Int×Code)} {t:List (Int×Frm)},formsOf g T top l=some t→∀ k c,(k,c)∈l→∃ s,armForm g T top c=some s∧(k,s)∈t
 | [],_,_,_,_,hm=>by cases hm
 | (k',c') :: l,t,h,k,c,hm=>by
  rw [formsOf] at h
  split at h
  case h_2=>cases h
  rename_i s t' h1 h2
  cases h
  rcases List.mem_cons.1 hm with e | hm
  ·cases e;exact⟨s,h1,List.mem_cons_self⟩
  ·obtain⟨s2,h3,h4⟩:=formsOf_mem h2 k c hm
   exact⟨s2,h3,List.mem_cons_of_mem _ h4⟩
theorem formsOf_keys {g T top:Nat}:∀ {l:List (Int×Code)} {t:List (Int×Frm)},formsOf g T top l=some t→∀ k s,(k,s)∈t→∃ c,(k,c)∈l
 | [],_,h,_,_,hm=>by rw [formsOf] at h;cases h;cases hm
 | (k',c') :: l,t,h,k,s,hm=>by
  rw [formsOf] at h
  split at h
  case h_2=>cases h
  rename_i s' t' h1 h2
  cases h
  rcases List.mem_cons.1 hm with e | hm
  ·cases e;exact⟨c',List.mem_cons_self⟩
  ·obtain⟨c2,h3⟩:=formsOf_keys h2 k s hm
   exact⟨c2,List.mem_cons_of_mem _ h3⟩
def lookF:List (Int×Frm)→Int→Frm×Bool
 | [],_=>(noFrm,false)
 | (k,s) :: l,n=>if n=k then (s,true) else lookF l n
def oneEachF (l:List (Int×Frm)):Bool:=match l with
 | []=>true
 | (k,_) :: l=>(l.all fun p=>decide (p.1≠k)) && oneEachF l
theorem lookF_mem:∀ {l:List (Int×Frm)},oneEachF l=true→∀ k s,(k,s)∈l→lookF l k=(s,true)
 | [],_,_,_,h=>by cases h
 | (k',s') :: l,h1,k,s,hm=>by
  rw [oneEachF,Bool.and_eq_true] at h1
  rcases List.mem_cons.1 hm with e | hm
  ·cases e;simp [lookF]
  ·have:=List.all_eq_true.1 h1.1 (k,s) hm
   simp only [ne_eq,decide_not,Bool.not_eq_true',decide_eq_false_iff_not] at this
   rw [lookF,if_neg this]
   exact lookF_mem h1.2 k s hm
theorem lookF_none:∀ {l:List (Int×Frm)} {n:Int},(∀ k s,(k,s)∈l→n≠k)→lookF l n=(noFrm,false)
 | [],_,_=>rfl
 | (k',s') :: l,n,h=>by
  rw [lookF,if_neg (h k' s' List.mem_cons_self)]
  exact lookF_none fun k s hm=>h k s (List.mem_cons_of_mem _ hm)
def ofV (n:Int):Value:=if (lookF refT n).2 then formV n (lookF refT n).1 else formV 0 noFrm
theorem wp_noForm {top m:Nat} {a:Act} {w:World} {B:Nat} {fn:Func} {R:Ending→World→Prop} {y1 y2 y3 y4 y5 y6 y7 y8 y9 id} (hfn:fn.results=#[.cell 2 66,.tmp 3]) (h5:5≤top) (hm:m<top) (hm5:5≤m)
  (hs:a.tmps.size=top) (hd:a.defers=[]) (h2:a.tmps.getD 2 undef=.pointer (some ⟨B,0,none⟩)) {z0 z1 z2 z3 z4 z5 z6 z7:Value} (hB:w.heap[B]?=some (.cells #[z0,z1,z2,z3,z4,z5,z6,z7] 66 (0,0)))
  (hR:∀ w',Below B w w'→R (.returned (.tuple #[formV 0 noFrm,.bool false])) w') :
  (Code.seq (.region id #[⟨some m,.build 66 #[],y1,y2,y3,none⟩,⟨none,.store 66 (.tmp 2) (.tmp m),y4,y5,y6,none⟩,⟨some 3,.assign (.const (.bool false)),y7,y8,y9,none⟩] false) .ret).wp Tryz.prog (bodyPost Tryz.prog fn R) a w:=by
 refine wp_seq (wp_region_lit ?_)
 refine wpList_plain rfl fun K hK=>op_value (v:=formV 0 noFrm) (by simp [execOp,go_sem,formV,noFrm]) (hK _ _ ?_)
 clear hK K
 generalize ha2:a.put (some m) _=a2
 have e2:a2.tmps[2]?.getD undef=.pointer (some ⟨B,0,none⟩):=by rw [← Array.getD_eq_getD_getElem?,← ha2,getD_put,if_neg (by omega)];exact h2
 have e3:a2.tmps[m]?.getD undef=formV 0 noFrm:=by rw [← Array.getD_eq_getD_getElem?,← ha2,getD_put,if_pos ⟨rfl,by rw [hs];exact hm⟩]
 obtain⟨w2,hrun,hB2,hb2⟩:=store_frm w B z0 z1 z2 z3 z4 z5 z6 z7 hB a2 m 0 noFrm e2 e3 y4 y5 y6
 refine wpList_plain rfl fun K hK=>op_skip hrun (hK _ _ ?_)
 clear hK K
 refine wpList_plain rfl fun K hK=>op_value (v:=.bool false) (by simp [execOp,go_sem]) (hK _ _ ?_)
 clear hK K
 refine wpList_nil (wp_ret ?_)
 have sz:(a2.put none undef).tmps.size=top:=by rw [← ha2];simp [Act.put,hs]
 refine⟨by rw [← ha2];simp [Act.put,hd],.tuple #[formV 0 noFrm,.bool false],?_,hR w2 hb2⟩
 generalize ha3:(a2.put none undef).put (some 3) (.bool false)=a3
 have e4:a3.tmps[2]?.getD undef=.pointer (some ⟨B,0,none⟩):=by rw [← Array.getD_eq_getD_getElem?,← ha3,getD_put,if_neg (by omega),Array.getD_eq_getD_getElem?];exact e2
 have e5:a3.tmps[3]?.getD undef=.bool false:=by rw [← Array.getD_eq_getD_getElem?,← ha3,getD_put,if_pos ⟨rfl,by rw [sz];omega⟩]
 obtain⟨hc,hf⟩:=one_block hB2
 have c0:=hc 0
 have c1:=hc 1
 have c2:=hc 2
 have c3:=hc 3
 have c4:=hc 4
 have c5:=hc 5
 have c6:=hc 6
 have c7:=hc 7
 unfold frmCells noFrm at c0 c1 c2 c3 c4 c5 c6 c7
 simp [results,hfn,go_sem,e4,e5,formV,noFrm,c0,c1,c2,c3,c4,c5,c6,c7]
def formSwitch (g T top:Nat) (c:Code):Option (List (Int×Frm)):=match armsOf 4 5 top .u16 200 c with
 | some l=>formsOf g T top l
 | none=>none
set_option maxRecDepth 10000 in
theorem refOf_any (n:Int) (w:World):Calls Tryz.prog 33 #[.int .u16 n] w fun e w'=>e=.returned (.tuple #[ofV n,.bool (lookF refT n).2])∧Below w.heap.size w w':=by
 refine calls_of_wp Tryz.func33 rfl ?_
 generalize ha:({ tmps:=#[.int .u16 n]++Array.replicate (Tryz.f33.ntmps - (#[Value.int .u16 n]:Array Value).size) undef,defers:=[] }:Act)=a
 have hsz:a.tmps.size=Tryz.f33.ntmps:=by rw [← ha];simp
 have ha0:a.tmps.getD 0 undef=.int .u16 n:=by rw [← ha];rw [Array.getD_eq_getD_getElem?,Array.getElem?_append_left (by simp)];rfl
 have had:a.defers=[]:=by rw [← ha]
 have h1:oneEachF refT=true:=by decide +kernel
 clear ha
 refine wp_seq (wp_region_lit ?_)
 refine wpList_plain rfl fun K hK=>op_new (v:=.pointer (some ⟨w.heap.size,0,none⟩)) (w':=w.alloc (.cells (frmCells 0 noFrm) 66)) (by simp [execOp,go_sem,frmCells,noFrm]) (hK _ _ ?_)
 clear hK K
 refine wpList_plain rfl fun K hK=>op_value (v:=.bool false) (by simp [execOp,go_sem]) (hK _ _ (wpList_nil ?_))
 clear hK K
 refine wp_seq (wp_seq (wp_region_lit ?_))
 generalize hA:(a.put (some 2) (.pointer (some ⟨w.heap.size,0,none⟩))).put (some 3) (.bool false)=A
 have sA:A.tmps.size=Tryz.f33.ntmps:=by rw [← hA];simp [Act.put,hsz]
 have dA:A.defers=[]:=by rw [← hA];simp [Act.put,had]
 have A0:A.tmps.getD 0 undef=.int .u16 n:=by rw [← hA,getD_put,if_neg (by omega),getD_put,if_neg (by omega)];exact ha0
 have A2:A.tmps.getD 2 undef=.pointer (some ⟨w.heap.size,0,none⟩):=by rw [← hA,getD_put,if_neg (by omega),getD_put,if_pos ⟨rfl,by rw [hsz];decide⟩]
 clear hA
 have A0':A.tmps[0]?.getD undef=.int .u16 n:=by rw [← Array.getD_eq_getD_getElem?];exact A0
 refine wpList_plain rfl fun K hK=>op_value (v:=.int .u16 n) (by simp [execOp,go_sem,A0']) (hK _ _ (wpList_nil (wp_block ?_)))
 clear hK K
 generalize hX:A.put (some 4) (.int .u16 n)=X
 have sX:X.tmps.size=Tryz.f33.ntmps:=by rw [← hX];simp [Act.put,sA]
 have dX:X.defers=[]:=by rw [← hX];simp [Act.put,dA]
 have X0:X.tmps.getD 0 undef=.int .u16 n:=by rw [← hX,getD_put,if_neg (by omega)];exact A0
 have X2:X.tmps.getD 2 undef=.pointer (some ⟨w.heap.size,0,none⟩):=by rw [← hX,getD_put,if_neg (by omega)];exact A2
 have X4:X.tmps.getD 4 undef=.int .u16 n:=by rw [← hX,getD_put,if_pos ⟨rfl,by rw [sA];decide⟩]
 clear hX A0 A0' A2 dA sA
 have hB:(w.alloc (.cells (frmCells 0 noFrm) 66)).heap[w.heap.size]?=some (.cells (frmCells 0 noFrm) 66 (0,0)):=alloc_new w _ _
 have hbel:Below w.heap.size w (w.alloc (.cells (frmCells 0 noFrm) 66)):=(Below.refl _ w).alloc (Nat.le_refl _) _
 generalize w.alloc (.cells (frmCells 0 noFrm) 66)=W at *
 have sw:∀ c,formSwitch 68 66 Tryz.f33.ntmps c=some refT→∀ Q,(∀ a' (d:Code) f,Agree 5 X a'→armForm 68 66 Tryz.f33.ntmps d=some f→lookF refT n=(f,true)→d.wp Tryz.prog Q a' W)→(∀ a',Agree 5 X a'→lookF refT n=(noFrm,false)→Q .normal a' W)→c.wp Tryz.prog Q X W:=by
  intro c hc Q harm hno
  unfold formSwitch at hc
  split at hc
  case h_2=>cases hc
  rename_i l hl
  refine wp_arms (x:=4) (lo:=5) (n:=n) (by omega) 200 c l X W hl sX X4 (fun a' k d hag hm e=>?_) (fun a' hag hn=>?_)
  ·obtain⟨f,h3,h5⟩:=formsOf_mem hc k d hm
   exact harm a' d f hag h3 (by rw [e];exact lookF_mem h1 k f h5)
  ·exact hno a' hag (lookF_none fun k s hm=>by obtain⟨c,hc⟩:=formsOf_keys hc k s hm;exact hn k c hc)
 refine sw _ (by kernel_rfl) _ (fun a' d f hag h3 h4=>?_) (fun a' hag h4=>?_)
 ·exact wp_armForm (B:=w.heap.size) (n:=n) (fn:=Tryz.f33) (R:=fun e w'=>e=.returned (.tuple #[ofV n,.bool (lookF refT n).2])∧Below w.heap.size w w') h3 rfl (by decide) (hag.1.trans sX) (hag.2.1.trans dX) ((hag.2.2 0 (by omega)).trans X0) ((hag.2.2 2 (by omega)).trans X2) hB (fun w' hb=>⟨by rw [ofV,h4];rfl,hbel.trans hb⟩) (fun a' w' h=>h)
 ·exact wp_noForm (top:=Tryz.f33.ntmps) (B:=w.heap.size) (fn:=Tryz.f33) (R:=fun e w'=>e=.returned (.tuple #[ofV n,.bool (lookF refT n).2])∧Below w.heap.size w w') rfl (by decide) (by decide) (by decide) (hag.1.trans sX) (hag.2.1.trans dX) ((hag.2.2 2 (by omega)).trans X2) hB (fun w' hb=>⟨by rw [ofV,h4];rfl,hbel.trans hb⟩)
theorem namingText_any (n:Int) (w:World):Calls Tryz.prog 119 #[.int .u16 n] w fun e w'=>e=.returned (.string (lookT namingT n))∧w=w' :=
 calls_textSwitch Tryz.func119 rfl rfl (by decide) rfl (by kernel_rfl) (by decide +kernel) n w
theorem makingText_any (n:Int) (w:World):Calls Tryz.prog 120 #[.int .u16 n] w fun e w'=>e=.returned (.string (lookT makingT n))∧w=w' :=
 calls_textSwitch Tryz.func120 rfl rfl (by decide) rfl (by kernel_rfl) (by decide +kernel) n w
theorem countingText_any (n:Int) (w:World):Calls Tryz.prog 121 #[.int .u16 n] w fun e w'=>e=.returned (.string (lookT countingT n))∧w=w' :=
 calls_textSwitch Tryz.func121 rfl rfl (by decide) rfl (by kernel_rfl) (by decide +kernel) n w
theorem comparingText_any (n:Int) (w:World):Calls Tryz.prog 122 #[.int .u16 n] w fun e w'=>e=.returned (.string (lookT comparingT n))∧w=w' :=
 calls_textSwitch Tryz.func122 rfl rfl (by decide) rfl (by kernel_rfl) (by decide +kernel) n w
theorem bitText_any (n:Int) (w:World):Calls Tryz.prog 123 #[.int .u16 n] w fun e w'=>e=.returned (.string (lookT bitT n))∧w=w' :=
 calls_textSwitch Tryz.func123 rfl rfl (by decide) rfl (by kernel_rfl) (by decide +kernel) n w
theorem flowText_any (n:Int) (w:World):Calls Tryz.prog 124 #[.int .u16 n] w fun e w'=>e=.returned (.string (lookT flowT n))∧w=w' :=
 calls_textSwitch Tryz.func124 rfl rfl (by decide) rfl (by kernel_rfl) (by decide +kernel) n w
theorem enumText_any (n:Int) (w:World):Calls Tryz.prog 151 #[.int .u8 n] w fun e w'=>e=.returned (.string (lookT enumT n))∧w=w' :=
 calls_textSwitch Tryz.func151 rfl rfl (by decide) rfl (by kernel_rfl) (by decide +kernel) n w
end Go.Proofs.YtonhnflilfjkbaaGreatDoor
namespace Go.Proofs.YtonhnflilfjkbaaGreatDoor
open Go.RowKit Go.Lib
set_option maxRecDepth 10000
set_option linter.unusedVariables false
set_option linter.unusedSimpArgs false
theorem set_at {w:World} {B T:Nat} {cs:Array Value} (h:w.heap[B]?=some (.cells cs T (0,0))) (i:Nat) (v:Value):(w.setCell ⟨B,i,none⟩ v).heap[B]?=some (.cells (cs.setIfInBounds i v) T (0,0)):=by
 simp only [World.setCell,Array.getElem?_modify,h];simp
theorem set_off (w:World) (B i:Nat) (v:Value) {k:Nat} (h:k≠B):(w.setCell ⟨B,i,none⟩ v).heap[k]?=w.heap[k]?:=Below.heap_setCell w ⟨B,i,none⟩ v k (by simpa using h)
theorem allocs2 (w:World) (a b:Obj):((w.alloc a).alloc b).heap[w.heap.size]?=some a∧((w.alloc a).alloc b).heap[w.heap.size+1]?=some b :=
 ⟨(Below.heap_alloc _ _ _ (by simp)).trans (heap_alloc_new w _),by have:=heap_alloc_new (w.alloc a) b;rw [World.size_alloc] at this;exact this⟩
theorem allocs3 (w:World) (a b c:Obj):(((w.alloc a).alloc b).alloc c).heap[w.heap.size]?=some a∧(((w.alloc a).alloc b).alloc c).heap[w.heap.size+1]?=some b∧(((w.alloc a).alloc b).alloc c).heap[w.heap.size+2]?=some c :=
 ⟨(Below.heap_alloc _ _ _ (by simp;omega)).trans (allocs2 w a b).1,(Below.heap_alloc _ _ _ (by simp)).trans (allocs2 w a b).2,by have:=heap_alloc_new ((w.alloc a).alloc b) c;rw [World.size_alloc,World.size_alloc] at this;exact this⟩
def RdI (w:World) (s:ByteArray) (n:Int) (k:Nat) (W:World):Prop :=
 Below w.heap.size w W∧W.heap[w.heap.size]?=some (.cells (frmCells 0 noFrm) 136 (0,0))∧W.heap[w.heap.size+1]?=some (.cells (frmCells n (rdTo s k).2.2) 136 (0,0))∧W.heap[w.heap.size+2]?=some (.stringIter s k)
def left (b m:Nat) (W:World):Nat:=match W.heap[b]? with | some (.stringIter _ k)=>m - k | _=>0
theorem left_at {b m:Nat} {W:World} {s:ByteArray} {k:Nat} (h:W.heap[b]?=some (.stringIter s k)):left b m W=m - k:=by unfold left;rw [h]
set_option maxRecDepth 10000 in
set_option maxHeartbeats 4000000 in
theorem readForm_any (n:Int) (s:ByteArray) (w:World) (hg:goodT s=true) (hs:s.size≤1000) :
  Calls Tryz.prog 81 #[.int .u16 n,.string s] w fun e w'=>e=.returned (formV n (rdF s))∧Below w.heap.size w w':=by
 have HG:Hid (goodT s=true):=hg
 clear hg
 go_enter Tryz.func81,Tryz.ntmps81
 go_wp2
 go_loopw [6,7] (fun c f W=>∃ k:Nat,k≤s.size∧c=.int .i64 (rdTo s k).1∧f=.int .i64 (rdTo s k).2.1∧RdI w s n k W) (fun _ _ W=>left (w.heap.size+2) s.size W)
 case atStart =>
  refine⟨0,Nat.zero_le _,rfl,rfl,(((Below.refl _ w).alloc (Nat.le_refl _) _).alloc (by simp) _).alloc (by simp;omega) _,?_,?_,?_⟩
  ·exact (allocs3 w _ _ _).1
  ·exact (allocs3 w _ _ _).2.1
  ·exact (allocs3 w _ _ _).2.2
 case round =>
  obtain⟨k,hk,rfl,rfl,hb,h4,h5,hit⟩:=hrel
  have hl0:left (w.heap.size+2) s.size wr=s.size - k:=left_at hit
  by_cases hlt:k<s.size
  ·have hok:=goodT_at HG.out hlt
   have HS:Hid (rdTo s (k+1)=rdStep s k (sgn s k) (rdTo s k)):=rfl
   have hsg:=sgn_at s k hlt
   generalize sgn s k=c at *
   generalize hrd:rdTo s k=x at *
   obtain⟨col,fr,nm,t,r,fx,rs,mo,pa⟩:=x
   simp only [rdOk,decide_eq_true_eq] at hok
   obtain⟨o1,o2,o3,o4,o5,o6,o7,o8,o9,o10⟩:=hok
   have hnx:=fun ty=>run_next_ascii_at (P:=Tryz.prog) _ _ s k ty hit hlt (by omega)
   rw [hsg] at hnx
   obtain⟨W1,hW1⟩:∃ X,X=wr.iterAt (w.heap.size+2) s (k+1):=⟨_,rfl⟩
   rw [← hW1] at hnx
   have hb1:Below w.heap.size w W1:=by rw [hW1];exact below_iterAt hb (by omega) _ _
   have i1:W1.heap[w.heap.size+2]?=some (.stringIter s (k+1)):=by rw [hW1];exact iterAt_heap _ _ _ _ _ hit
   have g4:W1.heap[w.heap.size]?=some (.cells (frmCells 0 noFrm) 136 (0,0)):=by rw [hW1,iterAt_other _ _ _ _ _ (by omega)];exact h4
   have g5:W1.heap[w.heap.size+1]?=some (.cells (frmCells n (nm,t,r,fx,rs,mo,pa)) 136 (0,0)):=by rw [hW1,iterAt_other _ _ _ _ _ (by omega)];exact h5
   clear hW1 h4 h5 hit hb hsg hrd
   obtain⟨hc,hf⟩:=one_block g5
   have HB:Hid (Below w.heap.size w W1):=hb1
   have H4:Hid (W1.heap[w.heap.size]?=some (.cells (frmCells 0 noFrm) 136 (0,0))):=g4
   have H5:Hid (W1.heap[w.heap.size+1]?=some (.cells (frmCells n (nm,t,r,fx,rs,mo,pa)) 136 (0,0))):=g5
   have HI:Hid (W1.heap[w.heap.size+2]?=some (.stringIter s (k+1))):=i1
   have HL:Hid (left (w.heap.size+2) s.size wr=s.size - k):=hl0
   clear g4 g5 i1 hb1 hl0
   by_cases h47:c=47
   ·subst h47
    have e1:rdTo s (k+1)=(col+1,(k:Int)+1,nm,t,r,fx,rs,mo,pa):=by rw [HS.out];simp [rdStep]
    have HE:Hid (rdTo s (k+1)=(col+1,(k:Int)+1,nm,t,r,fx,rs,mo,pa)):=e1
    clear e1 HS hc hf o9 o10
    go_wp2
    go_roundw
    case rel=>exact⟨k+1,by omega,by rw [HE.out],by rw [HE.out],HB.out,H4.out,by rw [HE.out];exact H5.out,HI.out⟩
    case measure=>rw [HL.out,left_at HI.out];omega
   ·have hne:(c==47)=false:=by simpa using h47
    have c1:=hc 1
    have c2:=hc 2
    have c3:=hc 3
    have c4:=hc 4
    have c5:=hc 5
    have c6:=hc 6
    have c7:=hc 7
    have f1:=hf 1
    have f2:=hf 2
    have f3:=hf 3
    have f4:=hf 4
    have f5:=hf 5
    have f6:=hf 6
    have f7:=hf 7
    clear hc hf
    unfold frmCells at c1 c2 c3 c4 c5 c6 c7
    rcases (show col=0∨col=1∨col=2∨col=3∨col=4∨col=5 by omega) with rfl | rfl | rfl | rfl | rfl | rfl
    ·have HE:Hid (rdTo s (k+1)=(0,fr,s.extract fr.toNat (k+1),t,r,fx,rs,mo,pa)):=by show _=_;rw [HS.out];simp [rdStep,h47]
     clear HS o9 o10
     go_wp2
     go_roundw
     case rel=>exact⟨k+1,by omega,by rw [HE.out],by rw [HE.out],HB.out.setCell (by simp) _,(set_off _ _ _ _ (by omega)).trans H4.out,by rw [HE.out];exact set_at H5.out 1 _,(set_off _ _ _ _ (by omega)).trans HI.out⟩
     case measure=>rw [HL.out,left_at ((set_off _ _ _ _ (by omega)).trans HI.out)];omega
    ·have HE:Hid (rdTo s (k+1)=(1,fr,nm,t || (c==116),r || (c==114),fx,rs,mo,pa)):=by show _=_;rw [HS.out];simp [rdStep,h47]
     clear HS o9 o10
     cases t <;> cases r
     all_goals
      go_wp2
      go_roundw
      case rel=>exact⟨k+1,by omega,by rw [HE.out],by rw [HE.out],(HB.out.setCell (by simp) _).setCell (by simp) _,(set_off _ _ _ _ (by omega)).trans ((set_off _ _ _ _ (by omega)).trans H4.out),by rw [HE.out];exact set_at (set_at H5.out 2 _) 3 _,(set_off _ _ _ _ (by omega)).trans ((set_off _ _ _ _ (by omega)).trans HI.out)⟩
      case measure=>rw [HL.out,left_at ((set_off _ _ _ _ (by omega)).trans ((set_off _ _ _ _ (by omega)).trans HI.out))];omega
    ·have HE:Hid (rdTo s (k+1)=(2,fr,nm,t,r,s.extract fr.toNat (k+1),rs,mo,pa)):=by show _=_;rw [HS.out];simp [rdStep,h47]
     clear HS o9 o10
     go_wp2
     go_roundw
     case rel=>exact⟨k+1,by omega,by rw [HE.out],by rw [HE.out],HB.out.setCell (by simp) _,(set_off _ _ _ _ (by omega)).trans H4.out,by rw [HE.out];exact set_at H5.out 4 _,(set_off _ _ _ _ (by omega)).trans HI.out⟩
     case measure=>rw [HL.out,left_at ((set_off _ _ _ _ (by omega)).trans HI.out)];omega
    ·have HE:Hid (rdTo s (k+1)=(3,fr,nm,t,r,fx,s.extract fr.toNat (k+1),mo,pa)):=by show _=_;rw [HS.out];simp [rdStep,h47]
     clear HS o9 o10
     go_wp2
     go_roundw
     case rel=>exact⟨k+1,by omega,by rw [HE.out],by rw [HE.out],HB.out.setCell (by simp) _,(set_off _ _ _ _ (by omega)).trans H4.out,by rw [HE.out];exact set_at H5.out 5 _,(set_off _ _ _ _ (by omega)).trans HI.out⟩
     case measure=>rw [HL.out,left_at ((set_off _ _ _ _ (by omega)).trans HI.out)];omega
    ·have HE:Hid (rdTo s (k+1)=(4,fr,nm,t,r,fx,rs,10 * mo+(c - 48),pa)):=by show _=_;rw [HS.out];simp [rdStep,h47]
     clear HS 
     have o11:=o9 rfl h47
     clear o9 o10
     go_wp2
     go_roundw
     case rel=>exact⟨k+1,by omega,by rw [HE.out],by rw [HE.out],HB.out.setCell (by simp) _,(set_off _ _ _ _ (by omega)).trans H4.out,by rw [HE.out];exact set_at H5.out 6 _,(set_off _ _ _ _ (by omega)).trans HI.out⟩
     case measure=>rw [HL.out,left_at ((set_off _ _ _ _ (by omega)).trans HI.out)];omega
    ·have HE:Hid (rdTo s (k+1)=(5,fr,nm,t,r,fx,rs,mo,c - 48)):=by show _=_;rw [HS.out];simp [rdStep,h47]
     clear HS 
     have o11:=o10 rfl h47
     clear o9 o10
     go_wp2
     go_roundw
     case rel=>exact⟨k+1,by omega,by rw [HE.out],by rw [HE.out],HB.out.setCell (by simp) _,(set_off _ _ _ _ (by omega)).trans H4.out,by rw [HE.out];exact set_at H5.out 7 _,(set_off _ _ _ _ (by omega)).trans HI.out⟩
     case measure=>rw [HL.out,left_at ((set_off _ _ _ _ (by omega)).trans HI.out)];omega
  ·have hnx:=fun ty=>run_next_end_at (P:=Tryz.prog) _ _ s k ty hit hlt
   obtain rfl:k=s.size:=by omega
   have HF:Hid (rdF s=(rdTo s s.size).2.2):=rfl
   generalize rdTo s s.size=x at *
   obtain⟨col,fr,nm,t,r,fx,rs,mo,pa⟩:=x
   obtain⟨hc,hf⟩:=one_block h5
   obtain⟨gc,gf⟩:=one_block h4
   have c0:=hc 0
   have c1:=hc 1
   have c2:=hc 2
   have c3:=hc 3
   have c4:=hc 4
   have c5:=hc 5
   have c6:=hc 6
   have c7:=hc 7
   have d0:=gc 0
   have d1:=gc 1
   have d2:=gc 2
   have d3:=gc 3
   have d4:=gc 4
   have d5:=gc 5
   have d6:=gc 6
   have d7:=gc 7
   unfold frmCells at c0 c1 c2 c3 c4 c5 c6 c7
   unfold frmCells noFrm at d0 d1 d2 d3 d4 d5 d6 d7
   have HB:Hid (Below w.heap.size w wr):=hb
   have H4:Hid (wr.heap[w.heap.size]?=some (.cells (frmCells 0 noFrm) 136 (0,0))):=h4
   clear hc gc h4 h5 hit hl0 hb
   go_wp2
   have hx:=eight_set H4.out (.int .u16 n) (.string nm) (.bool t) (.bool r) (.string fx) (.string rs) (.int .i64 mo) (.int .u8 pa)
   have hy:=eight_below wr w.heap.size (.int .u16 n) (.string nm) (.bool t) (.bool r) (.string fx) (.string rs) (.int .i64 mo) (.int .u8 pa)
   obtain⟨xc,xf⟩:=one_block hx
   have x0:=xc 0
   have x1:=xc 1
   have x2:=xc 2
   have x3:=xc 3
   have x4:=xc 4
   have x5:=xc 5
   have x6:=xc 6
   have x7:=xc 7
   clear hx xc d0 d1 d2 d3 d4 d5 d6 d7 c0 c1 c2 c3 c4 c5 c6 c7 gf hf xf
   generalize hZ:((((((((wr.setCell ⟨w.heap.size,0,none⟩ (.int .u16 n)).setCell ⟨w.heap.size,1,none⟩ (.string nm)).setCell ⟨w.heap.size,2,none⟩ (.bool t)).setCell ⟨w.heap.size,3,none⟩ (.bool r)).setCell ⟨w.heap.size,4,none⟩ (.string fx)).setCell ⟨w.heap.size,5,none⟩ (.string rs)).setCell ⟨w.heap.size,6,none⟩ (.int .i64 mo)).setCell ⟨w.heap.size,7,none⟩ (.int .u8 pa))=Z at *
   exact bodyPost_ret (v:=formV n (nm,t,r,fx,rs,mo,pa)) (by simp [results,Tryz.results81,go_sem,formV,x0,x1,x2,x3,x4,x5,x6,x7]) rfl ⟨by rw [HF.out],HB.out.trans hy⟩
end Go.Proofs.YtonhnflilfjkbaaGreatDoor
namespace Go.Proofs.YtonhnflilfjkbaaGreatDoor
open Go.RowKit
set_option maxRecDepth 10000
set_option linter.unusedVariables false
set_option linter.unusedSimpArgs false
theorem formText_any (n:Int) (w:World):Calls Tryz.prog 80 #[.int .u16 n] w fun e w'=>e=.returned (.string (ftxt n))∧w=w':=by
 by_cases h1:n<41
 ·have e:ftxt n=lookT namingT n:=by unfold ftxt;rw [if_pos h1]
  go_enter Tryz.func80,Tryz.ntmps80
  go_wp2_with (go_at_call 119;refine (namingText_any _ _).mono ?_;rintro e w' ⟨rfl,rfl⟩)
  go_ret
  exact⟨by rw [e];rfl,rfl⟩
 ·by_cases h2:n<124
  ·have e:ftxt n=lookT makingT n:=by unfold ftxt;rw [if_neg h1,if_pos h2]
   go_enter Tryz.func80,Tryz.ntmps80
   go_wp2_with (go_at_call 120;refine (makingText_any _ _).mono ?_;rintro e w' ⟨rfl,rfl⟩)
   go_ret
   exact⟨by rw [e];rfl,rfl⟩
  ·by_cases h3:n<164
   ·have e:ftxt n=lookT countingT n:=by unfold ftxt;rw [if_neg h1,if_neg h2,if_pos h3]
    go_enter Tryz.func80,Tryz.ntmps80
    go_wp2_with (go_at_call 121;refine (countingText_any _ _).mono ?_;rintro e w' ⟨rfl,rfl⟩)
    go_ret
    exact⟨by rw [e];rfl,rfl⟩
   ·by_cases h4:n<194
    ·have e:ftxt n=lookT comparingT n:=by unfold ftxt;rw [if_neg h1,if_neg h2,if_neg h3,if_pos h4]
     go_enter Tryz.func80,Tryz.ntmps80
     go_wp2_with (go_at_call 122;refine (comparingText_any _ _).mono ?_;rintro e w' ⟨rfl,rfl⟩)
     go_ret
     exact⟨by rw [e];rfl,rfl⟩
    ·by_cases h5:n<245
     ·have e:ftxt n=lookT bitT n:=by unfold ftxt;rw [if_neg h1,if_neg h2,if_neg h3,if_neg h4,if_pos h5]
      go_enter Tryz.func80,Tryz.ntmps80
      go_wp2_with (go_at_call 123;refine (bitText_any _ _).mono ?_;rintro e w' ⟨rfl,rfl⟩)
      go_ret
      exact⟨by rw [e];rfl,rfl⟩
     ·have e:ftxt n=lookT flowT n:=by unfold ftxt;rw [if_neg h1,if_neg h2,if_neg h3,if_neg h4,if_neg h5]
      go_enter Tryz.func80,Tryz.ntmps80
      go_wp2_with (go_at_call 124;refine (flowText_any _ _).mono ?_;rintro e w' ⟨rfl,rfl⟩)
      go_ret
      exact⟨by rw [e];rfl,rfl⟩
/-! ### the two tables are one -/

theorem lookF_true:∀ {l:List (Int×Frm)} {n:Int},(lookF l n).2=true→(n,(lookF l n).1)∈l
 | [],n,h=>by cases h
 | (k,s) :: l,n,h=>by
  rw [lookF] at h ⊢
  split at h
  ·rename_i e;subst e;rw [if_pos rfl];exact List.mem_cons_self
  ·rename_i e;rw [if_neg e];exact List.mem_cons_of_mem _ (lookF_true h)
theorem lookF_false:∀ {l:List (Int×Frm)} {n:Int},(lookF l n).2=false→lookF l n=(noFrm,false)∧∀ k s,(k,s)∈l→n≠k
 | [],n,h=>⟨rfl,fun _ _ hm=>by cases hm⟩
 | (k,s) :: l,n,h=>by
  rw [lookF] at h ⊢
  split at h
  ·cases h
  ·rename_i e
   rw [if_neg e]
   refine⟨(lookF_false h).1,fun k' s' hm=>?_⟩
   rcases List.mem_cons.1 hm with e' | hm
   ·cases e';exact e
   ·exact (lookF_false h).2 k' s' hm
def rowOk (p:Int×Frm):Bool:=goodT (ftxt p.1) && decide ((ftxt p.1).size≤1000) && decide ((ftxt p.1).size≠0) && decide (rdF (ftxt p.1)=p.2)
theorem rows_ok:refT.all rowOk=true:=by decide +kernel
def keyIn (t:List (Int×ByteArray)):Bool:=t.all fun p=>refT.any fun q=>decide (q.1=p.1)
theorem keys_in:(keyIn namingT && keyIn makingT && keyIn countingT && keyIn comparingT && keyIn bitT && keyIn flowT)=true:=by decide +kernel
theorem key_none {t:List (Int×ByteArray)} (h:keyIn t=true) {n:Int} (hn:∀ k s,(k,s)∈refT→n≠k):lookT t n=⟨#[]⟩:=lookT_none fun k s hm e=>by
 have:=List.all_eq_true.1 h (k,s) hm
 obtain⟨q,hq,e2⟩:=List.any_eq_true.1 this
 exact hn q.1 q.2 hq (by rw [e];exact (of_decide_eq_true e2).symm)
theorem ftxt_ok (n:Int):goodT (ftxt n)=true∧(ftxt n).size≤1000∧rdF (ftxt n)=(lookF refT n).1∧((lookF refT n).2=true→(ftxt n).size≠0)∧((lookF refT n).2=false→ftxt n=⟨#[]⟩):=by
 cases h:(lookF refT n).2
 ·obtain⟨h1,h2⟩:=lookF_false h
  have hk:=keys_in
  simp only [Bool.and_eq_true] at hk
  obtain⟨⟨⟨⟨⟨k1,k2⟩,k3⟩,k4⟩,k5⟩,k6⟩:=hk
  have e:ftxt n=⟨#[]⟩:=by
   unfold ftxt
   rw [key_none k1 h2,key_none k2 h2,key_none k3 h2,key_none k4 h2,key_none k5 h2,key_none k6 h2]
   simp
  rw [e,h1]
  exact⟨by decide +kernel,by decide,by decide +kernel,fun h=>(by cases h),fun _=>rfl⟩
 ·have hm:=lookF_true h
  have hr:=List.all_eq_true.1 rows_ok _ hm
  simp only [rowOk,Bool.and_eq_true,decide_eq_true_eq] at hr
  obtain⟨⟨⟨r1,r2⟩,r3⟩,r4⟩:=hr
  exact⟨r1,r2,r4,fun _=>r3,fun h=>by cases h⟩
theorem readForm_op (n:Int) (w:World):Calls Tryz.prog 81 #[.int .u16 n,.string (ftxt n)] w fun e w'=>e=.returned (formV n (lookF refT n).1)∧Below w.heap.size w w':=by
 obtain⟨h1,h2,h3,_,_⟩:=ftxt_ok n
 rw [← h3]
 exact readForm_any n (ftxt n) w h1 h2
theorem bytes_empty (s:ByteArray) (h:s.size≠0):(s.toList==([]:List UInt8))=false:=by
 rw [ByteArray.toList_eq]
 cases e:s.data.toList with
 | nil=>exfalso;apply h;show s.data.size=0;rw [← Array.length_toList,e];rfl
 | cons a l=>rfl
set_option maxHeartbeats 1000000 in
theorem of_any (n:Int) (w:World):Calls Tryz.prog 47 #[.int .u16 n] w fun e w'=>e=.returned (.tuple #[ofV n,.bool (lookF refT n).2])∧Below w.heap.size w w':=by
 obtain⟨_,_,_,h4,h5⟩:=ftxt_ok n
 cases h:(lookF refT n).2
 ·have e:=h5 h
  have hT:=fun w=>formText_any n w
  rw [e] at hT
  have HO:Hid (ofV n=formV 0 noFrm):=by show _=_;unfold ofV;rw [h];rfl
  clear h4 h5 e h
  go_enter Tryz.func47,Tryz.ntmps47
  go_wp2_with (go_at_call 80;refine (hT _).mono ?_;rintro e w' ⟨rfl,rfl⟩)
  rw [HO.out]
  exact bodyPost_ret (v:=.tuple #[formV 0 noFrm,.bool false]) (by simp [results,Tryz.results47,go_sem,formV,noFrm]) rfl ⟨rfl,(Below.refl _ _).alloc (Nat.le_refl _) _⟩
 ·have e:=bytes_empty _ (h4 h)
  have HO:Hid (ofV n=formV n (lookF refT n).1):=by show _=_;unfold ofV;rw [h];rfl
  have hT:=fun w=>formText_any n w
  have hR:=fun w=>readForm_op n w
  clear h4 h5 h
  generalize ftxt n=s at *
  generalize (lookF refT n).1=f at *
  go_enter Tryz.func47,Tryz.ntmps47
  go_wp2_with (go_at_call 80;refine (hT _).mono ?_;rintro e w' ⟨rfl,rfl⟩)
  refine (hR _).mono ?_
  rintro e w1 ⟨rfl,hb⟩
  have hB:=(hb.block w.heap.size (by simp)).trans (alloc_new w _ _)
  have hbw:Below w.heap.size w w1:=((Below.refl _ w).alloc (Nat.le_refl _) _).trans (hb.mono (by simp))
  have HB:Hid (w1.heap[w.heap.size]?=some (.cells (frmCells 0 noFrm) 66 (0,0))):=hB
  obtain⟨d0,d1,d2,d3,d4,d5,d6,d7,df⟩:=frm_cells (n:=0) (f:=noFrm) hB
  unfold noFrm at d1 d2 d3 d4 d5 d6 d7
  clear hB hb hT hR
  obtain⟨nm,t,r,fx,rs,mo,pa⟩:=f
  unfold formV
  go_wp2
  have hx:=eight_set HB.out (.int .u16 n) (.string nm) (.bool t) (.bool r) (.string fx) (.string rs) (.int .i64 mo) (.int .u8 pa)
  have hy:=eight_below w1 w.heap.size (.int .u16 n) (.string nm) (.bool t) (.bool r) (.string fx) (.string rs) (.int .i64 mo) (.int .u8 pa)
  obtain⟨x0,x1,x2,x3,x4,x5,x6,x7,xf⟩:=frm_cells (n:=n) (f:=(nm,t,r,fx,rs,mo,pa)) hx
  clear hx d0 d1 d2 d3 d4 d5 d6 d7 df xf
  generalize ((((((((w1.setCell ⟨w.heap.size,0,none⟩ (.int .u16 n)).setCell ⟨w.heap.size,1,none⟩ (.string nm)).setCell ⟨w.heap.size,2,none⟩ (.bool t)).setCell ⟨w.heap.size,3,none⟩ (.bool r)).setCell ⟨w.heap.size,4,none⟩ (.string fx)).setCell ⟨w.heap.size,5,none⟩ (.string rs)).setCell ⟨w.heap.size,6,none⟩ (.int .i64 mo)).setCell ⟨w.heap.size,7,none⟩ (.int .u8 pa))=Z at *
  exact bodyPost_ret (v:=.tuple #[formV n (nm,t,r,fx,rs,mo,pa),.bool true]) (by simp [results,Tryz.results47,go_sem,formV,x0,x1,x2,x3,x4,x5,x6,x7]) rfl ⟨by rw [HO.out],hbw.trans hy⟩
def shortF (f:Frm):Bool:=decide (f.2.2.2.1.size≤1000) && decide (f.2.2.2.2.1.size≤1000) && decide (0≤f.2.2.2.2.2.1) && decide (f.2.2.2.2.2.1≤1000)
def mayB (f:Frm) (b:Int):Bool:=if f.2.2.2.2.1.size=0 then false else if f.2.2.2.2.2.1=0 then true else decide (b / f.2.2.2.2.1.size<f.2.2.2.2.2.1)
def letterI (f:Frm) (i:Int):Int :=
 if i<0 then 0 else if i<f.2.2.2.1.size then sgn f.2.2.2.1 i.toNat else if mayB f (i - f.2.2.2.1.size) then sgn f.2.2.2.2.1 ((i - f.2.2.2.1.size) % f.2.2.2.2.1.size).toNat else 0
theorem noLetter_any (p:Value) (i:Int) (w:World):Calls Tryz.prog 158 #[p,.int .i64 i] w fun e w'=>e=.returned (.int .u8 0)∧w=w':=by
 go_enter Tryz.func158,Tryz.ntmps158
 go_wp2
 go_ret
 exact⟨rfl,rfl⟩
theorem fixedLetter_any (B:Nat) (n:Int) (f:Frm) (i:Int) (w:World) (h:w.heap[B]?=some (.cells (frmCells n f) 136 (0,0))) (h0:0≤i) (h1:i<f.2.2.2.1.size) (hs:f.2.2.2.1.size≤1000) :
  Calls Tryz.prog 159 #[.pointer (some ⟨B,0,none⟩),.int .i64 i] w fun e w'=>e=.returned (.int .u8 (sgn f.2.2.2.1 i.toNat))∧w=w':=by
 obtain⟨d0,d1,d2,d3,d4,d5,d6,d7,df⟩:=frm_cells h
 obtain⟨nm,t,r,fx,rs,mo,pa⟩:=f
 simp only at *
 obtain⟨k,rfl⟩:=Int.eq_ofNat_of_zero_le h0
 have hk:k<fx.size:=by omega
 have hsg:=sgn_at fx k hk
 clear h d0 d1 d2 d3 d5 d6 d7 df
 go_enter Tryz.func159,Tryz.ntmps159
 go_wp2
 go_ret
 exact⟨rfl,rfl⟩
theorem wrapI (x:Int) (h0:-9223372036854775808≤x) (h1:x<9223372036854775808):IntKind.i64.wrap x=x:=by rw [IntKind.wrap_i64];omega
theorem string_some (s:ByteArray) (h:s.size≠0):(s.toList==([]:List UInt8))=false:=bytes_empty s h
theorem string_none (s:ByteArray) (h:s.size=0):(s.toList==([]:List UInt8))=true:=by
 rw [ByteArray.toList_eq]
 have:s.data.toList=[]:=by rw [← List.length_eq_zero_iff,Array.length_toList];exact h
 rw [this];rfl
theorem mayFollow_any (B:Nat) (n:Int) (f:Frm) (b:Int) (w:World) (h:w.heap[B]?=some (.cells (frmCells n f) 136 (0,0))) (h0:0≤b) (h1:b<9223372036854775808) (hs:shortF f=true) :
  Calls Tryz.prog 160 #[.pointer (some ⟨B,0,none⟩),.int .i64 b] w fun e w'=>e=.returned (.bool (mayB f b))∧∃ q,w'=w.drewN q:=by
 obtain⟨d0,d1,d2,d3,d4,d5,d6,d7,df⟩:=frm_cells h
 obtain⟨nm,t,r,fx,rs,mo,pa⟩:=f
 simp only [shortF,Bool.and_eq_true,decide_eq_true_eq] at hs
 obtain⟨⟨⟨s1,s2⟩,s3⟩,s4⟩:=hs
 simp only at *
 clear h d0 d1 d2 d3 d4 d7 df
 by_cases hr:rs.size=0
 ·have e:=string_none rs hr
  have HM:Hid (mayB (nm,t,r,fx,rs,mo,pa) b=false):=by show _=_;simp [mayB,hr]
  clear hr
  go_enter Tryz.func160,Tryz.ntmps160
  go_wp2
  go_ret
  exact⟨by rw [HM.out];rfl,0,rfl⟩
 ·have e:=string_some rs hr
  by_cases hm:mo=0
  ·subst hm
   have HM:Hid (mayB (nm,t,r,fx,rs,0,pa) b=true):=by show _=_;simp [mayB,hr]
   clear hr s3 s4
   go_enter Tryz.func160,Tryz.ntmps160
   go_wp2
   go_quiet (fail)
   go_wp2
   go_ret
   exact⟨by rw [HM.out];rfl,_,rfl⟩
  ·have hm':(mo==0)=false:=by simpa using hm
   have HM:Hid (mayB (nm,t,r,fx,rs,mo,pa) b=decide (b / (rs.size:Int)<mo)):=by show _=_;simp [mayB,hr,hm]
   have hr0:(0:Int)<(rs.size:Int):=by omega
   have hq0:0≤b / (rs.size:Int):=Int.ediv_nonneg h0 (by omega)
   have hq1:b / (rs.size:Int)≤b:=Int.ediv_le_self _ h0
   have ht:Int.tdiv b (rs.size:Int)=b / (rs.size:Int):=Int.tdiv_eq_ediv_of_nonneg h0
   have hw:IntKind.i64.wrap (b / (rs.size:Int))=b / (rs.size:Int):=wrapI _ (by omega) (by omega)
   have hz:¬ (rs.size:Int)=0:=by omega
   go_enter Tryz.func160,Tryz.ntmps160
   go_wp2
   go_quiet (fail)
   go_wp2
   go_ret
   exact⟨by rw [HM.out];rfl,_,rfl⟩
theorem restLetter_any (B:Nat) (n:Int) (f:Frm) (i:Int) (w:World) (h:w.heap[B]?=some (.cells (frmCells n f) 136 (0,0))) (h0:(f.2.2.2.1.size:Int)≤i) (h1:i<9223372036854775808) (hs:shortF f=true) (hr:f.2.2.2.2.1.size≠0) :
  Calls Tryz.prog 161 #[.pointer (some ⟨B,0,none⟩),.int .i64 i] w fun e w'=>e=.returned (.int .u8 (sgn f.2.2.2.2.1 ((i - f.2.2.2.1.size) % f.2.2.2.2.1.size).toNat))∧∃ q,w'=w.drewN q:=by
 obtain⟨d0,d1,d2,d3,d4,d5,d6,d7,df⟩:=frm_cells h
 obtain⟨nm,t,r,fx,rs,mo,pa⟩:=f
 simp only [shortF,Bool.and_eq_true,decide_eq_true_eq] at hs
 obtain⟨⟨⟨s1,s2⟩,s3⟩,s4⟩:=hs
 simp only at *
 clear h d0 d1 d2 d3 d6 d7 df s3 s4
 have hr0:(0:Int)<(rs.size:Int):=by omega
 have hz:¬ (rs.size:Int)=0:=by omega
 have hb0:0≤i - (fx.size:Int):=by omega
 have hw1:IntKind.i64.wrap (i - (fx.size:Int))=i - (fx.size:Int):=wrapI _ (by omega) (by omega)
 have ht:Int.tmod (i - (fx.size:Int)) (rs.size:Int)=(i - (fx.size:Int)) % (rs.size:Int):=Int.tmod_eq_emod_of_nonneg hb0
 have hq0:0≤(i - (fx.size:Int)) % (rs.size:Int):=Int.emod_nonneg _ hz
 have hq1:(i - (fx.size:Int)) % (rs.size:Int)<(rs.size:Int):=Int.emod_lt_of_pos _ hr0
 have hw2:IntKind.i64.wrap ((i - (fx.size:Int)) % (rs.size:Int))=(i - (fx.size:Int)) % (rs.size:Int):=wrapI _ (by omega) (by omega)
 obtain⟨k,hk⟩:=Int.eq_ofNat_of_zero_le hq0
 rw [hk] at ht hq1 hw2 ⊢
 have hkl:k<rs.size:=by omega
 have hsg:=sgn_at rs k hkl
 clear hk hq0
 go_enter Tryz.func161,Tryz.ntmps161
 go_wp2
 go_quiet (fail)
 go_wp2
 go_ret
 exact⟨rfl,_,rfl⟩
def tellerN (f:Frm) (i:Int):Nat:=if i<0 then 158 else if i<f.2.2.2.1.size then 159 else if mayB f (i - f.2.2.2.1.size) then 161 else 158
theorem teller_any (B:Nat) (n:Int) (f:Frm) (i:Int) (w:World) (h:w.heap[B]?=some (.cells (frmCells n f) 136 (0,0))) (h1:i<9223372036854775808) (hs:shortF f=true) :
  Calls Tryz.prog 137 #[.pointer (some ⟨B,0,none⟩),.int .i64 i] w fun e w'=>e=.returned (.func (.func (tellerN f i)) #[.pointer (some ⟨B,0,none⟩)] #[])∧∃ q,w'=w.drewN q:=by
 have HM:Hid (∀ b:Int,0≤b→b<9223372036854775808→_):=fun (b:Int) (h0:0≤b) (h1:b<9223372036854775808)=>mayFollow_any B n f b w h h0 h1 hs
 obtain⟨d0,d1,d2,d3,d4,d5,d6,d7,df⟩:=frm_cells h
 have hs2:=hs
 simp only [shortF,Bool.and_eq_true,decide_eq_true_eq] at hs
 obtain⟨⟨⟨s1,s2⟩,s3⟩,s4⟩:=hs
 clear h d0 d1 d2 d3 d5 d6 d7 df
 by_cases hi:i<0
 ·have HE:Hid (tellerN f i=158):=by show _=_;unfold tellerN;rw [if_pos hi]
  clear hs2
  go_enter Tryz.func137,Tryz.ntmps137
  go_wp2
  go_ret
  exact⟨by rw [HE.out];rfl,0,rfl⟩
 ·by_cases hx:i<f.2.2.2.1.size
  ·have HE:Hid (tellerN f i=159):=by show _=_;unfold tellerN;rw [if_neg hi,if_pos hx]
   clear hs2
   go_enter Tryz.func137,Tryz.ntmps137
   go_wp2
   go_ret
   exact⟨by rw [HE.out];rfl,0,rfl⟩
  ·have hc:=HM.out (i - f.2.2.2.1.size) (by omega) (by omega)
   have HE:Hid (tellerN f i=if mayB f (i - f.2.2.2.1.size) then 161 else 158):=by show _=_;unfold tellerN;rw [if_neg hi,if_neg hx]
   clear hs2 HM
   cases hb:mayB f (i - f.2.2.2.1.size)
   all_goals
    rw [hb] at hc HE
    clear hb
    go_enter Tryz.func137,Tryz.ntmps137
    go_wp2_with fail
    refine hc.mono ?_
    rintro e w' ⟨rfl,q,rfl⟩
    clear hc
    go_wp2
    go_ret
    exact⟨by rw [HE.out];rfl,q,rfl⟩
theorem letter_any (B:Nat) (n:Int) (f:Frm) (i:Int) (w:World) (h:w.heap[B]?=some (.cells (frmCells n f) 136 (0,0))) (h1:i<9223372036854775808) (hs:shortF f=true) :
  Calls Tryz.prog 93 #[.pointer (some ⟨B,0,none⟩),.int .i64 i] w fun e w'=>e=.returned (.int .u8 (letterI f i))∧∃ q,w'=w.drewN q:=by
 have hT:=teller_any B n f i w h h1 hs
 have hK:∀ q,Calls Tryz.prog (tellerN f i) #[.pointer (some ⟨B,0,none⟩),.int .i64 i] (w.drewN q) fun e w'=>e=.returned (.int .u8 (letterI f i))∧∃ q',w'=w.drewN q':=by
  intro q
  have hq:(w.drewN q).heap[B]?=some (.cells (frmCells n f) 136 (0,0)):=h
  have hsz:f.2.2.2.1.size≤1000:=by simp only [shortF,Bool.and_eq_true,decide_eq_true_eq] at hs;omega
  unfold tellerN letterI
  by_cases hi:i<0
  ·rw [if_pos hi,if_pos hi]
   exact (noLetter_any _ _ _).mono fun e w' he=>⟨he.1,q,he.2.symm⟩
  ·rw [if_neg hi,if_neg hi]
   by_cases hx:i<f.2.2.2.1.size
   ·rw [if_pos hx,if_pos hx]
    exact (fixedLetter_any B n f i _ hq (by omega) hx hsz).mono fun e w' he=>⟨he.1,q,he.2.symm⟩
   ·rw [if_neg hx,if_neg hx]
    cases hb:mayB f (i - f.2.2.2.1.size)
    ·simp only [Bool.false_eq_true,if_false]
     exact (noLetter_any _ _ _).mono fun e w' he=>⟨he.1,q,he.2.symm⟩
    ·simp only [if_true]
     have hr:f.2.2.2.2.1.size≠0:=fun e=>by unfold mayB at hb;rw [if_pos e] at hb;cases hb
     refine (restLetter_any B n f i _ hq (by omega) h1 hs hr).mono ?_
     rintro e w' ⟨rfl,q',rfl⟩
     exact⟨rfl,q+q',by rw [World.drewN_drewN]⟩
 have hne:∀ args w,(callFunc (tellerN f i) args).run Tryz.prog w=.ok (.enter (tellerN f i) args) w:=by
  intro args w
  unfold tellerN
  split
  ·kernel_rfl
  ·split
   ·kernel_rfl
   ·split
    ·kernel_rfl
    ·kernel_rfl
 generalize letterI f i=x at *
 generalize tellerN f i=g at *
 clear h hs
 go_enter Tryz.func93,Tryz.ntmps93
 go_wp2_with fail
 refine hT.mono ?_
 rintro e w' ⟨rfl,q,rfl⟩
 clear hT
 go_wp2_with fail
 refine (hK q).mono ?_
 rintro e w' ⟨rfl,q',rfl⟩
 clear hK hne
 go_wp2
 go_ret
 exact⟨rfl,q',rfl⟩
theorem refT_short:refT.all (fun p=>shortF p.2)=true:=by decide +kernel
theorem look_short (n:Int):shortF (lookF refT n).1=true:=by
 cases h:(lookF refT n).2
 ·rw [(lookF_false h).1];decide +kernel
 ·exact List.all_eq_true.1 refT_short _ (lookF_true h)
set_option maxHeartbeats 1000000 in
theorem grammarLetter_any (n i:Int) (w:World) (h1:i<9223372036854775808) :
  Calls Tryz.prog 57 #[.int .u16 n,.int .i64 i] w fun e w'=>e=.returned (.int .u8 (letterI (lookF refT n).1 i))∧Below w.heap.size w w':=by
 have hT:=fun w=>formText_any n w
 have hR:=fun w=>readForm_op n w
 have hs:=look_short n
 generalize ftxt n=s at *
 generalize (lookF refT n).1=f at *
 have HL:Hid (∀ B w,_→_):=fun B w h=>letter_any B n f i w h h1 hs
 generalize letterI f i=x at *
 clear hs
 go_enter Tryz.func57,Tryz.ntmps57
 go_wp2_with fail
 refine (hT _).mono ?_
 rintro e w1 ⟨rfl,rfl⟩
 clear hT
 go_wp2_with fail
 refine (hR _).mono ?_
 rintro e w1 ⟨rfl,hb⟩
 clear hR
 have HC:Hid (formV n f=.agg (frmCells n f)):=rfl
 obtain⟨nm,t,r,fx,rs,mo,pa⟩:=f
 unfold formV
 go_wp2_with fail
 refine (HL.out _ _ (alloc_new w1 _ _)).mono ?_
 rintro e w2 ⟨rfl,q,rfl⟩
 go_wp2
 go_ret
 exact⟨rfl,bel_drewN (hb.alloc hb.size _) q⟩
def nmCells (x:Int×Int×ByteArray):List Value:=[.int .u8 x.1,.int .u32 x.2.1,.string x.2.2]
def nmRow (top:Nat):List Oper→Option (Int×Int×ByteArray)
 | [⟨some a,.move (.tmp 1),_,_,_,none⟩,⟨some b,.build T ⟨[(0,.const (.int .u8 l)),(1,.const (.int .u32 k)),(2,.const (.string s))]⟩,_,_,_,none⟩,⟨some c,.buildSlice S 1 ⟨[(0,.tmp b')]⟩,_,_,_,none⟩,⟨some d,.call ⟨.builtin .append,⟨[.tmp a',.tmp c']⟩,⟨[S1,S2]⟩⟩,_,_,_,none⟩,⟨some 1,.assign (.tmp d'),_,_,_,none⟩] =>
  if T=178∧S=175∧S1=175∧S2=175∧a'=a∧b'=b∧c'=c∧d'=d∧2≤a∧a<b∧b<c∧c<d∧d<top then some (l,k,s) else none
 | _=>none
theorem wp_nmRow {top:Nat} {ops:Array Oper} {x:Int×Int×ByteArray} (h:nmRow top ops.toList=some x) {id:Nat} {Q:Exit→Act→World→Prop} {a:Act} {w:World} (hs:a.tmps.size=top) {base:Nat} {v:Value} {n:Nat} {xs:List Value} (h1:a.tmps.getD 1 undef=v)
  (hown:w.ownsRow base 178 3 v n xs) (hn:n≤1000) (hbase:base≤w.heap.size)
  (hQ:∀ a' w' v',a'.tmps.size=top→a'.defers=a.defers→a'.tmps.getD 1 undef=v'→w'.ownsRow base 178 3 v' (n+1) (xs++nmCells x)→Below base w w'→Q .normal a' w'):(Code.region id ops false).wp Tryz.prog Q a w:=by
 refine wp_region_list ?_
 generalize ops.toList=l at *
 unfold nmRow at h
 split at h
 case h_2=>cases h
 rename_i r1 y1 y2 y3 r2 T l1 k1 s1 y4 y5 y6 r3 S b' y7 y8 y9 r4 a' c' S1 S2 y10 y11 y12 d' y13 y14 y15
 split at h
 case isFalse=>cases h
 rename_i hh
 obtain⟨rfl,rfl,rfl,rfl,rfl,rfl,rfl,rfl,q1,q2,q3,q4,q5⟩:=hh
 cases h
 have q1:(2:Nat)≤a':=q1
 have q2:@LT.lt Nat _ a' b':=q2
 have q3:@LT.lt Nat _ b' c':=q3
 have q4:@LT.lt Nat _ c' d':=q4
 have q5:@LT.lt Nat _ d' top:=q5
 have e1:a.tmps[1]?.getD undef=v:=by rw [← Array.getD_eq_getD_getElem?];exact h1
 refine wpList_plain rfl fun K hK=>op_value (v:=v) (by simp [execOp,go_sem,e1]) (hK _ _ ?_)
 clear hK K
 have g:∀ (t:Nat) (A:Act) (u:Value) (m:Nat),t<A.tmps.size→(A.put (some t) u).tmps[m]?.getD undef=if t=m then u else A.tmps[m]?.getD undef:=fun t A u m ht=>by
  rw [← Array.getD_eq_getD_getElem?,← Array.getD_eq_getD_getElem?,getD_put]
  by_cases e:t=m
  ·rw [if_pos ⟨e,by omega⟩,if_pos e]
  ·rw [if_neg (fun h=>e h.1),if_neg e]
 have sz:∀ (t:Nat) (A:Act) (u:Value),(A.put (some t) u).tmps.size=A.tmps.size:=fun t A u=>by simp [Act.put]
 generalize hA1:a.put (some a') v=A1
 have sA1:A1.tmps.size=top:=by rw [← hA1,sz,hs]
 have dA1:A1.defers=a.defers:=by rw [← hA1];simp [Act.put]
 have A1a:A1.tmps[a']?.getD undef=v:=by rw [← hA1,g _ _ _ _ (by omega),if_pos rfl]
 refine wpList_plain rfl fun K hK=>op_value (v:=.agg #[.int .u8 l1,.int .u32 k1,.string s1]) (by simp [execOp,go_sem]) (hK _ _ ?_)
 clear hK K
 generalize hA2:A1.put (some b') _=A2
 have sA2:A2.tmps.size=top:=by rw [← hA2,sz,sA1]
 have dA2:A2.defers=a.defers:=by rw [← hA2];simp [Act.put,dA1]
 have A2a:A2.tmps[a']?.getD undef=v:=by rw [← hA2,g _ _ _ _ (by omega),if_neg (by omega)];exact A1a
 have A2b:A2.tmps[b']?.getD undef=.agg #[.int .u8 l1,.int .u32 k1,.string s1]:=by rw [← hA2,g _ _ _ _ (by omega),if_pos rfl]
 refine wpList_plain rfl fun K hK=>op_new (v:=.slice (some ⟨w.heap.size,0,none⟩) 1 1) (w':=w.alloc (.cells #[.int .u8 l1,.int .u32 k1,.string s1] 178)) (by simp [execOp,go_sem,A2b]) (hK _ _ ?_)
 clear hK K
 generalize hA3:A2.put (some c') _=A3
 have sA3:A3.tmps.size=top:=by rw [← hA3,sz,sA2]
 have dA3:A3.defers=a.defers:=by rw [← hA3];simp [Act.put,dA2]
 have A3a:A3.tmps[a']?.getD undef=v:=by rw [← hA3,g _ _ _ _ (by omega),if_neg (by omega)];exact A2a
 have A3c:A3.tmps[c']?.getD undef=.slice (some ⟨w.heap.size,0,none⟩) 1 1:=by rw [← hA3,g _ _ _ _ (by omega),if_pos rfl]
 obtain⟨i0,hi,hz,hz1,hz2,hz3⟩:∃ i0,Tryz.prog.info? 178=some i0∧i0.zero=some (.agg #[.int .u8 0,.int .u32 0,.string ⟨#[]⟩])∧i0.size=3∧i0.bytes=24∧(Value.agg #[.int .u8 0,.int .u32 0,.string ⟨#[]⟩]).cells.size=3:=⟨_,rfl,rfl,rfl,rfl,rfl⟩
 refine wpList_append_own _ rfl (.tmp a') (.tmp c') 175 rfl base 178 i0 _ 3 24 Tryz.underlying175 hi hz hz1 hz2 hz3 (by omega) v n xs ?_ (hown.alloc _) ⟨w.heap.size,0,none⟩ 1 1 [.int .u8 l1,.int .u32 k1,.string s1] ?_ rfl ?_ (by simp [Value.oneCell']) (by unfold maxLen;omega) (by omega) (by simp;omega) ?_
 ·rw [← A3a];exact Array.getD_eq_getD_getElem?
 ·rw [← A3c];exact Array.getD_eq_getD_getElem?
 ·exact World.news_of_block (cs:=#[.int .u8 l1,.int .u32 k1,.string s1]) (t:=178) (fr:=(0,0)) (heap_alloc_new w _)
 intro v' w' hown' hgr _
 generalize hA4:A3.put _ v'=A4
 have hA4:A3.put (some d') v'=A4:=hA4
 have sA4:A4.tmps.size=top:=by rw [← hA4,sz,sA3]
 have dA4:A4.defers=a.defers:=by rw [← hA4];simp [Act.put,dA3]
 have A4d:A4.tmps[d']?.getD undef=v':=by rw [← hA4,g _ _ _ _ (by omega),if_pos rfl]
 refine wpList_plain rfl fun K hK=>op_value (v:=v') (by simp [execOp,go_sem,A4d]) (hK _ _ (wpList_nil ?_))
 clear hK K
 refine hQ _ _ v' (by rw [← sA4];exact sz 1 _ _) (by rw [← dA4];simp [Act.put]) ?_ hown' ?_
 ·rw [Array.getD_eq_getD_getElem?,g 1 _ _ _ (by omega),if_pos rfl]
 ·refine ((Below.refl base w).alloc hbase _).grown hgr (by simp;omega) (fun k hk=>(hown.lt k hk).1)
def nmRows (top:Nat):Nat→Code→Option (List (Int×Int×ByteArray))
 | 0,_=>none
 | fuel+1,c=>match c with
  | .seq (.region _ ops false) rest =>
   match nmRow top ops.toList with
   | some x=>(match nmRows top fuel rest with | some l=>some (x :: l) | none=>none)
   | none=>(match ops.toList,rest with
    | [⟨some m,.move (.tmp 1),_,_,_,none⟩,⟨some 0,.assign (.tmp m'),_,_,_,none⟩],.ret=>if m'=m∧2≤m∧m<top then some [] else none
    | _,_=>none)
  | _=>none
theorem wp_nmRows {top base:Nat} {Q:Exit→Act→World→Prop}:∀ (fuel:Nat) (c:Code) (l:List (Int×Int×ByteArray)) (a:Act) (w:World) (v:Value) (n:Nat) (xs:List Value),nmRows top fuel c=some l→a.tmps.size=top→a.tmps.getD 1 undef=v→w.ownsRow base 178 3 v n xs→n+l.length≤1000→base≤w.heap.size →
  (∀ a' w' v',a'.tmps.size=top→a'.defers=a.defers→a'.tmps.getD 0 undef=v'→w'.ownsRow base 178 3 v' (n+l.length) (xs++l.flatMap nmCells)→Below base w w'→Q .ret a' w')→c.wp Tryz.prog Q a w:=by
 intro fuel
 induction fuel with
 | zero=>intro c l a w v n xs h;cases h
 | succ fuel ih =>
  intro c l a w v n xs h hs h1 hown hn hbase hQ
  rw [nmRows.eq_def] at h
  dsimp only at h
  split at h
  case h_2=>cases h
  rename_i id ops rest
  split at h
  ·rename_i x hx
   split at h
   case h_2=>cases h
   rename_i l' hl'
   cases h
   simp only [List.length_cons] at hn
   refine wp_seq (wp_nmRow hx hs h1 hown (by omega) hbase (fun a' w' v' s' d' h1' hown' hb'=>?_))
   refine ih rest l' a' w' v' (n+1) _ hl' s' h1' hown' (by omega) (Nat.le_trans hbase hb'.size) (fun a2 w2 v2 s2 d2 h2 hown2 hb2=>hQ a2 w2 v2 s2 (d2.trans d') h2 ?_ (hb'.trans hb2))
   rw [show n+(x :: l').length=n+1+l'.length by simp only [List.length_cons];omega,List.flatMap_cons,← List.append_assoc]
   exact hown2
  ·split at h
   case h_2=>cases h
   rename_i m y1 y2 y3 m' y4 y5 y6 hops
   split at h
   case isFalse=>cases h
   rename_i hm
   cases h
   obtain⟨rfl,hm2,hm3⟩:=hm
   have hm3:@LT.lt Nat _ m' top:=hm3
   have hm2:@LE.le Nat _ 2 m':=hm2
   refine wp_seq (wp_region_list ?_)
   rw [hops]
   have e1:a.tmps[1]?.getD undef=v:=by rw [← Array.getD_eq_getD_getElem?];exact h1
   refine wpList_plain rfl fun K hK=>op_value (v:=v) (by simp [execOp,go_sem,e1]) (hK _ _ ?_)
   clear hK K
   generalize hA1:a.put (some m') v=A1
   have sA1:A1.tmps.size=top:=by rw [← hA1];simp [Act.put,hs]
   have dA1:A1.defers=a.defers:=by rw [← hA1];simp [Act.put]
   have A1m:A1.tmps[m']?.getD undef=v:=by rw [← hA1,← Array.getD_eq_getD_getElem?,getD_put,if_pos ⟨rfl,by omega⟩]
   refine wpList_plain rfl fun K hK=>op_value (v:=v) (by simp [execOp,go_sem,A1m]) (hK _ _ (wpList_nil (wp_ret ?_)))
   clear hK K
   refine hQ _ w v (by simp [Act.put,sA1]) (by simp [Act.put,dA1]) ?_ (by simpa using hown) (Below.refl _ _)
   exact (getD_put A1 0 0 v).trans (if_pos ⟨rfl,by omega⟩)
set_option maxRecDepth 10000 in
theorem names_any (w:World):Calls Tryz.prog 118 #[] w fun e w'=>∃ v,e=.returned v∧w'.ownsRow w.heap.size 178 3 v namesT.length (namesT.flatMap nmCells)∧Below w.heap.size w w':=by
 refine calls_of_wp Tryz.func118 rfl ?_
 generalize ha:({ tmps:=#[]++Array.replicate (Tryz.f118.ntmps - (#[]:Array Value).size) undef,defers:=[] }:Act)=a
 have hsz:a.tmps.size=Tryz.f118.ntmps:=by rw [← ha];simp
 have had:a.defers=[]:=by rw [← ha]
 clear ha
 refine wp_seq (wp_region_lit ?_)
 refine wpList_plain rfl fun K hK=>op_value (v:=.slice none 0 0) (by simp [execOp,go_sem]) (hK _ _ (wpList_nil ?_))
 clear hK K
 refine wp_seq (wp_region_lit ?_)
 refine wpList_plain rfl fun K hK=>op_value (v:=.slice none 0 0) (by simp [execOp,go_sem]) (hK _ _ (wpList_nil ?_))
 clear hK K
 generalize hA:(a.put (some 0) (.slice none 0 0)).put (some 1) (.slice none 0 0)=A
 have sA:A.tmps.size=Tryz.f118.ntmps:=by rw [← hA];simp [Act.put,hsz]
 have dA:A.defers=[]:=by rw [← hA];simp [Act.put,had]
 have A1:A.tmps.getD 1 undef=.slice none 0 0:=by rw [← hA];exact (getD_put _ 1 1 _).trans (if_pos ⟨rfl,by simp [Act.put,hsz]⟩)
 refine wp_nmRows (base:=w.heap.size) 100 _ namesT A w _ 0 [] (by kernel_rfl) sA A1 (World.ownsRow_nil _ _ _ _) (by decide +kernel) (Nat.le_refl _) (fun a' w' v' s' d' h0 hown hb=>?_)
 rw [Nat.zero_add,List.nil_append] at hown
 exact⟨d'.trans dA,v',by rw [results_tmp rfl,h0],v',rfl,hown,hb⟩
end Go.Proofs.YtonhnflilfjkbaaGreatDoor
