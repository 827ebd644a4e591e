/-
  Texts laid together in one: GrammarFormTexts, Ref03Letter, Ref03All, Ref03Named, MathA, MathA2, MathWt, PrintSmall, Slots, PrintArgument, PrintAdd.
-/
import Derived.RangeFuncNested
import Derived.RangeFuncBound
import Derived.RangeFuncCalls
import Derived.RangeFuncLeaves
import Derived.Shelf.Abstract
import Derived.Shelf.RegionOpen
import Derived.WalkKit
import Derived.OwnWalkIn
import Derived.TacticsInMore
import Derived.LoopNIn
import Derived.LoopIn
import Derived.Test.YtddkapkkjhomkabGreatDoorM04
import Derived.WalkSpells
import Derived.WalkMore
import Derived.Deep.QuietTactic
import Derived.BigQuiet
import Derived.Laws.AppendOwn
import Derived.Deep.AppendLies
import Derived.Test.YtddkapkkjhomkabGreatDoorM03
import Derived.Test.YtddkapkkjhomkabGreatDoorM16
import Derived.Test.YtddkapkkjhomkabGreatDoorM06
import Derived.Test.YtddkapkkjhomkabGreatDoorM11
import Derived.BigRegion
import Derived.Test.YtddkapkkjhomkabGreatDoorProg
import Derived.Test.YtddkapkkjhomkabGreatDoorM05
import Derived.Test.YtddkapkkjhomkabGreatDoorM01
set_option linter.unusedVariables false
set_option linter.unusedSimpArgs false
set_option maxRecDepth 10000
namespace Go.Proofs.YtddkapkkjhomkabGreatDoor
open Go.RowKit Go.Shelf Go.Lib
attribute [local go_sem] Oper.semAt_some

def opsTo:Nat→List Nat
 | 0=>[]
 | k+1=>if (ftxt k).size=0 then opsTo k else opsTo k ++ [k]
def opsL:List Nat:=opsTo 256
theorem ops_grows (k:Nat):opsTo k <+: opsTo (k+1):=by
 rw [opsTo]
 split
 ·exact List.prefix_refl _
 ·exact ⟨_,rfl⟩
theorem ops_prefix {k m:Nat} (h:k≤m):opsTo k <+: opsTo m:=by
 obtain ⟨d,rfl⟩:=Nat.le.dest h
 clear h
 induction d with
 | zero=>exact List.prefix_refl _
 | succ d ih=>exact ih.trans (ops_grows (k+d))
def opV (x:Nat):Array Value:=#[.int .u16 x,.string (ftxt x)]
theorem formTexts_any (w:World):Calls Tryz.prog 171 #[] w fun e w'=>e=.returned (.func (.func 183) #[] #[])∧w=w':=by
 go_enter Tryz.func171,Tryz.ntmps171
 go_wp2
 go_ret
 exact ⟨rfl,rfl⟩
theorem size_beq (s:ByteArray) (h:s.size=0):(s.toList == ([]:List UInt8))=true:=by
 rw [ByteArray.toList_eq]
 have:s.data.toList=[]:=by rw [← List.length_eq_zero_iff,Array.length_toList];exact h
 rw [this];rfl
set_option maxRecDepth 100000 in
set_option maxHeartbeats 2000000 in
theorem formTexts_tells (n0:Nat) (τ:TypeId→Prop) (w:World) :
  Tells Tryz.prog 183 #[] opV (fun pre x _=>pre ++ [x] <+: opsL) n0 τ (fun xs=>xs=opsL) (fun pre=>pre <+: opsL) w:=by
 intro l J Jx W hW hJ hJx hY h0
 have HY:Hid (∀ pre x W1,J pre W1→pre ++ [x] <+: opsL→_):=hY
 clear hY hW
 refine callsIn_of_wp Tryz.func183 rfl trivial ?_ rfl
 simp only [Tryz.ntmps183,List.size_toArray,List.length_cons,List.length_nil,Nat.reduceAdd,Nat.reduceSub,Array.replicate_succ,Array.replicate_zero,List.push_toArray,List.append_toArray,List.nil_append,List.cons_append]
 gi_wp2
 gi_loopw [4] (fun i wr=>∃ k:Nat,k≤256∧i=.int .u16 k∧J (opsTo k) wr) (fun i _=>256 - (Go.RowKit.intOf i).toNat)
 case atStart=>exact ⟨0,by omega,rfl,h0⟩
 case round =>
  obtain ⟨k,hk,rfl,hJs⟩:=hrel
  clear h0
  by_cases hlt:k < 256
  ·have hlt':(k:Int) < 256:=by omega
   have hT:=fun w=>formText_any k w
   by_cases he:(ftxt k).size=0
   ·have HN:Hid (opsTo (k+1)=opsTo k):=by show _=_;rw [opsTo,if_pos he]
    have eb:=size_beq _ he
    generalize ftxt k=s at *
    have HJ:Hid (J (opsTo k) wr):=hJs
    clear he HY hJs
    gi_wp2_with fail
    refine ⟨trivial,rfl,(callsIn_wide.2 (hT _)).mono ?_⟩
    rintro e w' ⟨rfl,rfl⟩
    gi_wp2
    refine ⟨fun _ h=>(by cases h),?_⟩
    gi_wp2
    go_roundw
    case rel=>exact ⟨k+1,by omega,by go_num,by rw [HN.out];exact HJ.out⟩
    case measure=>simp [Go.RowKit.intOf];omega
   ·have HN:Hid (opsTo (k+1)=opsTo k ++ [k]):=by show _=_;rw [opsTo,if_neg he]
    have eb:=bytes_empty _ he
    have hpx:opsTo k ++ [k] <+: opsL:=by rw [← HN.out];exact ops_prefix hlt
    have HPX:Hid (opsTo k ++ [k] <+: opsL):=hpx
    obtain ⟨fn,tmps,assign,body,hy,hR⟩:=HY.out (opsTo k) k wr hJs hpx
    simp only [opV] at hy
    generalize ftxt k=s at *
    clear he HY hJs hpx
    gi_wp2_with fail
    refine ⟨trivial,rfl,(callsIn_wide.2 (hT _)).mono ?_⟩
    rintro e w' ⟨rfl,rfl⟩
    gi_wp2_with fail
    refine ⟨rfl,hR.mono ?_⟩
    rintro e W3 ⟨hkf,⟨rfl,hJ3,hk3⟩ | ⟨rfl,hJx3⟩⟩
    ·have HJ3:Hid (J (opsTo k ++ [k]) W3):=hJ3
     clear hy hR hkf hk3 hJ3 hT
     gi_wp2
     go_roundw
     case rel=>exact ⟨k+1,by omega,by go_num,by rw [HN.out];exact HJ3.out⟩
     case measure=>simp [Go.RowKit.intOf];omega
    ·clear hy hR hkf hT
     gi_wp2
     refine bodyPost_ret (results_none rfl _ _ _) rfl ?_
     exact ⟨⟨_,rfl⟩,.inr ⟨_,HPX.out,hJx3⟩⟩
  ·obtain rfl:k=256:=by omega
   have HJ:Hid (J opsL wr):=hJs
   clear hJs HY
   gi_wp2
   go_end0
   exact ⟨⟨_,rfl⟩,.inl ⟨_,rfl,HJ.out⟩⟩
end Go.Proofs.YtddkapkkjhomkabGreatDoor
namespace Go.Proofs.YtddkapkkjhomkabGreatDoor
open Go.RowKit
def opN (i:Nat):Nat:=opsL.getD i 0
def opF (k:Nat):Frm:=(lookF refT k).1
def FormsV (W:World) (v:Value):Prop:=∃ g cap,v=.slice (some ⟨g,0,none⟩) 93 cap∧g < W.heap.size∧∀ i,i < 93→(W.cell? ⟨g,i * 8,none⟩=some (.int .u16 (opN i))∧W.cell? ⟨g,i * 8+1,none⟩=some (.string (opF (opN i)).1)∧W.cell? ⟨g,i * 8+2,none⟩=some (.bool (opF (opN i)).2.1)∧W.cell? ⟨g,i * 8+3,none⟩=some (.bool (opF (opN i)).2.2.1) ∧
 W.cell? ⟨g,i * 8+4,none⟩=some (.string (opF (opN i)).2.2.2.1)∧W.cell? ⟨g,i * 8+5,none⟩=some (.string (opF (opN i)).2.2.2.2.1)∧W.cell? ⟨g,i * 8+6,none⟩=some (.int .i64 (opF (opN i)).2.2.2.2.2.1)∧W.cell? ⟨g,i * 8+7,none⟩=some (.int .u8 (opF (opN i)).2.2.2.2.2.2))
theorem FormsV.below {W W':World} {v:Value} (h:FormsV W v) (hb:Below W.heap.size W W'):FormsV W' v:=by
 obtain ⟨g,cap,e,hg,hc⟩:=h
 refine ⟨g,cap,e,Nat.lt_of_lt_of_le hg hb.size,fun i hi=>?_⟩
 have q:∀ o,W'.cell? ⟨g,o,none⟩=W.cell? ⟨g,o,none⟩:=fun o=>hb.cell (p:=⟨g,o,none⟩) hg
 simp only [q]
 exact hc i hi
def namP (s:ByteArray) (k:Nat):Bool:=(opF k).1.toList == s.toList
def namedB (s:ByteArray):Bool:=(opsL.find? (namP s)).isSome
def namedV (s:ByteArray):Value:=match opsL.find? (namP s) with | some k=>formV k (opF k) | none=>formV 0 noFrm
def takeK (c:Int):Int:=if kindI c=1 then 2 else if kindI c=2 then 3 else if kindI c=3 then 4 else if kindI c=4 then 1 else 0
def idP (s:ByteArray) (b:Int):Int:=if numB (strI s)=false then 62 else if numV (strI s)=0 ∨ b≤numV (strI s) then 43 else 0
def txtE (c:Int) (s:ByteArray) (b:Int):Int :=
 if kindI c=1 then idP s b else if kindI c=2 then numErr (strI s) else if kindI c=3 then (if nulS s then 13 else 0)
 else if kindI c=4 then (if enumNB c s then 0 else 71) else 70
def txtA (c:Int) (s:ByteArray) (b:Int):ArgT :=
 if txtE c s b≠0 then noArg
 else if kindI c=1 then (1,numV (strI s),⟨#[]⟩) else if kindI c=2 then (2,numV (strI s),⟨#[]⟩) else if kindI c=3 then (3,0,s)
 else (4,enumN c s,⟨#[]⟩)
def argE (c:Int) (t:TokT) (b:Int):Int:=if takeK c=0 ∨ t.1≠takeK c then 70 else txtE c t.2.1 b
def argA (c:Int) (t:TokT) (b:Int):ArgT:=if argE c t b≠0 then noArg else txtA c t.2.1 b
def argsN (f:Frm) (b:Int) (l:List TokT) (at_ n:Nat):List ArgT:=(List.range n).map fun (k:Nat)=>argA (letterI f k) (nthT l (at_+k)) b
def badArg (f:Frm) (b:Int) (l:List TokT) (at_:Nat):Option Nat:=(List.range (l.length - at_)).find? fun (k:Nat)=>decide (argE (letterI f k) (nthT l (at_+k)) b≠0)
abbrev LineR:=InstT × Bool × Int × Int
def noLine (e p:Int):LineR:=(noInst,false,e,p)
def lineA (o:Int) (f:Frm) (t r:Int) (l:List TokT) (at_:Nat) (len b:Int):LineR :=
 match badArg f b l at_ with
 | some k=>noLine (argE (letterI f k) (nthT l (at_+k)) b) (nthT l (at_+k)).2.2
 | none =>
  if wholeN f ((l.length - at_:Nat):Int)=false then noLine 72 len
  else if 65535 < 1+(rawL f (o,t,r,argsN f b l at_ (l.length - at_))).length then noLine 25 0
  else ((o,t,r,argsN f b l at_ (l.length - at_)),true,0,0)
def lineT (o:Int) (f:Frm) (r:Int) (l:List TokT) (at_:Nat) (len b:Int):LineR :=
 if f.2.1=false then lineA o f 0 r l at_ len b
 else if l.length≤at_ then noLine 72 len
 else if argE 105 (nthT l at_) b≠0 then noLine (argE 105 (nthT l at_) b) (nthT l at_).2.2
 else lineA o f (argA 105 (nthT l at_) b).2.1 r l (at_+1) len b
def lineO (said : Bool) (l : List TokT) (at_ : Nat) (len b : Int) : LineR :=
  if l.length ≤ at_ then noLine 72 len
  else if (nthT l at_).1 ≠ 1 then noLine 70 (nthT l at_).2.2
  else match opsL.find? (namP (nthT l at_).2.1) with
    | none => noLine 71 (nthT l at_).2.2
    | some o => if (opF o).2.2.1 ≠ said then noLine 41 (nthT l 0).2.2
      else if said = true ∧ idP (nthT l 0).2.1 b ≠ 0 then noLine (idP (nthT l 0).2.1 b) (nthT l 0).2.2
      else lineT o (opF o) (if said then numV (strI (nthT l 0).2.1) else 0) l (at_ + 1) len b
def lineP (l:List TokT) (len b:Int):LineR :=
 if (nthT l 0).1≠2 then lineO false l 0 len b
 else if l.length < 2 then noLine 72 len
 else if (nthT l 1).1≠5 then noLine 70 (nthT l 1).2.2
 else lineO true l 2 len b
theorem ops_known:opsL.all (fun k=>(lookF refT (k:Int)).2 && decide (k < 65536))=true:=by decide +kernel
theorem op_known {k:Nat} {p:Nat→Bool} (h:opsL.find? p=some k):(lookF refT (k:Int)).2=true∧k < 65536:=by
 have:=List.all_eq_true.1 ops_known k (List.mem_of_find?_eq_some h)
 simpa using this
theorem kind_zero:kindI 0=0:=by decide +kernel
theorem kind_i:kindI 105=1:=by decide +kernel
theorem take_zero:takeK 0=0:=by unfold takeK;rw [kind_zero];rfl
theorem take_i:takeK 105=2:=by unfold takeK;rw [kind_i];rfl
theorem kindI_most (c:Int):0≤kindI c∧kindI c≤4:=by unfold kindI;repeat' split <;> omega
def letOk (f:Frm):Bool:=f.2.2.2.1.data.toList.all (fun x=>decide (kindI (x.toNat:Int)≠0)) && f.2.2.2.2.1.data.toList.all (fun x=>decide (kindI (x.toNat:Int)≠0))
theorem refT_letOk:refT.all (fun p=>letOk p.2)=true:=by decide +kernel
theorem look_letOk (n:Int):letOk (lookF refT n).1=true:=by
 by_cases h:(lookF refT n).2=true
 ·exact List.all_eq_true.1 refT_letOk _ (lookF_true h)
 ·have:lookF refT n=(noFrm,false):=(lookF_false (by simpa using h)).1
  rw [this];rfl
theorem sgn_known {s:ByteArray} (h:s.data.toList.all (fun x=>decide (kindI (x.toNat:Int)≠0))=true) (k:Nat):sgn s k=0 ∨ kindI (sgn s k)≠0:=by
 unfold sgn
 by_cases hk:k < s.data.toList.length
 ·right
  have e:s.data.toList.getD k 0=s.data.toList[k]:=by rw [List.getD,List.getElem?_eq_getElem hk];rfl
  have:=List.all_eq_true.1 h _ (List.getElem_mem hk)
  rw [e];simpa using this
 ·left
  have e:s.data.toList.getD k 0=0:=by simp only [List.getD];rw [List.getElem?_eq_none (by omega)];rfl
  rw [e];rfl
theorem letter_known (n i:Int):letterI (lookF refT n).1 i=0 ∨ kindI (letterI (lookF refT n).1 i)≠0:=by
 have h:=look_letOk n
 simp only [letOk,Bool.and_eq_true] at h
 unfold letterI
 split
 ·exact .inl rfl
 ·split
  ·exact sgn_known h.1 _
  ·split
   ·exact sgn_known h.2 _
   ·exact .inl rfl
theorem names_range:namesT.all (fun x=>decide (0≤x.2.1) && decide (x.2.1 < 4294967296))=true:=by decide +kernel
theorem enum_named {c:Int} {s:ByteArray} (h:enumNB c s=true):enumB c (enumN c s)=true∧0≤enumN c s∧enumN c s < 4294967296:=by
 unfold enumNB at h
 obtain ⟨x,hx⟩:=Option.isSome_iff_exists.1 h
 have e:enumN c s=x.2.1:=by unfold enumN;rw [hx]
 have hm:=List.mem_of_find?_eq_some hx
 have hp:=List.find?_some hx
 simp only [isNam,Bool.and_eq_true,beq_iff_eq] at hp
 have hr:=List.all_eq_true.1 names_range x hm
 simp only [Bool.and_eq_true,decide_eq_true_eq] at hr
 rw [e]
 refine ⟨?_,hr.1,hr.2⟩
 unfold enumB
 rw [List.find?_isSome]
 exact ⟨x,hm,by simp [isNum,hp.1]⟩
theorem idP_zero {s:ByteArray} {b:Int} (h:idP s b=0):numB (strI s)=true∧noneB (numV (strI s)) b=false∧0 < numV (strI s)∧numV (strI s) < b:=by
 unfold idP at h
 split at h
 ·omega
 ·rename_i h0
  have hb:numB (strI s)=true:=by simpa using h0
  have:=num_bounds hb
  split at h
  ·omega
  ·rename_i h1
   refine ⟨hb,?_,by omega,by omega⟩
   simp only [noneB,Bool.or_eq_false_iff,decide_eq_false_iff_not]
   omega
theorem arg_taken {c:Int} {t:TokT} {b:Int} (h:argE c t b=0):takeK c≠0∧t.1=takeK c∧txtE c t.2.1 b=0∧argA c t b=txtA c t.2.1 b:=by
 have h':=h
 unfold argE at h
 split at h
 ·omega
 ·rename_i h0
  refine ⟨by omega,by omega,h,?_⟩
  unfold argA;rw [if_neg (by omega)]
theorem txt_right {c:Int} {s:ByteArray} {b:Int} (h:txtE c s b=0) (hc:c≠0) (hs:s.size≤140737488351232):wrongA c (txtA c s b) b=0∧(txtA c s b).1=kindI c∧ArgOk (txtA c s b):=by
 have hr:=kindI_most c
 have h1:=h
 unfold txtE at h
 unfold txtA
 rw [if_neg (by omega)]
 have es:((⟨#[]⟩:ByteArray).size == 0)=true:=rfl
 by_cases k1:kindI c=1
 ·rw [if_pos k1] at h ⊢
  obtain ⟨g1,g2,g3,g4⟩:=idP_zero h
  have gb:=num_bounds g1
  refine ⟨?_,k1.symm,⟨by simp,by simp,gb.1,gb.2,by show (0:Nat)≤_;omega⟩⟩
  simp [wrongA,mayStandB,hc,k1,faultW,g2];rfl
 ·rw [if_neg k1] at h ⊢
  by_cases k2:kindI c=2
  ·rw [if_pos k2] at h ⊢
   have gb:=num_bounds (numErr_zero h)
   refine ⟨?_,k2.symm,⟨by simp,by simp,gb.1,gb.2,by show (0:Nat)≤_;omega⟩⟩
   simp [wrongA,mayStandB,hc,k2,faultW];rfl
  ·rw [if_neg k2] at h ⊢
   by_cases k3:kindI c=3
   ·rw [if_pos k3] at h ⊢
    have hn:nulS s=false:=by
     cases e:nulS s with
     | false=>rfl
     | true=>rw [e] at h;simp at h
    refine ⟨?_,k3.symm,⟨by simp,by simp,by simp,by simp,hs⟩⟩
    simp [wrongA,mayStandB,hc,k3,hn]
   ·rw [if_neg k3] at h ⊢
    by_cases k4:kindI c=4
    ·rw [if_pos k4] at h
     have he:enumNB c s=true:=by
      cases e:enumNB c s with
      | true=>rfl
      | false=>rw [e] at h;simp at h
     obtain ⟨g1,g2,g3⟩:=enum_named he
     refine ⟨?_,k4.symm,⟨by simp,by simp,g2,g3,by show (0:Nat)≤_;omega⟩⟩
     simp [wrongA,mayStandB,hc,k4,faultW,g1];rfl
    ·rw [if_neg k4] at h;omega
theorem arg_right {c:Int} {t:TokT} {b:Int} (h:argE c t b=0) (hs:t.2.1.size≤140737488351232):wrongA c (argA c t b) b=0∧(argA c t b).1=kindI c∧c≠0∧ArgOk (argA c t b):=by
 obtain ⟨h1,h2,h3,h4⟩:=arg_taken h
 have hc:c≠0:=fun e=>by rw [e] at h1;exact h1 take_zero
 obtain ⟨g1,g2,g3⟩:=txt_right h3 hc hs
 rw [h4]
 exact ⟨g1,g2,hc,g3⟩
theorem arg_id {t:TokT} {b:Int} (h:argE 105 t b=0):idE true (argA 105 t b).2.1 b 40=0∧0≤(argA 105 t b).2.1∧(argA 105 t b).2.1 < 4294967296∧(argA 105 t b).2.1=numV (strI t.2.1):=by
 obtain ⟨h1,h2,h3,h4⟩:=arg_taken h
 have h3':=h3
 unfold txtE at h3
 rw [if_pos kind_i] at h3
 obtain ⟨g1,g2,g3,g4⟩:=idP_zero h3
 have gb:=num_bounds g1
 have e:(argA 105 t b).2.1=numV (strI t.2.1):=by rw [h4];unfold txtA;rw [if_neg (by omega),if_pos kind_i]
 rw [e]
 exact ⟨idE_none g2,gb.1,gb.2,rfl⟩
theorem argsN_len (f:Frm) (b:Int) (l:List TokT) (at_ n:Nat):(argsN f b l at_ n).length=n:=by simp [argsN]
theorem argsN_nth (f:Frm) (b:Int) (l:List TokT) (at_ n k:Nat) (h:k < n):nthA (argsN f b l at_ n) k=argA (letterI f k) (nthT l (at_+k)) b:=by
 simp [argsN,nthA,List.getD,h]
theorem argsN_snoc (f:Frm) (b:Int) (l:List TokT) (at_ n:Nat):argsN f b l at_ (n+1)=argsN f b l at_ n ++ [argA (letterI f n) (nthT l (at_+n)) b]:=by
 simp [argsN,List.range_succ]
theorem badArg_at {f:Frm} {b:Int} {l:List TokT} {at_ k:Nat} (hk:at_+k < l.length) (h0:∀ j,j < k→argE (letterI f j) (nthT l (at_+j)) b=0) (h:argE (letterI f k) (nthT l (at_+k)) b≠0):badArg f b l at_=some k :=
 range_find _ k (by omega) (fun j hj=>by simp [h0 j hj]) (by simp [h])
theorem badArg_no {f:Frm} {b:Int} {l:List TokT} {at_:Nat} (h0:∀ j,at_+j < l.length→argE (letterI f j) (nthT l (at_+j)) b=0):badArg f b l at_=none :=
 range_not _ (fun j hj=>by simp [h0 j (by omega)])
theorem lineA_bad {o:Int} {f:Frm} {t r:Int} {l:List TokT} {at_ k:Nat} {len b:Int} (hk:at_+k < l.length) (h0:∀ j,j < k→argE (letterI f j) (nthT l (at_+j)) b=0) (h:argE (letterI f k) (nthT l (at_+k)) b≠0) :
  lineA o f t r l at_ len b=noLine (argE (letterI f k) (nthT l (at_+k)) b) (nthT l (at_+k)).2.2:=by
 unfold lineA;rw [badArg_at hk h0 h]
theorem lineA_ok {o:Int} {f:Frm} {t r:Int} {l:List TokT} {at_:Nat} {len b:Int} (h0:∀ j,at_+j < l.length→argE (letterI f j) (nthT l (at_+j)) b=0) :
  lineA o f t r l at_ len b=if wholeN f ((l.length - at_:Nat):Int)=false then noLine 72 len
   else if 65535 < 1+(rawL f (o,t,r,argsN f b l at_ (l.length - at_))).length then noLine 25 0
   else ((o,t,r,argsN f b l at_ (l.length - at_)),true,0,0):=by
 unfold lineA;rw [badArg_no h0]
theorem args_right {o:Int} {f:Frm} {b:Int} {l:List TokT} {at_ n:Nat} (hf:f=(lookF refT o).1) (h0:∀ j,j < n→argE (letterI f j) (nthT l (at_+j)) b=0) (hs:ToksIn l) (hn:at_+n≤l.length) :
  ArgsOk (argsN f b l at_ n)∧wrongL f b 0 (argsN f b l at_ n)=0∧(fitsI true f (kindsL (argsN f b l at_ n))).2=wholeN f (n:Int):=by
 have key:∀ j,j < n→wrongA (letterI f j) (nthA (argsN f b l at_ n) j) b=0∧(nthA (argsN f b l at_ n) j).1=kindI (letterI f j)∧letterI f j≠0∧ArgOk (nthA (argsN f b l at_ n) j):=fun j hj=>by
  rw [argsN_nth _ _ _ _ _ _ hj]
  exact arg_right (h0 j hj) (hs (at_+j) (by omega)).2.2.1
 refine ⟨fun j hj=>(key j (by rwa [argsN_len] at hj)).2.2.2,wrongL_none fun i hi=>?_,?_⟩
 ·have:=(key i (by rwa [argsN_len] at hi)).1
  rw [show 0+i=i by omega];exact this
 ·have:=fits_whole (f:=f) (l:=argsN f b l at_ n) (fun i hi=>by
   have:=key i (by rwa [argsN_len] at hi)
   exact ⟨this.2.2.1,this.2.1⟩)
  rw [argsN_len] at this
  exact this
theorem line_raw {o:Int} {f:Frm} {t r b:Int} {l:List TokT} {at_ n:Nat} (hf:f=(lookF refT o).1) (ho:(lookF refT o).2=true) (h0:∀ j,j < n→argE (letterI f j) (nthT l (at_+j)) b=0) (hs:ToksIn l) (hn:at_+n≤l.length)
  (hw:wholeN f (n:Int)=true) (ht:idE f.2.1 t b 40=0) (hr:idE f.2.2.1 r b 41=0):rawE (o,t,r,argsN f b l at_ n) b=if 65535 < 1+(rawL f (o,t,r,argsN f b l at_ n)).length then 25 else 0:=by
 obtain ⟨g1,g2,g3⟩:=args_right hf h0 hs hn
 unfold rawE
 rw [if_pos ho,← hf]
 unfold faultI
 simp only [argsN_len]
 rw [if_neg (by omega),if_neg (by omega),if_neg (by omega),if_neg (by simp [hw])]
/-! ### names lead back -/

def nameRow (p:Int × Frm):Bool:=decide (opsL.find? (namP p.2.1)=some p.1.toNat) && decide (0≤p.1) && decide (opF p.1.toNat=p.2) && decide (p.2.1.size≤1000) && wordB (strI p.2.1)
theorem nameRows:refT.all nameRow=true:=by decide +kernel
theorem look_memW:∀ {l:List (Int × Frm)} {n:Int},(lookF l n).2=true→(n,(lookF l n).1) ∈ l
 | [],n,h=>by simp [lookF] at h
 | (k,s) :: l,n,h=>by
  rw [lookF] at h ⊢
  by_cases e:n=k
  ·rw [if_pos e];subst e;simp
  ·rw [if_neg e] at h ⊢;exact List.mem_cons_of_mem _ (look_memW h)
theorem name_op {n:Int} (h:(lookF refT n).2=true):∃ o:Nat,n=(o:Int)∧opsL.find? (namP (lookF refT n).1.1)=some o∧opF o=(lookF refT n).1∧(lookF refT n).1.1.size≤1000∧wordB (strI (lookF refT n).1.1)=true:=by
 have hr:=List.all_eq_true.1 nameRows _ (look_memW h)
 simp only [nameRow,Bool.and_eq_true,decide_eq_true_eq] at hr
 obtain ⟨⟨⟨⟨r1,r2⟩,r3⟩,r4⟩,r5⟩:=hr
 exact ⟨n.toNat,by omega,r1,r3,r4,r5⟩
def enumRow (x:Int × Int × ByteArray):Bool:=decide (enumN x.1 x.2.2=x.2.1) && enumNB x.1 x.2.2 && wordB (strI x.2.2) && decide (x.2.2.size≤1000)
theorem enumRows:namesT.all enumRow=true:=by decide +kernel
theorem name_enum {c n:Int} (h:enumB c n=true):enumN c (enumS c n)=n∧enumNB c (enumS c n)=true∧wordB (strI (enumS c n))=true∧(enumS c n).size≤1000:=by
 unfold enumB at h
 obtain ⟨x,hx⟩:=Option.isSome_iff_exists.1 h
 have e:enumS c n=x.2.2:=by unfold enumS;rw [hx]
 have hr:=List.all_eq_true.1 enumRows x (List.mem_of_find?_eq_some hx)
 have hp:=List.find?_some hx
 simp only [isNum,Bool.and_eq_true,beq_iff_eq] at hp
 simp only [enumRow,Bool.and_eq_true,decide_eq_true_eq] at hr
 rw [e,← hp.1,← hp.2]
 exact ⟨hr.1.1.1,hr.1.1.2,hr.1.2,hr.2⟩
/-! ### tokens of an instruction -/

def argTk (c:Int) (x:ArgT):TokT:=if x.1=1 then (2,dgS x.2.1,0) else if x.1=2 then (3,dgS x.2.1,0) else if x.1=3 then (4,x.2.2,0) else (1,enumS c x.2.1,0)
def argTks (f:Frm) (l:List ArgT):List TokT:=(List.range l.length).map fun (k:Nat)=>argTk (letterI f k) (nthA l k)
def eqS:ByteArray:=⟨#[61]⟩
def preTk (f:Frm) (x:InstT):List TokT:=(if f.2.2.1 then [(2,dgS x.2.2.1,0),(5,eqS,0)] else []) ++ ([(1,f.1,0)] ++ (if f.2.1 then [(2,dgS x.2.1,0)] else []))
def tksI (x:InstT):List TokT:=preTk (lookF refT x.1).1 x ++ argTks (lookF refT x.1).1 x.2.2.2
def SameT (ps l:List TokT):Prop:=ps.length=l.length∧∀ k,k < l.length→(nthT ps k).1=(nthT l k).1∧(nthT ps k).2.1=(nthT l k).2.1
theorem argTks_len (f:Frm) (l:List ArgT):(argTks f l).length=l.length:=by simp [argTks]
theorem argTks_nth (f:Frm) (l:List ArgT) (k:Nat) (h:k < l.length):nthT (argTks f l) k=argTk (letterI f k) (nthA l k):=by simp [argTks,nthT,List.getD,h]
theorem nthT_left (a b:List TokT) (k:Nat) (h:k < a.length):nthT (a ++ b) k=nthT a k:=by simp [nthT,List.getD,List.getElem?_append_left h]
theorem nthT_right (a b:List TokT) (k:Nat):nthT (a ++ b) (a.length+k)=nthT b k:=by simp only [nthT,List.getD];rw [List.getElem?_append_right (by omega),Nat.add_sub_cancel_left]
theorem noStr {s:ByteArray} (h:s.size=0):s=⟨#[]⟩:=by
 obtain ⟨d⟩:=s
 congr
 exact Array.eq_empty_of_size_eq_zero h
theorem id_back {n b:Int} (h0:0 < n) (h1:n < b) (h2:n < 4294967296):idP (dgS n) b=0∧numV (strI (dgS n))=n:=by
 obtain ⟨e1,e2⟩:=dgL_num (n:=n.toNat) (by omega)
 have e3:numV (strI (dgS n))=n:=by rw [strI_dgS,e2];omega
 refine ⟨?_,e3⟩
 unfold idP
 rw [e3,if_neg (by rw [strI_dgS,e1];simp),if_neg (by omega)]
theorem num_back {n:Int} (h0:0≤n) (h2:n < 4294967296):numErr (strI (dgS n))=0∧numV (strI (dgS n))=n:=by
 obtain ⟨e1,e2⟩:=dgL_num (n:=n.toNat) (by omega)
 refine ⟨?_,by rw [strI_dgS,e2];omega⟩
 unfold numErr
 rw [strI_dgS,e1];rfl
theorem idE_some {n b e:Int} (he:e≠0) (h0:0≤n) (h:idE true n b e=0):0 < n∧n < b:=by
 unfold idE at h
 by_cases hn:n=0
 ·subst hn;simp at h;exact absurd h he
 ·by_cases hb:b≤n
  ·simp [hn,hb] at h
  ·omega
theorem idE_noW {n b e:Int} (he:e≠0) (h:idE false n b e=0):n=0:=by
 unfold idE at h
 by_cases hn:n=0
 ·exact hn
 ·simp [hn] at h;exact absurd h he
theorem arg_back {c b:Int} {x:ArgT} {t:TokT} (hok:ArgOk x) (hk:kindI c≠0) (h:wrongA c x b=0) (t1:t.1=(argTk c x).1) (t2:t.2.1=(argTk c x).2.1):argE c t b=0∧argA c t b=x:=by
 obtain ⟨hc,hkd⟩:=wrongA_kind h
 obtain ⟨k,n,s⟩:=x
 obtain ⟨o1,o2,o3,o4,o5⟩:=hok
 simp only at hkd o1 o2 o3 o4 o5
 have hm:mayStandB c (k,n,s)=true:=by
  unfold wrongA at h
  by_cases e:mayStandB c (k,n,s)=false
  ·rw [if_pos e] at h;cases h
  ·simpa using e
 unfold wrongA at h
 rw [if_neg (by rw [hm];simp)] at h
 simp only [mayStandB,Bool.and_eq_true] at hm
 have hm2:=hm.2
 simp only at h hm2
 have hmost:=kindI_most c
 have key:argE c t b=0∧txtE c t.2.1 b=0∧txtA c t.2.1 b=(k,n,s)→argE c t b=0∧argA c t b=(k,n,s):=fun q=>by
  refine ⟨q.1,?_⟩
  unfold argA
  rw [if_neg (by rw [q.1];simp)];exact q.2.2
 apply key
 rcases (show kindI c=1 ∨ kindI c=2 ∨ kindI c=3 ∨ kindI c=4 by omega) with e | e | e | e
 ·have hk1:k=1:=by omega
  subst hk1
  have e1:argTk c (1,n,s)=(2,dgS n,0):=by simp [argTk]
  rw [e1] at t1 t2
  simp only at t1 t2
  rw [if_neg (by decide)] at h hm2
  have hs:s=⟨#[]⟩:=noStr (by simpa using hm2)
  have hn:0 < n∧n < b:=by
   unfold faultW at h
   rw [if_pos e] at h
   by_cases hb:noneB n b=true
   ·rw [if_pos hb] at h;cases h
   ·unfold noneB at hb
    simp at hb
    omega
  obtain ⟨i1,i2⟩:=id_back hn.1 hn.2 o4
  have hx:txtE c t.2.1 b=0:=by rw [t2];unfold txtE;rw [if_pos e];exact i1
  refine ⟨?_,hx,?_⟩
  ·unfold argE
   have:takeK c=2:=by unfold takeK;rw [if_pos e]
   rw [this,if_neg (by rw [t1];simp)];exact hx
  ·unfold txtA
   rw [if_neg (by rw [hx];simp),if_pos e,t2,i2,hs]
 ·have hk1:k=2:=by omega
  subst hk1
  have e1:argTk c (2,n,s)=(3,dgS n,0):=by simp [argTk]
  rw [e1] at t1 t2
  simp only at t1 t2
  rw [if_neg (by decide)] at h hm2
  have hs:s=⟨#[]⟩:=noStr (by simpa using hm2)
  obtain ⟨i1,i2⟩:=num_back o3 o4
  have hx:txtE c t.2.1 b=0:=by rw [t2];unfold txtE;rw [if_neg (by omega),if_pos e];exact i1
  refine ⟨?_,hx,?_⟩
  ·unfold argE
   have:takeK c=3:=by unfold takeK;rw [if_neg (by omega),if_pos e]
   rw [this,if_neg (by rw [t1];simp)];exact hx
  ·unfold txtA
   rw [if_neg (by rw [hx];simp),if_neg (by omega),if_pos e,t2,i2,hs]
 ·have hk1:k=3:=by omega
  subst hk1
  have e1:argTk c (3,n,s)=(4,s,0):=by simp [argTk]
  rw [e1] at t1 t2
  simp only at t1 t2
  rw [if_pos rfl] at h hm2
  have hn:n=0:=by simpa using hm2
  have hs:nulS s=false:=by
   by_cases hb:nulS s=true
   ·rw [if_pos hb] at h;cases h
   ·simpa using hb
  have hx:txtE c t.2.1 b=0:=by rw [t2];unfold txtE;rw [if_neg (by omega),if_neg (by omega),if_pos e,if_neg (by rw [hs];simp)]
  refine ⟨?_,hx,?_⟩
  ·unfold argE
   have:takeK c=4:=by unfold takeK;rw [if_neg (by omega),if_neg (by omega),if_pos e]
   rw [this,if_neg (by rw [t1];simp)];exact hx
  ·unfold txtA
   rw [if_neg (by rw [hx];simp),if_neg (by omega),if_neg (by omega),if_pos e,t2,hn]
 ·have hk1:k=4:=by omega
  subst hk1
  have e1:argTk c (4,n,s)=(1,enumS c n,0):=by simp [argTk]
  rw [e1] at t1 t2
  simp only at t1 t2
  rw [if_neg (by decide)] at h hm2
  have hs:s=⟨#[]⟩:=noStr (by simpa using hm2)
  have hn:enumB c n=true:=by
   unfold faultW at h
   rw [if_neg (by omega),if_pos e] at h
   by_cases hb:enumB c n=true
   ·exact hb
   ·rw [if_neg hb] at h;cases h
  obtain ⟨i1,i2,_⟩:=name_enum hn
  have hx:txtE c t.2.1 b=0:=by rw [t2];unfold txtE;rw [if_neg (by omega),if_neg (by omega),if_neg (by omega),if_pos e,if_pos i2]
  refine ⟨?_,hx,?_⟩
  ·unfold argE
   have:takeK c=1:=by unfold takeK;rw [if_neg (by omega),if_neg (by omega),if_neg (by omega),if_pos e]
   rw [this,if_neg (by rw [t1];simp)];exact hx
  ·unfold txtA
   rw [if_neg (by rw [hx];simp),if_neg (by omega),if_neg (by omega),if_neg (by omega),t2,i1,hs]
theorem lineA_back {x:InstT} {b len:Int} {ps:List TokT} {p:Nat} (hok:ArgsOk x.2.2.2) (hw:∀ j,j < x.2.2.2.length→wrongA (letterI (lookF refT x.1).1 (j:Int)) (nthA x.2.2.2 j) b=0) (hwh:wholeN (lookF refT x.1).1 x.2.2.2.length=true) (hlen:1+(rawL (lookF refT x.1).1 x).length≤65535)
  (hl:ps.length=p+x.2.2.2.length) (hp:∀ j,j < x.2.2.2.length→(nthT ps (p+j)).1=(argTk (letterI (lookF refT x.1).1 (j:Int)) (nthA x.2.2.2 j)).1∧(nthT ps (p+j)).2.1=(argTk (letterI (lookF refT x.1).1 (j:Int)) (nthA x.2.2.2 j)).2.1) :
  lineA x.1 (lookF refT x.1).1 x.2.1 x.2.2.1 ps p len b=(x,true,0,0):=by
 have hb:∀ j,j < x.2.2.2.length→argE (letterI (lookF refT x.1).1 (j:Int)) (nthT ps (p+j)) b=0∧argA (letterI (lookF refT x.1).1 (j:Int)) (nthT ps (p+j)) b=nthA x.2.2.2 j:=fun j hj=>by
  have hc:=(wrongA_kind (hw j hj)).1
  rcases letter_known x.1 (j:Int) with h | h
  ·exact absurd h hc
  ·exact arg_back (hok j hj) h (hw j hj) (hp j hj).1 (hp j hj).2
 have hn:badArg (lookF refT x.1).1 b ps p=none:=badArg_no fun j hj=>(hb j (by omega)).1
 have hlen':ps.length - p=x.2.2.2.length:=by omega
 have ha:argsN (lookF refT x.1).1 b ps p x.2.2.2.length=x.2.2.2:=by
  apply List.ext_getElem (by simp [argsN])
  intro j h1 h2
  have e1:=argsN_nth (lookF refT x.1).1 b ps p x.2.2.2.length j h2
  have e2:=(hb j h2).2
  rw [e2] at e1
  rw [nthA_lt _ _ h1,nthA_lt _ _ h2] at e1
  exact e1
 unfold lineA
 rw [hn]
 simp only
 rw [hlen',hwh,if_neg (by simp),ha]
 have e:((x.1,x.2.1,x.2.2.1,x.2.2.2):InstT)=x:=rfl
 rw [e,if_neg (by omega)]
theorem lineT_back {x:InstT} {b len:Int} {ps:List TokT} {p:Nat} (hx:InstOk x) (hr:rawE x b=0) (hl:ps.length=p+(if (lookF refT x.1).1.2.1 then 1 else 0)+x.2.2.2.length) (ht:(lookF refT x.1).1.2.1=true→(nthT ps p).1=2∧(nthT ps p).2.1=dgS x.2.1)
  (hp:∀ j,j < x.2.2.2.length→(nthT ps (p+(if (lookF refT x.1).1.2.1 then 1 else 0)+j)).1=(argTk (letterI (lookF refT x.1).1 (j:Int)) (nthA x.2.2.2 j)).1∧(nthT ps (p+(if (lookF refT x.1).1.2.1 then 1 else 0)+j)).2.1=(argTk (letterI (lookF refT x.1).1 (j:Int)) (nthA x.2.2.2 j)).2.1) :
  lineT x.1 (lookF refT x.1).1 x.2.2.1 ps p len b=(x,true,0,0):=by
 obtain ⟨h1,h2,h3⟩:=rawWs_ok hr
 obtain ⟨i1,i2,i3,i4,i5⟩:=faultI_zero h2
 obtain ⟨x1,x2,x3,x4,x5,x6,x7,x8⟩:=hx
 have hw:∀ j,j < x.2.2.2.length→wrongA (letterI (lookF refT x.1).1 (j:Int)) (nthA x.2.2.2 j) b=0:=fun j hj=>by
  have:=wrongL_zero i3 j hj
  rwa [Nat.zero_add] at this
 unfold lineT
 by_cases e:(lookF refT x.1).1.2.1=true
 ·rw [if_neg (by rw [e];simp)]
  simp only [e,if_true] at hl hp
  obtain ⟨t1,t2⟩:=ht e
  rw [e] at i1
  obtain ⟨n0,n1⟩:=idE_some (by decide) x3 i1
  obtain ⟨j1,j2⟩:=id_back n0 n1 x4
  have ex:txtE 105 (nthT ps p).2.1 b=0:=by rw [t2];unfold txtE;rw [if_pos kind_i];exact j1
  have eE:argE 105 (nthT ps p) b=0:=by unfold argE;rw [take_i,if_neg (by rw [t1];simp)];exact ex
  have eA:(argA 105 (nthT ps p) b).2.1=x.2.1:=by
   unfold argA
   rw [if_neg (by rw [eE];simp)]
   unfold txtA
   rw [if_neg (by rw [ex];simp),if_pos kind_i,t2]
   exact j2
  rw [if_neg (by omega),if_neg (by rw [eE];simp),eA]
  exact lineA_back x7 hw i4 i5 (by omega) hp
 ·have e':(lookF refT x.1).1.2.1=false:=by simpa using e
  rw [if_pos e']
  simp only [e',Bool.false_eq_true,if_false,Nat.add_zero] at hl hp
  rw [e'] at i1
  have h0:=idE_noW (by decide) i1
  have:=lineA_back (len:=len) x7 hw i4 i5 hl hp
  rw [h0] at this
  exact this
theorem line_back {x:InstT} {b len:Int} {ps:List TokT} (hx:InstOk x) (hr:rawE x b=0) (h:SameT ps (tksI x)):lineP ps len b=(x,true,0,0):=by
 obtain ⟨h1,h2,h3⟩:=rawWs_ok hr
 obtain ⟨i1,i2,i3,i4,i5⟩:=faultI_zero h2
 obtain ⟨o,ho,hf,hof,_,_⟩:=name_op h1
 obtain ⟨hl,hs⟩:=h
 have hx':=hx
 obtain ⟨x1,x2,x3,x4,x5,x6,x7,x8⟩:=hx'
 have hpl:(preTk (lookF refT x.1).1 x).length=(if (lookF refT x.1).1.2.2.1 then 2 else 0)+1+(if (lookF refT x.1).1.2.1 then 1 else 0):=by
  unfold preTk
  cases (lookF refT x.1).1.2.2.1 <;> cases (lookF refT x.1).1.2.1 <;> simp
 have hl':ps.length=(if (lookF refT x.1).1.2.2.1 then 2 else 0)+1+(if (lookF refT x.1).1.2.1 then 1 else 0)+x.2.2.2.length:=by rw [hl];unfold tksI;rw [List.length_append,hpl,argTks_len]
 have htl:(tksI x).length=ps.length:=hl.symm
 have hpre:∀ k,k < (preTk (lookF refT x.1).1 x).length→(nthT ps k).1=(nthT (preTk (lookF refT x.1).1 x) k).1∧(nthT ps k).2.1=(nthT (preTk (lookF refT x.1).1 x) k).2.1:=fun k hk=>by
  have:=hs k (by rw [htl,hl'];omega)
  unfold tksI at this
  rwa [nthT_left _ _ _ hk] at this
 have harg:∀ j,j < x.2.2.2.length→(nthT ps ((preTk (lookF refT x.1).1 x).length+j)).1=(argTk (letterI (lookF refT x.1).1 (j:Int)) (nthA x.2.2.2 j)).1∧(nthT ps ((preTk (lookF refT x.1).1 x).length+j)).2.1=(argTk (letterI (lookF refT x.1).1 (j:Int)) (nthA x.2.2.2 j)).2.1:=fun j hj=>by
  have:=hs ((preTk (lookF refT x.1).1 x).length+j) (by rw [htl,hl',hpl];omega)
  unfold tksI at this
  rw [nthT_right,argTks_nth _ _ _ hj] at this
  exact this
 rw [hpl] at harg
 unfold lineP
 by_cases er:(lookF refT x.1).1.2.2.1=true
 ·simp only [er,if_true] at hl' harg hpl
  have q0:=hpre 0 (by omega)
  have q1:=hpre 1 (by omega)
  have q2:=hpre 2 (by omega)
  have p0:nthT (preTk (lookF refT x.1).1 x) 0=(2,dgS x.2.2.1,0):=by simp [preTk,er,nthT]
  have p1:nthT (preTk (lookF refT x.1).1 x) 1=(5,eqS,0):=by simp [preTk,er,nthT]
  have p2:nthT (preTk (lookF refT x.1).1 x) 2=(1,(lookF refT x.1).1.1,0):=by simp [preTk,er,nthT]
  rw [p0] at q0;rw [p1] at q1;rw [p2] at q2
  simp only at q0 q1 q2
  rw [er] at i2
  obtain ⟨n0,n1⟩:=idE_some (by decide) x5 i2
  obtain ⟨j1,j2⟩:=id_back n0 n1 x6
  rw [if_neg (by rw [q0.1];simp),if_neg (by omega),if_neg (by rw [q1.1];simp)]
  unfold lineO
  rw [if_neg (by omega),if_neg (by rw [q2.1];simp),q2.2,hf]
  simp only
  rw [hof,if_neg (by rw [er];simp),q0.2,if_neg (by rw [j1];simp),if_pos trivial,j2,← ho]
  refine lineT_back hx hr (by rw [hl']) (fun et=>?_) (fun j hj=>?_)
  ·have q3:=hpre 3 (by rw [hpl,et];simp)
   have p3:nthT (preTk (lookF refT x.1).1 x) 3=(2,dgS x.2.1,0):=by simp [preTk,er,et,nthT]
   rw [p3] at q3
   exact q3
  ·exact harg j hj
 ·have er':(lookF refT x.1).1.2.2.1=false:=by simpa using er
  simp only [er',Bool.false_eq_true,if_false,Nat.zero_add] at hl' harg hpl
  have q0:=hpre 0 (by omega)
  have p0:nthT (preTk (lookF refT x.1).1 x) 0=(1,(lookF refT x.1).1.1,0):=by simp [preTk,er',nthT]
  rw [p0] at q0
  simp only at q0
  rw [er'] at i2
  have h0:=idE_noW (by decide) i2
  rw [if_pos (by rw [q0.1];simp)]
  unfold lineO
  rw [if_neg (by omega),if_neg (by rw [q0.1];simp),q0.2,hf]
  simp only
  rw [hof,if_neg (by rw [er'];simp),if_neg (by simp),if_neg (by simp),← ho]
  have:=lineT_back (len:=len) (p:=1) (ps:=ps) hx hr (by rw [hl']) (fun et=>by
   have q3:=hpre 1 (by rw [hpl,et];simp)
   have p3:nthT (preTk (lookF refT x.1).1 x) 1=(2,dgS x.2.1,0):=by simp [preTk,er',et,nthT]
   rw [p3] at q3
   exact q3) (fun j hj=>harg j hj)
  rw [h0] at this
  exact this
theorem Pow10.below {w w':World} (h:Pow10 w) (hb:Below w.heap.size w w'):Pow10 w':=by
 unfold Pow10 Lib.TabIs World.var? at *
 cases hg:Tryz.prog.globalNamed "internal/strconv.uint64pow10" with
 | none=>simp [hg] at h
 | some g =>
  simp only [hg,Option.bind_some] at h ⊢
  have hlt:g < w.heap.size:=by
   rcases Nat.lt_or_ge g w.heap.size with h' | h'
   ·exact h'
   ·rw [Array.getElem?_eq_none h'] at h;simp at h
  rw [hb.block g hlt]
  exact h
theorem printDigits_any (n:Int) (w:World) (h0:0≤n) (h1:n < 4294967296) (ht:Pow10 w):Calls Tryz.prog 96 #[.int .u32 n] w fun e w'=>e=.returned (.string (dgS n))∧Below w.heap.size w w':=by
 obtain ⟨u,rfl⟩:=Int.eq_ofNat_of_zero_le h0
 have hF:=formatUint_any u (by omega) w ht
 have hw:IntKind.u64.wrap (u:Int)=(u:Int):=by rw [IntKind.wrap_u64];omega
 go_enter Tryz.func96,Tryz.ntmps96
 go_wp2_with fail
 refine hF.mono ?_
 rintro e w' ⟨rfl,hb⟩
 go_wp2_with fail
 go_ret
 exact ⟨rfl,hb⟩
theorem printWord_any (s:ByteArray) (w:World):Calls Tryz.prog 51 #[.string s] w fun e w'=>e=.returned (tokV (1,s,0))∧Below w.heap.size w w':=by
 go_enter Tryz.func51,Tryz.ntmps51
 go_wp2
 refine bodyPost_ret (v:=.agg #[.int .u8 1,.string s,.int .i64 0]) ?_ rfl ⟨rfl,?_⟩
 ·simp [results,Tryz.results51,go_sem]
 ·exact (Below.refl _ w).alloc (Nat.le_refl _) _
theorem printText_any (s:ByteArray) (w:World):Calls Tryz.prog 104 #[.string s] w fun e w'=>e=.returned (tokV (4,s,0))∧Below w.heap.size w w':=by
 go_enter Tryz.func104,Tryz.ntmps104
 go_wp2
 refine bodyPost_ret (v:=.agg #[.int .u8 4,.string s,.int .i64 0]) ?_ rfl ⟨rfl,?_⟩
 ·simp [results,Tryz.results104,go_sem]
 ·exact (Below.refl _ w).alloc (Nat.le_refl _) _
theorem printEqual_any (w:World):Calls Tryz.prog 70 #[] w fun e w'=>e=.returned (tokV (5,eqS,0))∧Below w.heap.size w w':=by
 go_enter Tryz.func70,Tryz.ntmps70
 go_wp2
 refine bodyPost_ret (v:=.agg #[.int .u8 5,.string eqS,.int .i64 0]) ?_ rfl ⟨rfl,?_⟩
 ·simp [results,Tryz.results70,go_sem];rfl
 ·exact (Below.refl _ w).alloc (Nat.le_refl _) _
theorem printId_any (n:Int) (w:World) (h0:0≤n) (h1:n < 4294967296) (ht:Pow10 w):Calls Tryz.prog 69 #[.int .u32 n] w fun e w'=>e=.returned (tokV (2,dgS n,0))∧Below w.heap.size w w':=by
 have hb0:Below w.heap.size w (w.alloc (.cells #[.int .u8 0,.string ⟨#[]⟩,.int .i64 0] 41)):=(Below.refl _ w).alloc (Nat.le_refl _) _
 have hF:=printDigits_any n _ h0 h1 (ht.below hb0)
 have hk:=heap_alloc_new w (.cells #[.int .u8 0,.string ⟨#[]⟩,.int .i64 0] 41)
 go_enter Tryz.func69,Tryz.ntmps69
 go_wp2_with fail
 generalize w.alloc (.cells #[.int .u8 0,.string ⟨#[]⟩,.int .i64 0] 41)=W at *
 refine hF.mono ?_
 rintro e w' ⟨rfl,hb⟩
 have HB:=Lib.hid (hb0.trans (hb.mono hb0.size))
 have hk2:=(hb.block w.heap.size (Array.getElem?_eq_some_iff.1 hk).1).trans hk
 have c0:=(one_block hk2).1 0
 have c1:=(one_block hk2).1 1
 have c2:=(one_block hk2).1 2
 have f:=(one_block hk2).2
 have f0:=f 0
 have f1:=f 1
 have f2:=f 2
 clear hF hb hb0 hk hk2 f
 go_wp2_with fail
 refine bodyPost_ret (v:=.agg #[.int .u8 2,.string (dgS n),.int .i64 0]) ?_ rfl ⟨rfl,?_⟩
 ·simp [results,Tryz.results69,go_sem,c0,c1,c2,f0,f1,f2]
 ·exact ((HB.out.setCell (by simp) _).setCell (by simp) _).setCell (by simp) _
theorem printNumber_any (n:Int) (w:World) (h0:0≤n) (h1:n < 4294967296) (ht:Pow10 w):Calls Tryz.prog 52 #[.int .u32 n] w fun e w'=>e=.returned (tokV (3,dgS n,0))∧Below w.heap.size w w':=by
 have hb0:Below w.heap.size w (w.alloc (.cells #[.int .u8 0,.string ⟨#[]⟩,.int .i64 0] 41)):=(Below.refl _ w).alloc (Nat.le_refl _) _
 have hF:=printDigits_any n _ h0 h1 (ht.below hb0)
 have hk:=heap_alloc_new w (.cells #[.int .u8 0,.string ⟨#[]⟩,.int .i64 0] 41)
 go_enter Tryz.func52,Tryz.ntmps52
 go_wp2_with fail
 generalize w.alloc (.cells #[.int .u8 0,.string ⟨#[]⟩,.int .i64 0] 41)=W at *
 refine hF.mono ?_
 rintro e w' ⟨rfl,hb⟩
 have HB:=Lib.hid (hb0.trans (hb.mono hb0.size))
 have hk2:=(hb.block w.heap.size (Array.getElem?_eq_some_iff.1 hk).1).trans hk
 have c0:=(one_block hk2).1 0
 have c1:=(one_block hk2).1 1
 have c2:=(one_block hk2).1 2
 have f:=(one_block hk2).2
 have f0:=f 0
 have f1:=f 1
 have f2:=f 2
 clear hF hb hb0 hk hk2 f
 go_wp2_with fail
 refine bodyPost_ret (v:=.agg #[.int .u8 3,.string (dgS n),.int .i64 0]) ?_ rfl ⟨rfl,?_⟩
 ·simp [results,Tryz.results52,go_sem,c0,c1,c2,f0,f1,f2]
 ·exact ((HB.out.setCell (by simp) _).setCell (by simp) _).setCell (by simp) _
end Go.Proofs.YtddkapkkjhomkabGreatDoor
namespace Go.Proofs.YtddkapkkjhomkabGreatDoor
open Go

theorem hide {p:Prop} (h:p):Go.RowKit.Hid p:=h
def slot (t:Array Value) (i:Nat):Value:=t.getD i undef
theorem frame_eq (t:Array Value) (n:Nat) (h:t.size=n):t=((List.range n).map (slot t)).toArray:=by
 apply Array.ext
 ·simp [h]
 ·intro i h1 h2
  simp [slot,Array.getD,h1]
theorem frame99 (t:Array Value) (h:t.size=99):t=#[slot t 0,slot t 1,slot t 2,slot t 3,slot t 4,slot t 5,slot t 6,slot t 7,slot t 8,slot t 9,slot t 10,slot t 11,slot t 12,slot t 13,slot t 14,slot t 15,slot t 16,slot t 17,slot t 18,slot t 19,slot t 20,slot t 21,slot t 22,slot t 23,slot t 24,slot t 25,slot t 26,slot t 27,slot t 28,slot t 29,slot t 30,slot t 31,slot t 32,slot t 33,slot t 34,slot t 35,slot t 36,slot t 37,slot t 38,slot t 39,slot t 40,slot t 41,slot t 42,slot t 43,slot t 44,slot t 45,slot t 46,slot t 47,slot t 48,slot t 49,slot t 50,slot t 51,slot t 52,slot t 53,slot t 54,slot t 55,slot t 56,slot t 57,slot t 58,slot t 59,slot t 60,slot t 61,slot t 62,slot t 63,slot t 64,slot t 65,slot t 66,slot t 67,slot t 68,slot t 69,slot t 70,slot t 71,slot t 72,slot t 73,slot t 74,slot t 75,slot t 76,slot t 77,slot t 78,slot t 79,slot t 80,slot t 81,slot t 82,slot t 83,slot t 84,slot t 85,slot t 86,slot t 87,slot t 88,slot t 89,slot t 90,slot t 91,slot t 92,slot t 93,slot t 94,slot t 95,slot t 96,slot t 97,slot t 98]:=(frame_eq t 99 h).trans rfl
def onNormal (K:Act→World→Prop):Exit→Act→World→Prop
 | .normal,a,w=>K a w
 | _,_,_=>False
theorem onNormal_normal (K:Act→World→Prop) (a:Act) (w:World):onNormal K .normal a w=K a w:=rfl
theorem wp_norm {P:Program} {c:Code} {Q:Exit→Act→World→Prop} {a:Act} {w:World} (h:c.wp P (onNormal (Q .normal)) a w):c.wp P Q a w :=
 wp_mono h fun e a w h=>by
  cases e with
  | normal=>exact h
  | _=>exact False.elim h
end Go.Proofs.YtddkapkkjhomkabGreatDoor
namespace Go.Proofs.YtddkapkkjhomkabGreatDoor
open Go.RowKit

set_option maxHeartbeats 4000000 in
theorem printArgument_any (c:Int) (y:ArgT) (w:World) (hok:ArgOk y) (ht:Pow10 w):Calls Tryz.prog 71 #[.int .u8 c,argV y] w fun e w'=>e=.returned (tokV (argTk c y))∧Below w.heap.size w w':=by
 obtain ⟨y0,y1,y2⟩:=y
 obtain ⟨o1,o2,o3,o4,o5⟩:=hok
 simp only at o1 o2 o3 o4 o5
 unfold argV
 simp only
 have hb0:Below w.heap.size w ((w.alloc (.cells #[.int .u8 y0,.int .u32 y1,.string y2] 87)).alloc (.cells #[.int .u8 0,.string ⟨#[]⟩,.int .i64 0] 41)):=((Below.refl _ w).alloc (Nat.le_refl _) _).alloc (by simp) _
 have hI:=printId_any y1 _ o3 o4 (ht.below hb0)
 have hN:=printNumber_any y1 _ o3 o4 (ht.below hb0)
 have hT:=fun wx=>printText_any y2 wx
 have hE:=fun wx=>enum_any c y1 wx
 have hW:=fun wx=>printWord_any (enumS c y1) wx
 have hkR:=heap_alloc_new (w.alloc (.cells #[.int .u8 y0,.int .u32 y1,.string y2] 87)) (.cells #[.int .u8 0,.string ⟨#[]⟩,.int .i64 0] 41)
 have hkA:((w.alloc (.cells #[.int .u8 y0,.int .u32 y1,.string y2] 87)).alloc (.cells #[.int .u8 0,.string ⟨#[]⟩,.int .i64 0] 41)).heap[w.heap.size]?=some (.cells #[.int .u8 y0,.int .u32 y1,.string y2] 87 (0,0)):=by rw [Below.heap_alloc _ _ _ (by simp)];exact heap_alloc_new _ _
 have hkR':((w.alloc (.cells #[.int .u8 y0,.int .u32 y1,.string y2] 87)).alloc (.cells #[.int .u8 0,.string ⟨#[]⟩,.int .i64 0] 41)).heap[w.heap.size+1]?=some (.cells #[.int .u8 0,.string ⟨#[]⟩,.int .i64 0] 41 (0,0)):=by simpa using hkR
 have HB0:=hide hb0
 have HA:=hide hkA
 have HR:=hide hkR'
 clear hkR hkA hkR' hb0 ht
 by_cases h1:y0=1
 ·subst h1
  have e1:argTk c (1,y1,y2)=(2,(dgS y1),0):=by simp [argTk]
  rw [e1]
  clear hN hT hE hW
  go_enter Tryz.func71,Tryz.ntmps71
  go_wp2_with fail
  generalize (w.alloc (.cells #[.int .u8 1,.int .u32 y1,.string y2] 87)).alloc (.cells #[.int .u8 0,.string ⟨#[]⟩,.int .i64 0] 41)=W at *
  refine (hI).mono ?_
  rintro e w' ⟨rfl,hb⟩
  have HB:=hide (HB0.out.trans (hb.mono HB0.out.size))
  have hk2:=(hb.block (w.heap.size+1) (Array.getElem?_eq_some_iff.1 HR.out).1).trans HR.out
  have c0:=(one_block hk2).1 0
  have c1:=(one_block hk2).1 1
  have c2:=(one_block hk2).1 2
  have f:=(one_block hk2).2
  have f0:=f 0
  have f1:=f 1
  have f2:=f 2
  clear hb hk2 f
  unfold tokV
  go_wp2_with fail
  refine bodyPost_ret (v:=.agg #[.int .u8 2,.string (dgS y1),.int .i64 0]) ?_ rfl ⟨rfl,?_⟩
  ·simp [results,Tryz.results71,go_sem,c0,c1,c2,f0,f1,f2]
  ·exact ((HB.out.setCell (by simp) _).setCell (by simp) _).setCell (by simp) _
 by_cases h2:y0=2
 ·subst h2
  have e1:argTk c (2,y1,y2)=(3,(dgS y1),0):=by simp [argTk]
  rw [e1]
  clear hI hT hE hW h1
  go_enter Tryz.func71,Tryz.ntmps71
  go_wp2_with fail
  generalize (w.alloc (.cells #[.int .u8 2,.int .u32 y1,.string y2] 87)).alloc (.cells #[.int .u8 0,.string ⟨#[]⟩,.int .i64 0] 41)=W at *
  refine (hN).mono ?_
  rintro e w' ⟨rfl,hb⟩
  have HB:=hide (HB0.out.trans (hb.mono HB0.out.size))
  have hk2:=(hb.block (w.heap.size+1) (Array.getElem?_eq_some_iff.1 HR.out).1).trans HR.out
  have c0:=(one_block hk2).1 0
  have c1:=(one_block hk2).1 1
  have c2:=(one_block hk2).1 2
  have f:=(one_block hk2).2
  have f0:=f 0
  have f1:=f 1
  have f2:=f 2
  clear hb hk2 f
  unfold tokV
  go_wp2_with fail
  refine bodyPost_ret (v:=.agg #[.int .u8 3,.string (dgS y1),.int .i64 0]) ?_ rfl ⟨rfl,?_⟩
  ·simp [results,Tryz.results71,go_sem,c0,c1,c2,f0,f1,f2]
  ·exact ((HB.out.setCell (by simp) _).setCell (by simp) _).setCell (by simp) _
 by_cases h3:y0=3
 ·subst h3
  have e1:argTk c (3,y1,y2)=(4,y2,0):=by simp [argTk]
  rw [e1]
  clear hI hN hE hW h1 h2
  go_enter Tryz.func71,Tryz.ntmps71
  go_wp2_with fail
  generalize (w.alloc (.cells #[.int .u8 3,.int .u32 y1,.string y2] 87)).alloc (.cells #[.int .u8 0,.string ⟨#[]⟩,.int .i64 0] 41)=W at *
  refine (hT _).mono ?_
  rintro e w' ⟨rfl,hb⟩
  have HB:=hide (HB0.out.trans (hb.mono HB0.out.size))
  have hk2:=(hb.block (w.heap.size+1) (Array.getElem?_eq_some_iff.1 HR.out).1).trans HR.out
  have c0:=(one_block hk2).1 0
  have c1:=(one_block hk2).1 1
  have c2:=(one_block hk2).1 2
  have f:=(one_block hk2).2
  have f0:=f 0
  have f1:=f 1
  have f2:=f 2
  clear hb hk2 f
  unfold tokV
  go_wp2_with fail
  refine bodyPost_ret (v:=.agg #[.int .u8 4,.string y2,.int .i64 0]) ?_ rfl ⟨rfl,?_⟩
  ·simp [results,Tryz.results71,go_sem,c0,c1,c2,f0,f1,f2]
  ·exact ((HB.out.setCell (by simp) _).setCell (by simp) _).setCell (by simp) _
 have e1:argTk c (y0,y1,y2)=(1,enumS c y1,0):=by simp [argTk,h1,h2,h3]
 rw [e1]
 have g1:(y0 == 1)=false:=by simpa using h1
 have g2:(y0 == 2)=false:=by simpa using h2
 have g3:(y0 == 3)=false:=by simpa using h3
 clear hI hN hT e1
 go_enter Tryz.func71,Tryz.ntmps71
 go_wp2_with fail
 generalize (w.alloc (.cells #[.int .u8 y0,.int .u32 y1,.string y2] 87)).alloc (.cells #[.int .u8 0,.string ⟨#[]⟩,.int .i64 0] 41)=W at *
 refine (hE _).mono ?_
 rintro e w2 ⟨rfl,hb2⟩
 go_wp2_with fail
 refine (hW _).mono ?_
 rintro e w' ⟨rfl,hb3⟩
 have hb:=hb2.trans (hb3.mono hb2.size)
 clear hb2 hb3
 have HB:=hide (HB0.out.trans (hb.mono HB0.out.size))
 have hk2:=(hb.block (w.heap.size+1) (Array.getElem?_eq_some_iff.1 HR.out).1).trans HR.out
 have c0:=(one_block hk2).1 0
 have c1:=(one_block hk2).1 1
 have c2:=(one_block hk2).1 2
 have f:=(one_block hk2).2
 have f0:=f 0
 have f1:=f 1
 have f2:=f 2
 clear hb hk2 f
 unfold tokV
 go_wp2_with fail
 refine bodyPost_ret (v:=.agg #[.int .u8 1,.string (enumS c y1),.int .i64 0]) ?_ rfl ⟨rfl,?_⟩
 ·simp [results,Tryz.results71,go_sem,c0,c1,c2,f0,f1,f2]
 ·exact ((HB.out.setCell (by simp) _).setCell (by simp) _).setCell (by simp) _
theorem Tok.info:(Tryz.prog.info? 41).map (fun i=>(i.zero,i.size,i.bytes))=some (some (.agg #[.int .u8 0,.string ⟨#[]⟩,.int .i64 0]),3,32):=by kernel_rfl
structure LisB (w : World) (LB lo : Nat) (v : Value) (l : List TokT) : Prop where
  box : w.heap[LB]? = some (.cells #[v] 37 (0, 0))
  low : LB < lo
  top : lo ≤ w.heap.size
  own : w.ownsRow lo 41 3 v l.length (l.flatMap tokC)
structure KeepT (LB lo : Nat) (w w' : World) : Prop where
  os : w'.os = w.os
  tape : w'.tape = w.tape
  output : w'.output = w.output
  size : w.heap.size ≤ w'.heap.size
  block : ∀ b, b < lo → b ≠ LB → w'.heap[b]? = w.heap[b]?
theorem tokC_one (m:List TokT):∀ u ∈ m.flatMap tokC,u.oneCell'=true:=fun u hu=>by
 obtain ⟨t,_,hu⟩:=List.mem_flatMap.1 hu
 simp only [tokC,List.mem_cons,List.not_mem_nil,or_false] at hu
 rcases hu with rfl | rfl | rfl <;> rfl
theorem tokC_len (m:List TokT):(m.flatMap tokC).length=m.length * 3:=by
 induction m with
 | nil=>rfl
 | cons t m ih=>simp [tokC] at ih ⊢;omega
set_option maxHeartbeats 4000000 in
theorem addTok_any (LB lo:Nat) (v:Value) (l m:List TokT) (ad:Addr) (k c:Nat) (w:World) (h:LisB w LB lo v l) (hm:m.length=k) (hk:0 < k) (hc:∀ j u,(m.flatMap tokC)[j]?=some u→w.cell? (ad.add j)=some u) (hb:l.length+k≤1099511627776) :
  Calls Tryz.prog 68 #[.slice (some ad) k c,.pointer (some ⟨LB,0,none⟩)] w fun e w'=>e=.returned (.tuple #[])∧(∃ v',LisB w' LB lo v' (l ++ m))∧KeepT LB lo w w'∧(∀ b,b≠LB→b < w.heap.size→v.ownBlock≠some b→w'.heap[b]?=w.heap[b]?):=by
 obtain ⟨i0,hi,hz0,hz1,hz2⟩:=info_parts Tok.info
 have c0:=(one_block h.box).1 0
 have f0:=(one_block h.box).2 0
 have HH:=hide h
 have HC:=hide hc
 have HM:=hide hm
 clear h hc hm
 have N4:l.length+k≤maxLen:=by unfold maxLen;omega
 have N5:(l.length+k) * 32≤140737488355328:=by omega
 go_enter Tryz.func68,Tryz.ntmps68
 go_wp2_with (at_builtin;refine wpList_append_lies _ rfl (.tmp 3) (.tmp 4) 37 rfl lo 41 i0 (.agg #[.int .u8 0,.string ⟨#[]⟩,.int .i64 0]) 3 32 Tryz.underlying37 hi hz0 hz1 hz2 rfl (by decide) v l.length (l.flatMap tokC) rfl HH.out.own ad k c (m.flatMap tokC) rfl (by rw [tokC_len,HM.out]) HC.out (tokC_one m) hk N4 N5 HH.out.top _ rfl ?_)
 intro g6 cap6 w6 hown6 hgr6 hat6 hlt6
 have hbk:∀ b,b < lo→w6.heap[b]?=w.heap[b]?:=fun b hb=>hgr6.block b (by have:=HH.out.top;omega) (fun e=>by have:=(HH.out.own.lt b e.symm).1;omega)
 have hbx:=(hbk LB HH.out.low).trans HH.out.box
 have d0:=(one_block hbx).1 0
 have d1:=(one_block hbx).2 0
 have HK6:Hid (KeepT LB lo w (w6.setCell ⟨LB,0,none⟩ (.slice (some ⟨g6,0,none⟩) (l.length+k) cap6))):=⟨hgr6.os,hgr6.tape,hgr6.output,by simpa [World.setCell] using hgr6.size,fun b hb hne=>by rw [← hbk b hb];simp [World.setCell,Array.getElem?_modify];intro e;exact absurd e.symm hne⟩
 have HL6:Hid (LisB (w6.setCell ⟨LB,0,none⟩ (.slice (some ⟨g6,0,none⟩) (l.length+k) cap6)) LB lo (.slice (some ⟨g6,0,none⟩) (l.length+k) cap6) (l ++ m)):=by
  refine ⟨by simp [World.setCell,Array.getElem?_modify,hbx],HH.out.low,?_,?_⟩
  ·have:=hgr6.size;have:=HH.out.top;simp [World.setCell];omega
  ·rw [List.length_append,HM.out,List.flatMap_append]
   exact ownsRow_setCell_below hown6 HH.out.low _
 have HF6:Hid (∀ b,b≠LB→b < w.heap.size→v.ownBlock≠some b→(w6.setCell ⟨LB,0,none⟩ (.slice (some ⟨g6,0,none⟩) (l.length+k) cap6)).heap[b]?=w.heap[b]?):=fun b hne hb hn=>by
  rw [← hgr6.block b hb (fun e=>hn e.symm)]
  simp [World.setCell,Array.getElem?_modify];intro e;exact absurd e.symm hne
 clear hown6 hgr6 hat6 hlt6 hbk hbx HC c0 f0
 go_wp2
 go_end0
 exact ⟨rfl,⟨_,HL6.out⟩,HK6.out,HF6.out⟩
theorem LisB.below {w w':World} {LB lo:Nat} {v:Value} {l:List TokT} (h:LisB w LB lo v l) (hb:Below w.heap.size w w'):LisB w' LB lo v l :=
 ⟨(hb.block _ (Array.getElem?_eq_some_iff.1 h.box).1).trans h.box,h.low,Nat.le_trans h.top hb.size,own_below h.own hb⟩
structure ItB (w W : World) (xo xt xr : Int) (ax : Option Addr) (n cx F : Nat) (f : Frm) (LB lo : Nat) (v : Value) (l : List TokT) : Prop where
  ibox : W.heap[w.heap.size]? = some (.cells #[.int .u16 xo, .int .u32 xt, .int .u32 xr, .slice ax n cx] 49 (0, 0))
  fbox : W.heap[F]? = some (.cells (frmCells xo f) 89 (0, 0))
  lis : LisB W LB lo v l
  bel : Below w.heap.size w W
  low : w.heap.size < LB ∧ F < LB
theorem ItB.below {w W W':World} {xo xt xr:Int} {ax:Option Addr} {n cx F:Nat} {f:Frm} {LB lo:Nat} {v:Value} {l:List TokT} (h:ItB w W xo xt xr ax n cx F f LB lo v l) (hb:Below W.heap.size W W'):ItB w W' xo xt xr ax n cx F f LB lo v l :=
 ⟨(hb.block _ (Array.getElem?_eq_some_iff.1 h.ibox).1).trans h.ibox,(hb.block _ (Array.getElem?_eq_some_iff.1 h.fbox).1).trans h.fbox,h.lis.below hb,h.bel.trans (hb.mono h.bel.size),h.low⟩
theorem ItB.keep {w W W':World} {xo xt xr:Int} {ax:Option Addr} {n cx F:Nat} {f:Frm} {LB lo:Nat} {v v':Value} {l l':List TokT} (h:ItB w W xo xt xr ax n cx F f LB lo v l) (hk:KeepT LB lo W W') (hl:LisB W' LB lo v' l'):ItB w W' xo xt xr ax n cx F f LB lo v' l':=by
 have h1:=h.low.1
 have h2:=h.low.2
 have h3:=h.lis.low
 exact ⟨(hk.block _ (by omega) (by omega)).trans h.ibox,(hk.block _ (by omega) (by omega)).trans h.fbox,hl,⟨hk.os.trans h.bel.os,hk.tape.trans h.bel.tape,hk.output.trans h.bel.output,Nat.le_trans h.bel.size hk.size,fun i hi=>(hk.block i (by omega) (by omega)).trans (h.bel.block i hi)⟩,h.low⟩
theorem newToks_cells (w:World) (m:List TokT) (T:Nat):∀ j u,(m.flatMap tokC)[j]?=some u→(w.alloc (.cells (m.flatMap tokC).toArray T)).cell? ((⟨w.heap.size,0,none⟩:Addr).add j)=some u:=fun j u h=>by
 have hb:=heap_alloc_new w (.cells (m.flatMap tokC).toArray T)
 rw [Addr.add_lit,(one_block hb).1]
 simpa using h
theorem argTks_snoc (f:Frm) (l:List ArgT) (k:Nat) (h:k < l.length):(argTks f l).take (k+1)=(argTks f l).take k ++ [argTk (letterI f k) (nthA l k)]:=by
 rw [List.take_succ_eq_append_getElem (by rw [argTks_len];exact h)]
 congr 2
 rw [← argTks_nth f l k h]
 simp [nthT,List.getD,argTks_len,h]
theorem flat_tok:∀ (l:List TokT) (k j:Nat),k < l.length→j < 3→(l.flatMap tokC)[k * 3+j]?=(tokC (nthT l k))[j]?
 | [],k,j,h,_=>by simp at h
 | x :: l,0,j,_,hj=>by
  rw [List.flatMap_cons,Nat.zero_mul,Nat.zero_add,List.getElem?_append_left (by simp [tokC];omega)];rfl
 | x :: l,k+1,j,h,hj=>by
  have ih:=flat_tok l k j (by simpa using h) hj
  rw [List.flatMap_cons,List.getElem?_append_right (by simp [tokC];omega)]
  have:(k+1) * 3+j - (tokC x).length=k * 3+j:=by simp [tokC];omega
  rw [this,ih];rfl
theorem toksV_own {w:World} {lo T n:Nat} {v:Value} {l:List TokT} (h:w.ownsRow lo T 3 v n (l.flatMap tokC)):∃ a m c,v=.slice a m c∧ToksV w a l∧l.length=m:=by
 have hl:l.length * 3=n * 3:=by rw [← tokC_len];exact h.1
 have hc:=fun g hg=>h.cells (g:=g) hg
 rcases h.2 with ⟨rfl,rfl⟩ | ⟨g,cap,cur,rfl,_,hg,_⟩
 ·exact ⟨none,0,0,rfl,fun j hj=>by omega,by omega⟩
 ·refine ⟨some ⟨g,0,none⟩,n,cap,rfl,fun j hj=>⟨g,0,rfl,(Array.getElem?_eq_some_iff.1 hg).1,?_,?_,?_⟩,by omega⟩
  ·have:=hc g rfl (j * 3) _ (flat_tok l j 0 hj (by decide))
   rw [Addr.add_lit] at this;exact this
  ·have:=hc g rfl (j * 3+1) _ (flat_tok l j 1 hj (by decide))
   rw [Addr.add_lit] at this;exact this
  ·have:=hc g rfl (j * 3+2) _ (flat_tok l j 2 hj (by decide))
   rw [Addr.add_lit] at this;exact this
theorem inBlock_thenP {l:Nat} {K:Act→World→Prop} {Q:Exit→Act→World→Prop} {a:Act} {w:World}:Exit.inBlock l (Exit.then K Q) .normal a w=K a w:=rfl
end Go.Proofs.YtddkapkkjhomkabGreatDoor
