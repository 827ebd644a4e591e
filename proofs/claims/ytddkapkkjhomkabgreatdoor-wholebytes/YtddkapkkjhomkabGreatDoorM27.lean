/-
  Texts laid together in one: MathWl, MathRd, MathPt, MathPz, PrintLine, PrintString, MathPx, PrintTextOf, PrintText, Law08Awake.
-/
import Derived.WalkSpells
import Derived.Test.YtddkapkkjhomkabGreatDoorM26
import Derived.Test.YtddkapkkjhomkabGreatDoorM16
import Derived.WalkMore
import Derived.BigRegion
import Derived.Lib.BufferKept
import Derived.Test.YtddkapkkjhomkabGreatDoorProg
import Derived.Test.YtddkapkkjhomkabGreatDoorM15
import Derived.Test.YtddkapkkjhomkabGreatDoorM18
import Derived.Test.YtddkapkkjhomkabGreatDoorM19
import Derived.Test.YtddkapkkjhomkabGreatDoorM17
import Derived.Shelf.Strings.BuilderK
import Derived.Lib.UnsafeStr
import Derived.WalkKit
import Derived.BigQuiet
import Derived.Deep.RegionHeld2
import Derived.Test.YtddkapkkjhomkabGreatDoorM01
import Derived.Test.YtddkapkkjhomkabGreatDoorM02
import Derived.Test.YtddkapkkjhomkabGreatDoorM03
import Derived.Deep.RegionWith
import Derived.Deep.DrawnRows
import Derived.Test.YtddkapkkjhomkabGreatDoorM14
set_option linter.unusedVariables false
set_option linter.unusedSimpArgs false
set_option maxRecDepth 10000
namespace Go.Proofs.YtddkapkkjhomkabGreatDoor
open Go.RowKit

/-! ### lines -/

def joinLs (l:List (List Int)):List Int:=l.flatMap fun a=>a ++ [10]
def numbered:Nat→List (List Int)→List (Nat × ByteArray)
 | _,[]=>[]
 | n,a :: r=>(n,strOfNums a) :: numbered (n+1) r
def LineOk (a:List Int):Prop:=Within 256 a∧∀ z ∈ a,z≠10
theorem joinLs_within {l:List (List Int)} (h:∀ a ∈ l,LineOk a):Within 256 (joinLs l):=fun z hz=>by
 obtain ⟨a,ha,hz⟩:=List.mem_flatMap.1 hz
 rcases List.mem_append.1 hz with hz | hz
 ·exact (h a ha).1 z hz
 ·have:=List.mem_singleton.1 hz;omega
theorem line_cut {a b:List Int} (ha:LineOk a) (hb:Within 256 b):cutAX (strOfNums (a ++ 10 :: b))=strOfNums a∧cutZ (strOfNums (a ++ 10 :: b))=strOfNums b∧(strOfNums (a ++ 10 :: b)).size≠0:=by
 have hw:Within 256 (a ++ 10 :: b):=within_appX ha.1 (within_cons (by omega) (by omega) hb)
 have hs:=strI_of hw
 have hn:nlAt (strOfNums (a ++ 10 :: b))=a.length:=by
  refine nl_some ?_ fun k hk=>?_
  ·rw [← strI_ten,hs];simp
  ·rw [Ne,← strI_ten,hs,List.getElem?_append_left hk]
   intro e
   exact ha.2 10 (List.mem_of_getElem? e) rfl
 have hz:(strOfNums (a ++ 10 :: b)).size=a.length+1+b.length:=by rw [← strI_len,hs];simp;omega
 obtain ⟨c1,c2⟩:=cut_some hn
 refine ⟨?_,?_,by omega⟩
 ·rw [c1];apply strI_inj
  rw [strI_extract,hs,strI_of ha.1];simp
 ·rw [c2];apply strI_inj
  rw [strI_extract,hs,strI_of hb,hz]
  rw [List.take_of_length_le (by simp;omega),List.drop_append,List.drop_eq_nil_of_le (by omega)]
  simp
theorem lines_of:∀ (l:List (List Int)) (n f:Nat),(∀ a ∈ l,LineOk a)→(strOfNums (joinLs l)).size≤f→linesF f n (strOfNums (joinLs l))=numbered n l
 | [],n,f,_,_=>linesF_empty _ _ _ rfl
 | a :: r,n,f,h,hf=>by
  have hr:∀ b ∈ r,LineOk b:=fun b hb=>h b (by simp [hb])
  have e:joinLs (a :: r)=a ++ 10 :: joinLs r:=by simp [joinLs]
  obtain ⟨c1,c2,c3⟩:=line_cut (h a (by simp)) (joinLs_within hr)
  rw [e] at hf ⊢
  obtain ⟨f',e1,e2⟩:=linesF_step f n _ c3 hf
  rw [e1,c1,c2,numbered,lines_of r (n+1) f' hr (by rw [← c2];exact e2)]
theorem lines_text {l:List (List Int)} (h:∀ a ∈ l,LineOk a):linesT (strOfNums (joinLs l))=numbered 1 l:=lines_of l 1 _ h (Nat.le_refl _)
/-! ### what a line adds -/

def stAfter (st:ModT) (l:List InstT):ModT:=(st.1,st.2.1,st.2.2.1+((wsum st.2.1 l:Nat):Int),st.2.2.2 ++ l)
theorem stAfter_cons (st:ModT) (x:InstT) (l:List InstT):stAfter (st.1,st.2.1,st.2.2.1+(1+((rawWs x st.2.1).length:Int)),st.2.2.2 ++ [x]) l=stAfter st (x :: l):=by
 unfold stAfter wsum
 simp only [List.map_cons,List.sum_cons,List.append_assoc,List.singleton_append]
 congr 3
 push_cast
 omega
/-! ### a module's shape -/

theorem shapeF_sum {b:Int}:∀ (l:List InstT) (k c:Nat),(shapeF b k c l).1=0→c≤1048576→c+wsum b l≤1048576∧∀ x ∈ l,rawE x b=0
 | [],_,c,_,hc=>⟨by simpa [wsum] using hc,fun x hx=>by cases hx⟩
 | x :: l,k,c,h,hc=>by
  rw [shapeF] at h
  by_cases h1:rawE x b=0
  ·rw [if_neg (by rw [h1];simp)] at h
   by_cases h2:1048576 < c+1+(rawWs x b).length
   ·rw [if_pos h2] at h;cases h
   ·rw [if_neg h2] at h
    obtain ⟨s1,s2⟩:=shapeF_sum l _ _ h (by omega)
    refine ⟨by simp only [wsum,List.map_cons,List.sum_cons] at s1 ⊢;omega,fun y hy=>?_⟩
    rcases List.mem_cons.1 hy with rfl | hy
    ·exact h1
    ·exact s2 y hy
  ·rw [if_pos h1] at h;exact absurd h h1
theorem shape_sum {b:Int} {l:List InstT} (h:(shapeE b l).1=0):5+wsum b l≤1048576∧∀ x ∈ l,rawE x b=0:=by
 unfold shapeE at h
 split at h
 ·cases h
 ·exact shapeF_sum l 0 5 h (by omega)
theorem oks_mem {l:List InstT} (h:InstsOk l):∀ x ∈ l,InstOk x:=fun x hx=>by
 obtain ⟨k,hk,rfl⟩:=List.getElem_of_mem hx
 have:=h k hk
 rwa [nthI_lt _ _ hk] at this
/-! ### sizes -/

theorem wordsL_ge:∀ (l:List ArgT),l.length≤(wordsL l).length∧∀ a ∈ l,(wordsA a).length≤(wordsL l).length
 | []=>⟨by simp,fun a ha=>by cases ha⟩
 | x :: l=>by
  obtain ⟨h1,h2⟩:=wordsL_ge l
  have e:(wordsL (x :: l)).length=(wordsA x).length+(wordsL l).length:=by simp [wordsL]
  have hx:1≤(wordsA x).length:=by rw [wordsA_len];split <;> omega
  refine ⟨by rw [e,List.length_cons];omega,fun a ha=>?_⟩
  rcases List.mem_cons.1 ha with rfl | ha
  ·omega
  ·have:=h2 a ha;omega
theorem tksI_size {x:InstT} {b:Int} (hx:InstOk x) (hr:rawE x b=0):∀ t ∈ tksI x,t.2.1.size≤300000:=by
 obtain ⟨h1,h2,h3⟩:=rawWs_ok hr
 obtain ⟨i1,i2,i3,i4,i5⟩:=faultI_zero h2
 obtain ⟨o,ho,hf,hof,hnz,hwd⟩:=name_op h1
 obtain ⟨x1,x2,x3,x4,x5,x6,x7,x8⟩:=hx
 intro t ht
 unfold tksI at ht
 rcases List.mem_append.1 ht with ht | ht
 ·have d1:=dgS_size x6
  have d2:=dgS_size x4
  have d3:eqS.size=1:=rfl
  unfold preTk at ht
  cases e1:(lookF refT x.1).1.2.2.1 <;> cases e2:(lookF refT x.1).1.2.1 <;> simp [e1,e2] at ht
  ·subst ht;simp only;omega
  ·rcases ht with rfl | rfl <;> simp only <;> omega
  ·rcases ht with rfl | rfl | rfl <;> simp only <;> omega
  ·rcases ht with rfl | rfl | rfl | rfl <;> simp only <;> omega
 ·unfold argTks at ht
  obtain ⟨k,hk,rfl⟩:=List.mem_map.1 ht
  have hk:=List.mem_range.1 hk
  have hok:=x7 k hk
  have hm:nthA x.2.2.2 k ∈ x.2.2.2:=by rw [nthA_lt _ _ hk];exact List.getElem_mem hk
  have hw:=(wordsL_ge x.2.2.2).2 _ hm
  have hrl:(wordsL x.2.2.2).length≤(rawL (lookF refT x.1).1 x).length:=by unfold rawL;rw [List.length_append];omega
  have hd:=dgS_size hok.2.2.2.1
  have hwr:=wrongL_zero i3 k hk
  rw [Nat.zero_add] at hwr
  rw [wordsA_len] at hw
  unfold argTk
  by_cases e1:(nthA x.2.2.2 k).1=1
  ·rw [if_pos e1];simp only;omega
  ·rw [if_neg e1]
   by_cases e2:(nthA x.2.2.2 k).1=2
   ·rw [if_pos e2];simp only;omega
   ·rw [if_neg e2]
    by_cases e3:(nthA x.2.2.2 k).1=3
    ·rw [if_pos e3];simp only
     rw [if_pos e3] at hw;omega
    ·rw [if_neg e3];simp only
     have:(enumS (letterI (lookF refT x.1).1 (k:Int)) (nthA x.2.2.2 k).2.1).size≤1000:=by
      by_cases h:enumB (letterI (lookF refT x.1).1 (k:Int)) (nthA x.2.2.2 k).2.1=true
      ·exact (name_enum h).2.2.2
      ·unfold enumB at h
       unfold enumS
       cases e:namesT.find? (isNum (letterI (lookF refT x.1).1 (k:Int)) (nthA x.2.2.2 k).2.1) with
       | none=>decide
       | some x=>rw [e] at h;simp at h
     omega
/-! ### lines with a last one that has no end -/

/-! ### notes -/

/-! ### the head -/

def modS:ByteArray:=⟨#[109,111,100,117,108,101]⟩
def headTk (g b:Int):List TokT:=[(1,modS,0),(3,dgS g,0),(3,dgS b,0)]
def headL (g b:Int):List Int:=(wtAll (headTk g b)).drop 1
theorem headTk_ok {g b:Int} (g1:g < 4294967296) (b1:b < 4294967296):wOk (headTk g b)=true:=by
 have e1:tokOk 3 (strI (dgS g))=true:=by show numB _=true;rw [strI_dgS];exact (dgL_num (by omega)).1
 have e2:tokOk 3 (strI (dgS b))=true:=by show numB _=true;rw [strI_dgS];exact (dgL_num (by omega)).1
 have e3:tokOk 1 (strI modS)=true:=by decide
 simp [wOk,headTk,e1,e2,e3]
theorem headL_ok {g b:Int} (g1:g < 4294967296) (b1:b < 4294967296):LineOk (headL g b):=by
 have hok:=headTk_ok (g:=g) (b:=b) g1 b1
 simp only [wOk,List.all_eq_true] at hok
 have hno:∀ z ∈ headL g b,32≤z:=fun z hz=>by
  obtain ⟨t,ht,hz⟩:=List.mem_flatMap.1 (List.mem_of_mem_drop hz)
  rcases List.mem_cons.1 hz with rfl | hz
  ·omega
  ·have:=wtS_no (hok t ht) z hz;omega
 refine ⟨within_dropX ?_ 1,fun z hz e=>by have:=hno z hz;omega⟩
 intro z hz
 obtain ⟨t,ht,hz⟩:=List.mem_flatMap.1 hz
 rcases List.mem_cons.1 hz with rfl | hz
 ·omega
 ·simp only [headTk,List.mem_cons,List.not_mem_nil,or_false] at ht
  rcases ht with rfl | rfl | rfl <;> exact strI_within _ z (by simpa [wtS] using hz)
theorem head_read {g b:Int} (g0:0≤g) (g1:g < 4294967296) (b0:1≤b) (b1:b≤65536):addS st0 (strOfNums (headL g b))=(0,(g,b,5,[])):=by
 have ht:=toks_wt (headTk g b) (headTk_ok g1 (by omega))
 have hsm:=placedW_same (headTk g b) 0
 have hl:(placedW 0 (headTk g b)).length=3:=by rw [placedW_len];rfl
 obtain ⟨a1,a2⟩:=hsm.2 0 (by simp [headTk])
 obtain ⟨c1,c2⟩:=hsm.2 1 (by simp [headTk])
 obtain ⟨d1,d2⟩:=hsm.2 2 (by simp [headTk])
 have e0:nthT (headTk g b) 0=(1,modS,0):=rfl
 have e1:nthT (headTk g b) 1=(3,dgS g,0):=rfl
 have e2:nthT (headTk g b) 2=(3,dgS b,0):=rfl
 rw [e0] at a1 a2;rw [e1] at c1 c2;rw [e2] at d1 d2
 simp only at a1 a2 c1 c2 d1 d2
 obtain ⟨n1,n2⟩:=num_back g0 g1
 obtain ⟨n3,n4⟩:=num_back (n:=b) (by omega) (by omega)
 have p1:numP (nthT (placedW 0 (headTk g b)) 1)=0:=by rw [numP_num c1,c2];exact n1
 have p2:numP (nthT (placedW 0 (headTk g b)) 2)=0:=by rw [numP_num d1,d2];exact n3
 have hh:∀ len,headP (placedW 0 (headTk g b)) len=(g,b,0,0):=fun len=>by
  unfold headP
  rw [if_neg (by rw [hl];simp),if_neg (by simp only [a1,a2];simp [modS,moduleS]),if_neg (by omega),if_neg (by rw [p1];simp),if_neg (by omega),if_neg (by rw [p2];simp),c2,d2,n2,n4,if_neg (by omega),if_neg (by omega)]
 unfold addS
 rw [strI_of (headL_ok g1 (by omega)).1]
 have hX:toksP (headL g b) 0=(placedW 0 (headTk g b),0,0):=ht
 rw [hX]
 simp only
 rw [if_neg (by intro h;rcases h with h | h;exact h rfl;rw [h] at hl;cases hl),if_pos (show st0.2.2.1=0 from rfl),hh]
 simp
/-! ### the whole -/
def prI (x:InstT):List Int:=(wAll (tksI x)).drop 1
theorem placed_same (l:List TokT):SameT (placed 0 l) l:=⟨placed_len l 0,fun k hk=>alike_placed hk⟩
theorem prI_read {x:InstT} {b:Int} (hx:InstOk x) (hr:rawE x b=0):∃ ps,toksP (prI x) 0=(ps,0,0)∧ps≠[]∧ps.length=(tksI x).length∧∀ len,lineP ps len b=(x,true,0,0):=by
 refine ⟨placed 0 (tksI x),toks_written _ (tksI_ok hx hr),fun e=>?_,placed_len _ _,fun len=>line_back hx hr (placed_same _)⟩
 have:=congrArg List.length e
 rw [placed_len] at this
 exact tksI_ne x (List.length_eq_zero_iff.1 this)
theorem prI_within (x:InstT):Within 256 (prI x):=within_dropX (wAll_within _) 1
theorem tokS_no {t:TokT} (h:tokOk t.1 (strI t.2.1)=true):∀ z ∈ tokS t.1 (strI t.2.1),32≤z:=fun z hz=>by
 by_cases e4:t.1=4
 ·rw [e4] at hz
  exact (quote_print _ (strI_within _) z (by simpa [tokS] using hz)).1
 ·rw [← wtS_tok e4] at hz
  have:=wtS_no h z hz;omega
theorem prI_ok {x:InstT} {b:Int} (hx:InstOk x) (hr:rawE x b=0):LineOk (prI x):=by
 refine ⟨prI_within x,fun z hz e=>?_⟩
 obtain ⟨t,ht,hz⟩:=List.mem_flatMap.1 (List.mem_of_mem_drop hz)
 have hok:=tksI_ok hx hr
 simp only [wOk,List.all_eq_true] at hok
 rcases List.mem_cons.1 hz with rfl | hz
 ·omega
 ·have:=tokS_no (hok t ht) z hz;omega
theorem add_pr {st:ModT} {x:InstT} (hx:InstOk x) (hr:rawE x st.2.1=0) (h0:st.2.2.1≠0) (hw:st.2.2.1+(1+((rawWs x st.2.1).length:Int))≤1048576) :
  addS st (strOfNums (prI x))=(0,(st.1,st.2.1,st.2.2.1+(1+((rawWs x st.2.1).length:Int)),st.2.2.2 ++ [x])):=by
 obtain ⟨ps,h1,h2,_,h3⟩:=prI_read hx hr
 unfold addS
 rw [strI_of (prI_within x),h1]
 simp only
 rw [if_neg (by simp [h2]),if_neg h0,h3]
 simp only
 rw [if_neg (by simp),if_neg (by omega)]
theorem go_pr:∀ (l:List InstT) (st:ModT) (n:Nat),(∀ x ∈ l,InstOk x∧rawE x st.2.1=0)→0 < st.2.2.1→st.2.2.1+((wsum st.2.1 l:Nat):Int)≤1048576→goL st (numbered n (l.map fun x=>prI x))=(0,0,stAfter st l)
 | [],st,n,_,_,_=>by
  have:stAfter st []=st:=by simp [stAfter,wsum]
  rw [this];rfl
 | x :: l,st,n,h,h0,hw=>by
  have hx:=h x (by simp)
  have es:wsum st.2.1 (x :: l)=(1+(rawWs x st.2.1).length)+wsum st.2.1 l:=by simp [wsum]
  rw [es] at hw
  have ha:=add_pr hx.1 hx.2 (by omega) (by push_cast at hw;omega)
  rw [List.map_cons,numbered,goL,ha,if_neg (by simp)]
  have ih:=go_pr l (st.1,st.2.1,st.2.2.1+(1+((rawWs x st.2.1).length:Int)),st.2.2.2 ++ [x]) (n+1) (fun y hy=>h y (by simp [hy])) (by show (0:Int) < st.2.2.1+_;omega) (by show st.2.2.1+(1+((rawWs x st.2.1).length:Int))+((wsum st.2.1 l:Nat):Int)≤_;push_cast at hw;omega)
  rw [stAfter_cons] at ih
  exact ih
def textP (g b:Int) (l:List InstT):List Int:=joinLs (headL g b :: l.map fun x=>prI x)
theorem textP_ok {g:Int} {N:Nat} {l:List InstT} (g1:g < 4294967296) (hok:InstsOk l) (hs:(shapeE (N:Int) l).1=0):∀ a ∈ headL g (N:Int) :: l.map (fun x=>prI x),LineOk a:=fun a ha=>by
 have hsb:=shape_bound hs
 rcases List.mem_cons.1 ha with rfl | ha
 ·exact headL_ok g1 (by omega)
 ·obtain ⟨x,hx,rfl⟩:=List.mem_map.1 ha
  exact prI_ok (oks_mem hok x hx) ((shape_sum hs).2 x hx)
theorem print_parse {g:Int} {N:Nat} {l:List InstT} (g0:0≤g) (g1:g < 4294967296) (hok:InstsOk l) (hs:(shapeE (N:Int) l).1=0) (hz:(strOfNums (textP g (N:Int) l)).size≤16777216) :
  parseS (strOfNums (textP g (N:Int) l))=((g,(N:Int),l),0,0):=by
 obtain ⟨h5,hraw⟩:=shape_sum hs
 have hsb:=shape_bound hs
 have hix:=oks_mem hok
 have hxx:∀ x ∈ l,InstOk x∧rawE x (N:Int)=0:=fun x hx=>⟨hix x hx,hraw x hx⟩
 have hgo:goL st0 (linesT (strOfNums (textP g (N:Int) l)))=(0,0,(g,(N:Int),5+((wsum (N:Int) l:Nat):Int),l)):=by
  unfold textP
  rw [lines_text (textP_ok g1 hok hs),numbered,goL,head_read g0 g1 (by omega) (by omega),if_neg (by simp)]
  show goL ((g,(N:Int),5,[]):ModT) _=_
  rw [go_pr l ((g,(N:Int),5,[]):ModT) (1+1) hxx (by show (0:Int) < 5;omega) (by show (5:Int)+((wsum (N:Int) l:Nat):Int)≤1048576;omega)]
  rfl
 unfold parseS
 rw [if_neg (by omega),hgo,if_neg (by simp),if_neg (by simp only;omega)]
def exF (c:Int):Int:=if c=105 then -4 else if c=110 then -5 else if c=115 then -1 else if c=100 then 1 else 0
def exL (s : ByteArray) : Int := (s.data.toList.map fun x => exF (x.toNat : Int)).foldr (· + ·) 0
def longRow (p:Int × Frm):Bool:=decide ((p.2.1.size:Int)+1 - 16+(if p.2.2.2.1 then -2 else 0)+(if p.2.2.1 then -4 else 0)+exL p.2.2.2.2.1≤0) && p.2.2.2.2.2.1.data.toList.all (fun x=>decide (exF (x.toNat:Int)≤0))
theorem longRows:refT.all longRow=true:=by decide +kernel
def longName (x:Int × Int × ByteArray):Bool:=decide ((x.2.2.size:Int)+1≤16+exF x.1)
theorem longNames:namesT.all longName=true:=by decide +kernel
theorem enum_len {c n:Int} (h:enumB c n=true):((enumS c n).size:Int)+1≤16+exF c:=by
 unfold enumB at h
 obtain ⟨x,hx⟩:=Option.isSome_iff_exists.1 h
 have e:enumS c n=x.2.2:=by unfold enumS;rw [hx]
 have hr:=List.all_eq_true.1 longNames x (List.mem_of_find?_eq_some hx)
 have hp:=List.find?_some hx
 simp only [isNum,Bool.and_eq_true,beq_iff_eq] at hp
 simp only [longName,decide_eq_true_eq] at hr
 rw [e,← hp.1];exact hr
theorem arg_len {c b:Int} {x:ArgT} (hok:ArgOk x) (hk:kindI c≠0) (h:wrongA c x b=0):((tokS (argTk c x).1 (strI (argTk c x).2.1)).length:Int)+1≤16 * ((wordsA x).length:Int)+exF c:=by
 obtain ⟨hc,hkd⟩:=wrongA_kind h
 obtain ⟨o1,o2,o3,o4,o5⟩:=hok
 have hm:=kindI_most c
 have hd:=dgS_size o4
 have hk1:kindI c=1→exF c=-4:=fun e=>by
  unfold kindI at e
  by_cases e1:c=105
  ·unfold exF;rw [if_pos e1]
  ·rw [if_neg e1] at e
   repeat' (split at e)
   all_goals omega
 have hk2:kindI c=2→exF c=-5:=fun e=>by
  unfold kindI at e
  by_cases e1:c=105
  ·rw [if_pos e1] at e;omega
  ·rw [if_neg e1] at e
   by_cases e2:c=110
   ·unfold exF;rw [if_neg e1,if_pos e2]
   ·rw [if_neg e2] at e
    repeat' (split at e)
    all_goals omega
 have hk3:kindI c=3→exF c=-1:=fun e=>by
  unfold kindI at e
  by_cases e1:c=105
  ·rw [if_pos e1] at e;omega
  ·rw [if_neg e1] at e
   by_cases e2:c=110
   ·rw [if_pos e2] at e;omega
   ·rw [if_neg e2] at e
    by_cases e3:c=115
    ·unfold exF;rw [if_neg e1,if_neg e2,if_pos e3]
    ·rw [if_neg e3] at e
     repeat' (split at e)
     all_goals omega
 rw [wordsA_len]
 unfold argTk
 by_cases e1:x.1=1
 ·rw [if_pos e1,if_neg (by omega),hk1 (by omega)]
  show ((tokS 2 (strI (dgS x.2.1))).length:Int)+1≤_
  have:(tokS 2 (strI (dgS x.2.1))).length=(dgS x.2.1).size+1:=by simp [tokS,strI_len]
  omega
 ·rw [if_neg e1]
  by_cases e2:x.1=2
  ·rw [if_pos e2,if_neg (by omega),hk2 (by omega)]
   show ((tokS 3 (strI (dgS x.2.1))).length:Int)+1≤_
   have:(tokS 3 (strI (dgS x.2.1))).length=(dgS x.2.1).size:=by simp [tokS,strI_len]
   omega
  ·rw [if_neg e2]
   by_cases e3:x.1=3
   ·rw [if_pos e3,if_pos e3,hk3 (by omega)]
    show ((tokS 4 (strI x.2.2)).length:Int)+1≤_
    have h4:(tokS 4 (strI x.2.2)).length≤4 * x.2.2.size+2:=by
     have:=quoteL_len (strI x.2.2)
     rw [strI_len] at this
     simpa [tokS] using this
    omega
   ·rw [if_neg e3,if_neg e3]
    show ((tokS 1 (strI (enumS c x.2.1))).length:Int)+1≤_
    have e4:kindI c=4:=by omega
    have hn:enumB c x.2.1=true:=by
     unfold wrongA at h
     by_cases em:mayStandB c x=false
     ·rw [if_pos em] at h;cases h
     ·rw [if_neg em,if_neg e3] at h
      unfold faultW at h
      rw [if_neg (by omega),if_pos e4] at h
      by_cases hb:enumB c x.2.1=true
      ·exact hb
      ·rw [if_neg hb] at h;cases h
    have:=enum_len hn
    have:(tokS 1 (strI (enumS c x.2.1))).length=(enumS c x.2.1).size:=by simp [tokS,strI_len]
    omega
def exTo (f:Frm):Nat→Int
 | 0=>0
 | n+1=>exTo f n+exF (letterI f (n:Int))
theorem args_len {f:Frm} {b:Int} {l:List ArgT} (hok:ArgsOk l) (h:∀ j,j < l.length→wrongA (letterI f (j:Int)) (nthA l j) b=0) (hkn:∀ j,j < l.length→kindI (letterI f (j:Int))≠0):∀ n,n≤l.length→((wAll ((argTks f l).take n)).length:Int)≤16 * ((wordsL (l.take n)).length:Int)+exTo f n
 | 0,_=>by simp [wAll,wordsL,exTo]
 | n+1,hn=>by
  have ih:=args_len hok h hkn n (by omega)
  have ha:=arg_len (hok n (by omega)) (hkn n (by omega)) (h n (by omega))
  have e1:(argTks f l).take (n+1)=(argTks f l).take n ++ [argTk (letterI f n) (nthA l n)]:=by
   rw [List.take_succ_eq_append_getElem (by rw [argTks_len];omega)]
   congr 2
   rw [← argTks_nth f l n (by omega)]
   simp [nthT,List.getD,argTks_len,show n < l.length by omega]
  have e2:l.take (n+1)=l.take n ++ [nthA l n]:=by
   rw [List.take_succ_eq_append_getElem (by omega:n < l.length),nthA_lt _ _ (by omega:n < l.length)]
  have e3:(wAll ((argTks f l).take n ++ [argTk (letterI f n) (nthA l n)])).length=(wAll ((argTks f l).take n)).length+((tokS (argTk (letterI f n) (nthA l n)).1 (strI (argTk (letterI f n) (nthA l n)).2.1)).length+1):=by simp [wAll]
  have e4:(wordsL (l.take n ++ [nthA l n])).length=(wordsL (l.take n)).length+(wordsA (nthA l n)).length:=by simp [wordsL]
  rw [e1,e2,e3,e4,exTo]
  push_cast
  omega
theorem exTo_fix (f : Frm) : ∀ n, n ≤ f.2.2.2.1.size → exTo f n = ((f.2.2.2.1.data.toList.take n).map fun x => exF (x.toNat : Int)).foldr (· + ·) 0 := by
  have hsum : ∀ (a : List Int) (z : Int), (a ++ [z]).foldr (· + ·) 0 = a.foldr (· + ·) 0 + z := fun a z => by
    induction a with
    | nil => simp
    | cons c a ih => simp only [List.cons_append, List.foldr_cons, ih]; omega
  intro n
  induction n with
  | zero => intro _; simp [exTo]
  | succ n ih =>
    intro h
    have hl : n < f.2.2.2.1.data.toList.length := by rw [Array.length_toList]; exact h
    rw [exTo, ih (by omega), List.take_succ_eq_append_getElem hl, List.map_append, List.map_singleton, hsum]
    congr 2
    have hL : letterI f (n : Int) = sgn f.2.2.2.1 n := by unfold letterI; rw [if_neg (by omega), if_pos (by omega)]; rfl
    rw [hL]
    unfold sgn
    rw [List.getD_eq_getElem?_getD, List.getElem?_eq_getElem hl]
    rfl
theorem exF_rest {f:Frm} (h:f.2.2.2.2.1.data.toList.all (fun x=>decide (exF (x.toNat:Int)≤0))=true) {n:Nat} (hn:f.2.2.2.1.size≤n):exF (letterI f (n:Int))≤0:=by
 unfold letterI
 rw [if_neg (by omega),if_neg (by omega)]
 split
 ·unfold sgn
  rw [List.getD_eq_getElem?_getD]
  cases e:f.2.2.2.2.1.data.toList[(((n:Int) - (f.2.2.2.1.size:Int)) % (f.2.2.2.2.1.size:Int)).toNat]? with
  | none=>simp [exF]
  | some x =>
   have:=List.all_eq_true.1 h x (List.mem_of_getElem? e)
   simpa using this
 ·decide
theorem exTo_rest {f:Frm} (h:f.2.2.2.2.1.data.toList.all (fun x=>decide (exF (x.toNat:Int)≤0))=true):∀ n,f.2.2.2.1.size≤n→exTo f n≤exL f.2.2.2.1:=by
 intro n hn
 induction n with
 | zero =>
  have h0:f.2.2.2.1.size=0:=by omega
  have:=exTo_fix f 0 (by omega)
  have hnil:f.2.2.2.1.data.toList=[]:=List.length_eq_zero_iff.1 (by rw [Array.length_toList];exact h0)
  unfold exL
  rw [hnil];simp [exTo]
 | succ n ih =>
  by_cases e:f.2.2.2.1.size≤n
  ·have:=ih e
   have h2:=exF_rest h e
   rw [exTo];omega
  ·have e2:n+1=f.2.2.2.1.size:=by omega
   rw [e2,exTo_fix f _ (Nat.le_refl _),List.take_of_length_le (by rw [Array.length_toList];exact Nat.le_refl _)]
   exact Int.le_refl _
theorem prI_len {x:InstT} {b:Int} (hx:InstOk x) (hr:rawE x b=0):(prI x).length+1≤16 * (1+(rawWs x b).length):=by
 obtain ⟨h1,h2,h3⟩:=rawWs_ok hr
 obtain ⟨i1,i2,i3,i4,i5⟩:=faultI_zero h2
 obtain ⟨x1,x2,x3,x4,x5,x6,x7,x8⟩:=hx
 have hrow:=List.all_eq_true.1 longRows _ (look_memW h1)
 simp only [longRow,Bool.and_eq_true,decide_eq_true_eq] at hrow
 obtain ⟨r1,r2⟩:=hrow
 have hw:∀ j,j < x.2.2.2.length→wrongA (letterI (lookF refT x.1).1 (j:Int)) (nthA x.2.2.2 j) b=0:=fun j hj=>by
  have:=wrongL_zero i3 j hj
  rwa [Nat.zero_add] at this
 have hkn:∀ j,j < x.2.2.2.length→kindI (letterI (lookF refT x.1).1 (j:Int))≠0:=fun j hj=>by
  rcases letter_known x.1 (j:Int) with h | h
  ·exact absurd h (wrongA_kind (hw j hj)).1
  ·exact h
 have ha:=args_len x7 hw hkn x.2.2.2.length (Nat.le_refl _)
 rw [List.take_of_length_le (by rw [argTks_len];omega),List.take_of_length_le (Nat.le_refl _)] at ha
 have hn:(lookF refT x.1).1.2.2.2.1.size≤x.2.2.2.length:=by
  unfold wholeN at i4
  split at i4
  ·cases i4
  ·omega
 have hex:=exTo_rest r2 _ hn
 have d1:=dgS_size x6
 have d2:=dgS_size x4
 have hp:((wAll (preTk (lookF refT x.1).1 x)).length:Int)≤((lookF refT x.1).1.1.size:Int)+1+(if (lookF refT x.1).1.2.2.1 then 14 else 0)+(if (lookF refT x.1).1.2.1 then 12 else 0):=by
  have t2:∀ s:ByteArray,(tokS 2 (strI s)).length=s.size+1:=fun s=>by simp [tokS,strI_len]
  have t1:∀ s:ByteArray,(tokS 1 (strI s)).length=s.size:=fun s=>by simp [tokS,strI_len]
  have t5:(tokS 5 (strI eqS)).length=1:=rfl
  unfold preTk wAll
  cases (lookF refT x.1).1.2.2.1 <;> cases (lookF refT x.1).1.2.1 <;> simp [t1,t2,t5] <;> omega
 have hh:((rawL (lookF refT x.1).1 x).length:Int)=(if (lookF refT x.1).1.2.2.1 then 1 else 0)+(if (lookF refT x.1).1.2.1 then 1 else 0)+((wordsL x.2.2.2).length:Int):=by
  unfold rawL headW
  cases (lookF refT x.1).1.2.2.1 <;> cases (lookF refT x.1).1.2.1 <;> simp <;> omega
 have he:(wAll (tksI x)).length=(wAll (preTk (lookF refT x.1).1 x)).length+(wAll (argTks (lookF refT x.1).1 x.2.2.2)).length:=by unfold tksI wAll;simp
 have hpos:1≤(wAll (tksI x)).length:=by
  cases e:tksI x with
  | nil=>exact absurd e (tksI_ne x)
  | cons a r=>simp [wAll]
 have hl:(prI x).length+1=(wAll (tksI x)).length:=by unfold prI;rw [List.length_drop];omega
 rw [hl,he,h3]
 cases e1:(lookF refT x.1).1.2.2.1 <;> cases e2:(lookF refT x.1).1.2.1 <;> simp only [e1,e2,if_true,if_false,Bool.false_eq_true] at hp hh r1 <;> omega
theorem textP_size {g:Int} {N:Nat} {l:List InstT} (g1:g < 4294967296) (hok:InstsOk l) (hs:(shapeE (N:Int) l).1=0):(strOfNums (textP g (N:Int) l)).size≤16777216:=by
 obtain ⟨h5,hraw⟩:=shape_sum hs
 have hsb:=shape_bound hs
 have hix:=oks_mem hok
 have e:(strOfNums (textP g (N:Int) l)).size=(textP g (N:Int) l).length:=by simp [strOfNums,ByteArray.size]
 have hj:∀ l:List InstT,(∀ x ∈ l,InstOk x∧rawE x (N:Int)=0)→(joinLs (l.map fun x=>prI x)).length≤16 * wsum (N:Int) l:=fun l=>by
  induction l with
  | nil=>intro _;simp [joinLs,wsum]
  | cons x l ih =>
   intro h
   have i1:=ih (fun y hy=>h y (by simp [hy]))
   have i2:=prI_len (h x (by simp)).1 (h x (by simp)).2
   have e1:(joinLs ((x :: l).map fun x=>prI x)).length=(prI x).length+1+(joinLs (l.map fun x=>prI x)).length:=by simp [joinLs];omega
   have e2:wsum (N:Int) (x :: l)=(1+(rawWs x (N:Int)).length)+wsum (N:Int) l:=by simp [wsum]
   rw [e1,e2];omega
 have h1:=hj l (fun x hx=>⟨hix x hx,hraw x hx⟩)
 have hh:(headL g (N:Int)).length≤28:=by
  have d1:=dgS_size g1
  have d2:=dgS_size (n:=(N:Int)) (by omega)
  have t3:modS.size=6:=rfl
  unfold headL headTk wtAll
  simp [wtS,strI_len,t3];omega
 have ht:(textP g (N:Int) l).length=(headL g (N:Int)).length+1+(joinLs (l.map fun x=>prI x)).length:=by unfold textP;simp [joinLs];omega
 rw [e,ht];omega
set_option maxHeartbeats 2000000 in
theorem pageLine_any (B b:Nat) (zs:List Int) (a:Option Addr) (n cap:Nat) (l:List TokT) (w:World) (h:Pge B b zs w) (hBw:B≤w.heap.size) (hv:ToksV w a l) (hl:l.length=n) (hok:ToksIn l) (hu:4 * bulkT l+3 * n≤1099511627776) (hz:zs.length≤1099511627776) :
  Calls Tryz.prog 50 #[.pointer (some ⟨b,0,none⟩),.slice a n cap] w fun e w'=>e=.returned (.tuple #[])∧Pge B b (zs ++ wOut l ++ [10]) w'∧Below B w w'∧Lib.OthersKept 5 (some b) w w':=by
 have hW:=write_any a n cap l w hv hl hok (by omega)
 have hwl:=wOut_len l
 have HL:=hide hl
 have HP:=hide h
 have HU:=hide (And.intro hu hz)
 clear hv hok h hu hz
 go_enter Tryz.func50,Tryz.ntmps50
 go_wp2_with fail
 refine hW.mono ?_
 rintro e w1 ⟨rfl,hb1⟩
 go_wp2_with fail
 have hw1:B≤w1.heap.size:=Nat.le_trans hBw hb1.size
 have hsz:(strOfNums (wOut l)).size=(wOut l).length:=by rw [← strI_len,strI_of (wOut_within l)]
 have hk1:Lib.OthersKept 5 (some b) w w1:=Lib.OthersKept.below (Lib.OthersKept.refl _ _ w) hb1
 refine (pgeWriteString_any B b zs _ w1 (pge_below HP.out hb1) (by have:=HU.out;have:=HL.out;omega) hw1).mono ?_
 rintro e w2 ⟨rfl,hp2,hb2,hk2⟩
 rw [strI_of (wOut_within l)] at hp2
 have HP2:=hide hp2
 clear hp2
 go_wp2_with fail
 refine (pgeWriteByte_any B b _ 10 w2 HP2.out (by have:=HU.out;have:=HL.out;rw [List.length_append];omega) (Nat.le_trans hw1 hb2.size)).mono ?_
 rintro e w3 ⟨rfl,hp3,hb3,hk3⟩
 go_wp2_with fail
 go_end0
 exact ⟨rfl,hp3,((hb1.mono hBw).trans hb2).trans hb3,(hk1.trans hk2).trans hk3⟩
end Go.Proofs.YtddkapkkjhomkabGreatDoor
namespace Go.Proofs.YtddkapkkjhomkabGreatDoor
open Go.RowKit Go.Shelf
set_option maxRecDepth 100000

theorem nums_bytes {zs:List Int} (h:Within 256 zs):zs.map (Value.int .u8)=Lib.byteCells (strOfNums zs).data.toList:=by
 have e:=strI_of h
 rw [← Lib.strCells_eq]
 have h2:Lib.strCells (strOfNums zs)=(strI (strOfNums zs)).map (Value.int .u8):=by simp [Lib.strCells,strI]
 rw [h2,e]
theorem byte_cells:Tryz.prog.cellsOf 5=1:=by kernel_rfl
set_option maxHeartbeats 4000000 in
theorem pgeString_any (B b:Nat) (zs:List Int) (w:World) (h:Pge B b zs w) (hz:Within 256 zs) (h0:zs≠[]) :
  Calls Tryz.prog 53 #[.pointer (some ⟨b,0,none⟩)] w fun e w'=>e=.returned (.string (strOfNums zs))∧Below B w w':=by
 unfold Pge at h
 rw [nums_bytes hz] at h
 have hl:(strOfNums zs).data.toList≠[]:=by
  intro e
  have e2:=nums_bytes hz
  rw [e] at e2
  simp [Lib.byteCells] at e2
  exact h0 e2
 have hs:strOfNums zs=⟨(strOfNums zs).data.toList.toArray⟩:=by simp
 rw [hs]
 generalize (strOfNums zs).data.toList=l at *
 clear hs hz h0
 obtain ⟨p,hp,hAt⟩:∃ p,(p=.pointer none ∨ p=.pointer (some ⟨b,0,none⟩))∧Lib.BuilderAtF 122 5 B b p (Lib.byteCells l) w:=by
  rcases h with h | h
  ·exact ⟨_,.inl rfl,h⟩
  ·exact ⟨_,.inr rfl,h⟩
 obtain ⟨hB,v,hbk,hown,hne⟩:=hAt
 have hl0:l.length≠0:=by simpa using hl
 rw [Lib.byteCells_length] at hown
 obtain ⟨g,cap,cur,fz,rfl,hbg,hg,hfz,hnc,hcm,hcs,htake⟩:∃ g cap cur fz,v=.slice (some ⟨g,0,none⟩) l.length cap∧B≤g∧w.heap[g]?=some (.cells cur 5 fz)∧fz.2≤l.length * 1∧l.length≤cap∧cap≤maxLen∧cur.size=cap * 1∧cur.toList.take (l.length * 1)=Lib.byteCells l:=by
  rcases hown.2 with ⟨_,hz⟩ | ⟨g,cap,cur,fz,hv,r⟩
  ·exact absurd hz hl0
  ·exact ⟨g,cap,cur,fz,hv,r⟩
 have c1:w.drew.cell? ⟨b,1,none⟩=some (.slice (some ⟨g,0,none⟩) l.length cap):=by
  have:w.drew.heap[b]?=some (.cells #[p,.slice (some ⟨g,0,none⟩) l.length cap] 122 (0,0)):=hbk
  rw [Lib.cell_of_heap this];rfl
 have hSD:(Builtin.unsafeSliceData_ #[58] 180 #[.slice (some ⟨g,0,none⟩) l.length cap]).run Tryz.prog w.drew=.ok (.pointer (some ⟨g,0,none⟩)) w.drew :=
  Lib.run_unsafeSliceData_row _ _ _ _ _ _ (by omega)
 have hUS:(Builtin.unsafeString_ #[180,3] 9 #[.pointer (some ⟨g,0,none⟩),.int .i64 l.length]).run Tryz.prog w.drew=.ok (.string ⟨l.toArray⟩) (w.drew.freeze ⟨g,0,none⟩ l.length):=by
  refine Lib.run_unsafeString_row w.drew 180 3 9 5 Tryz.underlying180 byte_cells g cur.size (by have hg':w.drew.heap[g]?=some (.cells cur 5 fz):=hg;simp [World.shape?,hg']) l hl (by omega) (by unfold maxLen at hcm;omega) ?_
  intro j x hx
  have:=hown.cells (g:=g) rfl j (.int .u8 x.toNat) (by simp [Lib.byteCells,hx])
  exact this
 have hBG:=Lib.below_freeze (Below.drew (Below.refl B w)) (p:=⟨g,0,none⟩) hbg l.length
 have mixed:Tryz.prog.follows .mixedOrders=true:=by kernel_rfl
 clear hown hbk hg hne hp
 go_enter Tryz.func53,Tryz.ntmps53
 go_wp2
 go_region_o
 all_goals (go_wp2;go_ret;exact ⟨rfl,hBG⟩)
end Go.Proofs.YtddkapkkjhomkabGreatDoor
namespace Go.Proofs.YtddkapkkjhomkabGreatDoor
open Go.RowKit

theorem head_out {g b:Int} (g1:g < 4294967296) (b1:b < 4294967296):wOut (headTk g b)=headL g b:=by
 unfold wOut headL
 rw [if_pos (headTk_ok g1 b1)]
 rfl
theorem inst_out {x:InstT} {b:Int} (hx:InstOk x) (hr:rawE x b=0):wOut (tksI x)=prI x:=by
 unfold wOut prI
 rw [if_pos (tksI_ok hx hr)]
theorem bulk_most {M:Nat}:∀ (l:List TokT),(∀ t ∈ l,t.2.1.size≤M)→bulkT l≤l.length * M
 | [],_=>by simp [bulkT]
 | t :: l,h=>by
  have ih:=bulk_most l (fun u hu=>h u (by simp [hu]))
  have h1:=h t (by simp)
  unfold bulkT at ih ⊢
  rw [List.map_cons,List.sum_cons,List.length_cons,Nat.succ_mul]
  omega
theorem inst_few {x:InstT} {b:Int} (hx:InstOk x) (hr:rawE x b=0):x.2.2.2.length≤65538∧(tksI x).length≤65542∧4 * bulkT (tksI x)+3 * (tksI x).length≤1099511627776∧(lookF refT x.1).2=true:=by
 obtain ⟨h1,h2,h3⟩:=rawWs_ok hr
 obtain ⟨i1,i2,i3,i4,i5⟩:=faultI_zero h2
 have hl:(tksI x).length≤4+x.2.2.2.length:=by
  unfold tksI preTk
  cases (lookF refT x.1).1.2.2.1 <;> cases (lookF refT x.1).1.2.1 <;> simp [argTks_len] <;> omega
 have hw:=(wordsL_ge x.2.2.2).1
 have hrl:(wordsL x.2.2.2).length≤(rawL (lookF refT x.1).1 x).length:=by unfold rawL;rw [List.length_append];omega
 have hb:=bulk_most (M:=300000) (tksI x) (tksI_size hx hr)
 have h4:(tksI x).length * 300000≤65542 * 300000:=Nat.mul_le_mul_right _ (by omega)
 exact ⟨by omega,by omega,by omega,h1⟩
theorem joinLs_snoc (l:List (List Int)) (a:List Int):joinLs (l ++ [a])=joinLs l ++ a ++ [10]:=by simp [joinLs]
def textTo (g b:Int) (l:List InstT) (k:Nat):List Int:=joinLs (headL g b :: (l.take k).map fun x=>prI x)
theorem textTo_zero (g b:Int) (l:List InstT):textTo g b l 0=headL g b ++ [10]:=by simp [textTo,joinLs]
theorem textTo_next (g b:Int) (l:List InstT) (k:Nat) (h:k < l.length):textTo g b l (k+1)=textTo g b l k ++ prI (nthI l k) ++ [10]:=by
 unfold textTo
 rw [List.take_succ_eq_append_getElem h,List.map_append,← List.cons_append,List.map_cons,List.map_nil,joinLs_snoc]
 have e:nthI l k=l[k]:=by simp [nthI,List.getD,h]
 rw [e]
theorem textTo_all (g b:Int) (l:List InstT):textTo g b l l.length=textP g b l:=by unfold textTo textP;rw [List.take_length]
theorem textTo_len (g b:Int) (l:List InstT):∀ k,k≤l.length→(textTo g b l k).length≤(textP g b l).length:=by
 intro k hk
 rw [← textTo_all]
 obtain ⟨d,hd⟩:∃ d,l.length=k+d:=⟨l.length - k,by omega⟩
 rw [hd]
 clear hk
 have key:∀ d,k+d≤l.length→(textTo g b l k).length≤(textTo g b l (k+d)).length:=by
  intro d
  induction d with
  | zero=>intro _;exact Nat.le_refl _
  | succ d ih =>
   intro h
   have:=ih (by omega)
   rw [show k+(d+1)=(k+d)+1 by omega,textTo_next g b l (k+d) (by omega)]
   simp only [List.length_append]
   omega
 exact key d (by omega)
theorem textP_few {g:Int} {N:Nat} {l:List InstT} (g1:g < 4294967296) (hok:InstsOk l) (hs:(shapeE (N:Int) l).1=0):(textP g (N:Int) l).length≤16777216:=by
 have h:=textP_size g1 hok hs
 have e:(strOfNums (textP g (N:Int) l)).size=(textP g (N:Int) l).length:=by simp [strOfNums,ByteArray.size]
 omega
theorem textP_within {g:Int} {N:Nat} {l:List InstT} (g1:g < 4294967296) (hok:InstsOk l) (hs:(shapeE (N:Int) l).1=0):Within 256 (textP g (N:Int) l):=joinLs_within (textP_ok g1 hok hs)
theorem textP_ne (g b:Int) (l:List InstT):textP g b l≠[]:=by unfold textP joinLs;simp
theorem tok_in (k:Int) (s:ByteArray) (h0:0≤k) (h1:k < 256) (hs:s.size≤300000):TokIn (k,s,0):=⟨h0,h1,by simp only;omega,by simp only;omega,by simp only;omega⟩
theorem argTk_kind (c:Int) (x:ArgT):0≤(argTk c x).1∧(argTk c x).1 < 256∧(argTk c x).2.2=0:=by
 unfold argTk
 repeat' split
 all_goals exact ⟨by simp,by simp,rfl⟩
theorem tksI_in {x:InstT} {b:Int} (hx:InstOk x) (hr:rawE x b=0):ToksIn (tksI x):=by
 intro j hj
 have hm:nthT (tksI x) j ∈ tksI x:=by rw [nthT_lt _ _ hj];exact List.getElem_mem hj
 have hs:=tksI_size hx hr _ hm
 generalize nthT (tksI x) j=t at *
 have hk:0≤t.1∧t.1 < 256∧t.2.2=0:=by
  unfold tksI at hm
  rcases List.mem_append.1 hm with ht | ht
  ·unfold preTk at ht
   cases e1:(lookF refT x.1).1.2.2.1 <;> cases e2:(lookF refT x.1).1.2.1 <;> simp [e1,e2] at ht
   ·subst ht;exact ⟨by simp,by simp,rfl⟩
   ·rcases ht with rfl | rfl <;> exact ⟨by simp,by simp,rfl⟩
   ·rcases ht with rfl | rfl | rfl <;> exact ⟨by simp,by simp,rfl⟩
   ·rcases ht with rfl | rfl | rfl | rfl <;> exact ⟨by simp,by simp,rfl⟩
  ·unfold argTks at ht
   obtain ⟨k,hk,rfl⟩:=List.mem_map.1 ht
   exact argTk_kind _ _
 obtain ⟨t0,t1,t2⟩:=t
 obtain ⟨a1,a2,a3⟩:=hk
 simp only at a1 a2 a3
 subst a3
 exact tok_in t0 t1 a1 a2 hs
theorem headTk_in {g b:Int} (g1:g < 4294967296) (b1:b < 4294967296):ToksIn (headTk g b):=by
 intro j hj
 have d1:=dgS_size g1
 have d2:=dgS_size b1
 have d3:modS.size=6:=rfl
 have hm:nthT (headTk g b) j ∈ headTk g b:=by rw [nthT_lt _ _ hj];exact List.getElem_mem hj
 generalize nthT (headTk g b) j=t at *
 simp only [headTk,List.mem_cons,List.not_mem_nil,or_false] at hm
 rcases hm with h | h | h <;> rw [h]
 ·exact tok_in 1 modS (by decide) (by decide) (by omega)
 ·exact tok_in 3 _ (by decide) (by decide) (by omega)
 ·exact tok_in 3 _ (by decide) (by decide) (by omega)
theorem headTk_few {g b:Int} (g1:g < 4294967296) (b1:b < 4294967296):4 * bulkT (headTk g b)+3 * 3≤1099511627776:=by
 have d1:=dgS_size g1
 have d2:=dgS_size b1
 have d3:modS.size=6:=rfl
 simp only [bulkT,headTk,List.map_cons,List.map_nil,List.sum_cons,List.sum_nil]
 omega
theorem newToks_view (w:World) (m:List TokT) (T:Nat):ToksV (w.alloc (.cells (m.flatMap tokC).toArray T)) (some ⟨w.heap.size,0,none⟩) m:=by
 intro j hj
 have hc:=newToks_cells w m T
 refine ⟨w.heap.size,0,rfl,by simp,?_,?_,?_⟩
 ·have:=hc (j * 3+0) _ (flat_tok m j 0 hj (by omega))
  rw [Addr.add_mid] at this
  exact this
 ·have:=hc (j * 3+1) _ (flat_tok m j 1 hj (by omega))
  rw [Addr.add_mid] at this
  exact this
 ·have:=hc (j * 3+2) _ (flat_tok m j 2 hj (by omega))
  rw [Addr.add_mid] at this
  exact this
theorem measY {k n:Nat} (h:k < n):n - (intOf (.int .i64 ((k:Int)+1))).toNat < n - (intOf (.int .i64 (k:Int))).toNat:=by simp [intOf];omega
theorem below_two8 (w:World) (o p:Obj):Below w.heap.size w ((w.alloc o).alloc p):=((Below.refl _ w).alloc (Nat.le_refl _) o).alloc (by simp) p
set_option maxHeartbeats 8000000 in
theorem textOf_any (g:Int) (N:Nat) (a:Option Addr) (n c:Nat) (l:List InstT) (w:World) (hv:InstsV w a l) (hok:InstsOk l) (hl:l.length=n) (hn:40 * n≤140737488351232) (g0:0≤g) (g1:g < 4294967296) (hs:(shapeE (N:Int) l).1=0) (hN:(N:Int) < 4294967296) (ht:Pow10 w) :
  Calls Tryz.prog 27 #[.agg #[.int .u32 g,.int .u32 N,.slice a n c]] w fun e w'=>e=.returned (.string (strOfNums (textP g (N:Int) l)))∧Below w.heap.size w w':=by
 have HV:=hide hv
 have HOK:=hide hok
 have HL:=hide hl
 have HNN:=hide hn
 have HSH:=hide hs
 have HPW:=hide ht
 have N0:(0:Int)≤(N:Int):=by omega
 have HTX:=hide (textP_few g1 hok hs)
 have HWI:=hide (textP_within g1 hok hs)
 have hp0:=pge_new (w.alloc (.cells #[.int .u32 g,.int .u32 N,.slice a n c] 25)) (w.heap.size+1) (by simp)
 rw [World.size_alloc] at hp0
 have HP0:=hide hp0
 have HB0:=hide (below_two8 w (.cells #[.int .u32 g,.int .u32 N,.slice a n c] 25) (.cells #[.pointer none,.slice none 0 0] 122))
 have HM0:Hid (((w.alloc (.cells #[.int .u32 g,.int .u32 N,.slice a n c] 25)).alloc (.cells #[.pointer none,.slice none 0 0] 122)).heap[w.heap.size]?=some (.cells #[.int .u32 g,.int .u32 N,.slice a n c] 25 (0,0))):=(Below.heap_alloc _ _ _ (by simp)).trans (heap_alloc_new w _)
 have HS0:Hid (((w.alloc (.cells #[.int .u32 g,.int .u32 N,.slice a n c] 25)).alloc (.cells #[.pointer none,.slice none 0 0] 122)).heap.size=w.heap.size+2):=by show _=_;simp
 clear hv hok hl hn hs ht hp0
 go_enter Tryz.func27,Tryz.ntmps27
 go_wp2_with fail
 generalize (w.alloc (.cells #[.int .u32 g,.int .u32 N,.slice a n c] 25)).alloc (.cells #[.pointer none,.slice none 0 0] 122)=WA at *
 have LC:Hid (∀ w':World,w'.heap[w.heap.size]?=WA.heap[w.heap.size]?→w'.cell? ⟨w.heap.size,0,none⟩=some (.int .u32 g)∧w'.cell? ⟨w.heap.size,1,none⟩=some (.int .u32 N)):=fun w' hC=>by
  have q:=hC.trans HM0.out
  exact ⟨(one_block q).1 0,(one_block q).1 1⟩
 have hAw:w.heap.size < WA.heap.size:=by rw [HS0.out];omega
 have hC0:Below WA.heap.size WA WA.drew:=below_drew WA
 have hmix:Tryz.prog.follows .mixedOrders=true:=by kernel_rfl
 refine (wpIn_wide (n:=0)).1 ?_
 refine wpIn_normal (wpIn_region_any hmix (wpAnyE_sound (C:=fun w'=>w'.cell? ⟨w.heap.size,0,none⟩=some (.int .u32 g)∧w'.cell? ⟨w.heap.size,1,none⟩=some (.int .u32 N)) (E:=fun i=>false) _ _ _ _ ?_))
 change wpAnyE _ _ _ _ _ _ _ _ _ _ _ (World.drew _)
 refine wpAnyE_takeD (i:=1) (some 7) (v:=.pointer (some ⟨w.heap.size,0,none⟩)) (fun _=>trivial) (by kernel_rfl) rfl rfl (by kernel_rfl) (by kernel_rfl) (by kernel_rfl) (by kernel_rfl) (fun _ _ _ h=>by cases h.1) (LC.out _ (hC0.block _ hAw)) (Or.inl ⟨by rfl,fun w' hC=>by obtain ⟨e0,e1⟩:=hC;go_simp⟩) ?_
 simp only [Act.put,List.setIfInBounds_toArray,List.set_cons_succ,List.set_cons_zero]
 refine wpAnyE_takeD (i:=2) (some 8) (v:=.int .u32 g) (fun _=>trivial) (by kernel_rfl) rfl rfl (by kernel_rfl) (by kernel_rfl) (by kernel_rfl) (by kernel_rfl) (fun _ _ _ h=>by cases h.1) (LC.out _ (hC0.block _ hAw)) (Or.inl ⟨by rfl,fun w' hC=>by obtain ⟨e0,e1⟩:=hC;go_simp⟩) ?_
 simp only [Act.put,List.setIfInBounds_toArray,List.set_cons_succ,List.set_cons_zero]
 refine wpAnyE_takeD (i:=4) (some 10) (v:=.pointer (some ⟨w.heap.size,1,none⟩)) (fun _=>trivial) (by kernel_rfl) rfl rfl (by kernel_rfl) (by kernel_rfl) (by kernel_rfl) (by kernel_rfl) (fun _ _ _ h=>by cases h.1) (LC.out _ (hC0.block _ hAw)) (Or.inl ⟨by rfl,fun w' hC=>by obtain ⟨e0,e1⟩:=hC;go_simp⟩) ?_
 simp only [Act.put,List.setIfInBounds_toArray,List.set_cons_succ,List.set_cons_zero]
 refine wpAnyE_takeD (i:=5) (some 11) (v:=.int .u32 N) (fun _=>trivial) (by kernel_rfl) rfl rfl (by kernel_rfl) (by kernel_rfl) (by kernel_rfl) (by kernel_rfl) (fun _ _ _ h=>by cases h.1) (LC.out _ (hC0.block _ hAw)) (Or.inl ⟨by rfl,fun w' hC=>by obtain ⟨e0,e1⟩:=hC;go_simp⟩) ?_
 simp only [Act.put,List.setIfInBounds_toArray,List.set_cons_succ,List.set_cons_zero]
 refine wpAnyE_ready (rs:=[0]) (by kernel_rfl) (by simp) ?_
 refine AllE.cons rfl (fun K hK=>?_) AllE.nil
 go_simp
 refine ⟨trivial,rfl,(callsIn_wide.2 (printWord_any modS WA.drew)).mono ?_⟩
 rintro e w1 ⟨rfl,hb1⟩
 dsimp only
 have hC1:Below WA.heap.size WA w1:=hC0.trans (show Below WA.heap.size WA.drew w1 from hb1)
 refine hK _ _ (.inr (LC.out _ (hC1.block _ hAw))) ?_
 clear hK K hb1
 have HW1:=hide (HPW.out.below (HB0.out.trans (hC1.mono HB0.out.size)))
 refine wpAnyE_ready (rs:=[3]) (by kernel_rfl) (by simp) ?_
 refine AllE.cons rfl (fun K hK=>?_) AllE.nil
 go_simp
 refine ⟨trivial,rfl,(callsIn_wide.2 (printNumber_any g w1 g0 g1 HW1.out)).mono ?_⟩
 rintro e w2 ⟨rfl,hb2⟩
 dsimp only
 have hC2:Below WA.heap.size WA w2:=hC1.trans (hb2.mono hC1.size)
 refine hK _ _ (.inr (LC.out _ (hC2.block _ hAw))) ?_
 clear hK K hb2 HW1
 have HW2:=hide (HPW.out.below (HB0.out.trans (hC2.mono HB0.out.size)))
 refine wpAnyE_ready (rs:=[6]) (by kernel_rfl) (by simp) ?_
 refine AllE.cons rfl (fun K hK=>?_) AllE.nil
 go_simp
 refine ⟨trivial,rfl,(callsIn_wide.2 (printNumber_any (N:Int) w2 N0 hN HW2.out)).mono ?_⟩
 rintro e w3 ⟨rfl,hb3⟩
 dsimp only
 have hC3:Below WA.heap.size WA w3:=hC2.trans (hb3.mono hC2.size)
 refine hK _ _ (.inr (LC.out _ (hC3.block _ hAw))) ?_
 clear hK K hb3 HW2 hC1 hC2
 unfold tokV
 refine wpAnyE_ready (rs:=[7]) (by kernel_rfl) (by simp) ?_
 refine AllE.cons rfl (fun K hK=>?_) AllE.nil
 go_simp
 have hC4:Below WA.heap.size WA (w3.alloc (.cells ((headTk g (N:Int)).flatMap tokC).toArray 41)):=hC3.alloc hC3.size _
 refine hK _ _ (.inr (LC.out _ (hC4.block _ hAw))) ?_
 clear hK K
 have had:=pageLine_any (w.heap.size+1) (w.heap.size+1) [] (some ⟨w3.heap.size,0,none⟩) 3 3 (headTk g (N:Int)) (w3.alloc (.cells ((headTk g (N:Int)).flatMap tokC).toArray 41)) (pge_below HP0.out hC4) (by have:=hC4.size;omega) (newToks_view w3 (headTk g (N:Int)) _) rfl (headTk_in g1 hN) (headTk_few g1 hN) (by simp)
 refine wpAnyE_ready (rs:=[8]) (by kernel_rfl) (by simp) ?_
 refine AllE.cons rfl (fun K hK=>?_) AllE.nil
 go_simp
 refine ⟨trivial,rfl,(callsIn_wide.2 had).mono ?_⟩
 rintro e w5 ⟨rfl,hp5,hb5,hk5⟩
 dsimp only
 have q5:w5.heap[w.heap.size]?=WA.heap[w.heap.size]?:=(hb5.block _ (by omega)).trans (hC4.block _ hAw)
 refine hK _ _ (.inr (LC.out _ q5)) ?_
 have hB4:Below w.heap.size w (w3.alloc (.cells ((headTk g (N:Int)).flatMap tokC).toArray 41)):=HB0.out.trans (hC4.mono HB0.out.size)
 have HB5:=hide (hB4.trans (hb5.mono (by omega)))
 have HP5:Hid (Pge (w.heap.size+1) (w.heap.size+1) (textTo g (N:Int) l 0) w5):=by
  show Pge _ _ _ _
  rw [textTo_zero,← head_out g1 hN]
  exact hp5
 have m2:=(one_block (q5.trans HM0.out)).1 2
 clear hK K had hp5 hb5 hk5 hC4 hC3 hC0 hB4 LC HP0 q5 hAw HS0 HB0 HM0
 refine wpAnyE_done (by kernel_rfl) ⟨rfl,?_⟩ _
 go_wp2_with fail
 clear m2 hmix
 go_loopw [18] (fun i wr=>∃ k:Nat,k≤n∧i=.int .i64 k∧Pge (w.heap.size+1) (w.heap.size+1) (textTo g (N:Int) l k) wr∧Below w.heap.size w wr) (fun i _=>n - (intOf i).toNat)
 case atStart=>exact ⟨0,Nat.zero_le _,rfl,HP5.out,HB5.out⟩
 case round =>
  obtain ⟨k,hk,rfl,hP,hB⟩:=hrel
  clear HP5 HB5
  have hA:=HV.out.below hB
  have hlt1:=pge_lt hP
  by_cases hlt:k < n
  ·have hkl:k < l.length:=by rw [HL.out];exact hlt
   obtain ⟨b1,o1,aj,cj,nj,rfl,hb1,p1,p2,p3,p4,p5,p6,p7⟩:=hA k hkl
   have hki:(k:Int) < (n:Int):=by omega
   have hk0:(0:Int)≤(k:Int):=by omega
   have hkm:(k:Int) < 140737488351232:=by have:=HNN.out;omega
   have hmem:nthI l k ∈ l:=by rw [show nthI l k=l[k] by simp [nthI,List.getD,hkl]];exact List.getElem_mem hkl
   have hz:=HOK.out k hkl
   have hraw:=(shape_sum HSH.out).2 _ hmem
   have HF:=hide (inst_few hz hraw)
   have HO:=hide (inst_out hz hraw)
   have HI:=hide (tksI_in hz hraw)
   have HNX:=hide (textTo_next g (N:Int) l k hkl)
   have HLEN:=hide (Nat.le_trans (textTo_len g (N:Int) l k (by omega)) HTX.out)
   have HT:=hide (fun W (hb:Below wr.heap.size wr W)=>printTokens_any (nthI l k) aj nj cj W (p6.below hb) p5 (by have:=HF.out.1;omega) hz HF.out.2.2.2 (HPW.out.below (hB.trans (hb.mono hB.size))))
   have HLT:=hide hlt
   have HBw:=hide hB
   have HPw:=hide hP
   have HSZ:=hide hlt1
   generalize nthI l k=z at *
   obtain ⟨zo,zt,zr,zl⟩:=z
   simp only at p1 p2 p3 p5 p6 HT
   have hba:Below wr.heap.size wr (wr.alloc (.cells #[.int .u16 zo,.int .u32 zt,.int .u32 zr,.slice aj nj cj] 49)):=(Below.refl _ wr).alloc (Nat.le_refl _) _
   have HBA:=hide hba
   clear hA hP hB p5 p6 p7 hz hraw hmem hk hlt hkl hba hlt1
   go_wp2_with fail
   refine (HT.out _ HBA.out).mono ?_
   rintro e w6 ⟨at6,m6,c6,rfl,hv6,hl6,hb6⟩
   have hB6:Below wr.heap.size wr w6:=HBA.out.trans (hb6.mono HBA.out.size)
   have hlin:=pageLine_any (w.heap.size+1) (w.heap.size+1) (textTo g (N:Int) l k) at6 m6 c6 (tksI (zo,zt,zr,zl)) w6 (pge_below HPw.out hB6) (by have:=HSZ.out;have:=hB6.size;omega) hv6 hl6 HI.out (by have:=HF.out.2.2.1;omega) (by have:=HLEN.out;omega)
   rw [HO.out] at hlin
   have HB6:=hide (HBw.out.trans (hB6.mono HBw.out.size))
   clear hb6 hv6 hl6 hB6
   go_wp2_with fail
   refine hlin.mono ?_
   rintro e w7 ⟨rfl,hp7,hb7,_⟩
   have HP7:Hid (Pge (w.heap.size+1) (w.heap.size+1) (textTo g (N:Int) l (k+1)) w7):=by
    show Pge _ _ _ _
    rw [HNX.out];exact hp7
   have HB7:=hide (HB6.out.trans (hb7.mono (by omega)))
   clear hlin hp7 hb7 HT
   go_wp2_with fail
   exact ⟨⟨k+1,HLT.out,by simp,HP7.out,HB7.out⟩,measY HLT.out⟩
  ·have e:k=n:=by omega
   subst e
   have hTX:=textTo_all g (N:Int) l
   rw [HL.out] at hTX
   rw [hTX] at hP
   have hS:=pgeString_any (w.heap.size+1) (w.heap.size+1) (textP g (N:Int) l) wr hP HWI.out (textP_ne g (N:Int) l)
   have HBw:=hide hB
   clear hA hP hB hk hTX
   go_wp2_with fail
   refine hS.mono ?_
   rintro e w8 ⟨rfl,hb8⟩
   go_wp2_with fail
   go_ret
   exact ⟨rfl,HBw.out.trans (hb8.mono (by omega))⟩
def txtP (g b:Int) (l:List InstT):ByteArray:=if (shapeE b l).1=0 then strOfNums (textP g b l) else ⟨#[]⟩
theorem shapeF_none (b:Int):∀ (l:List InstT) (k c:Nat),(shapeF b k c l).1=0→(shapeF b k c l).2=0
 | [],_,_,_=>rfl
 | x :: l,k,c,h=>by
  unfold shapeF at h ⊢
  split at h
  ·rename_i hx;exact absurd h hx
  ·rename_i hx
   rw [if_neg hx]
   split at h
   ·cases h
   ·rename_i hy
    rw [if_neg hy]
    exact shapeF_none b l _ _ h
theorem shape_none {b:Int} {l:List InstT} (h:(shapeE b l).1=0):(shapeE b l).2=0:=by
 unfold shapeE at h ⊢
 split at h
 ·cases h
 ·rename_i hx
  rw [if_neg hx]
  exact shapeF_none b l 0 5 h
set_option maxHeartbeats 8000000 in
theorem printTextM_any (g:Int) (N:Nat) (a:Option Addr) (n c:Nat) (l:List InstT) (w:World) (hv:InstsV w a l) (hok:InstsOk l) (hl:l.length=n) (hn:40 * n≤140737488351232) (g0:0≤g) (g1:g < 4294967296) (hN:(N:Int) < 4294967296) (ht:Pow10 w) :
  Calls Tryz.prog 8 #[.agg #[.int .u32 g,.int .u32 N,.slice a n c]] w fun e w'=>e=.returned (.tuple #[.string (txtP g (N:Int) l),.agg #[.int .i64 (shapeE (N:Int) l).1,.int .i64 (shapeE (N:Int) l).2]])∧Below w.heap.size w w':=by
 have hS:=fun W (hb:Below w.heap.size w W)=>codeShape_any g (N:Int) a n c l W g0 g1 (by omega) hN (hv.below hb) hok hl hn
 have hT:=fun W (hb:Below w.heap.size w W) (hs:(shapeE (N:Int) l).1=0)=>textOf_any g N a n c l W (hv.below hb) hok hl hn g0 g1 hs hN (ht.below hb)
 have HB0:=hide (below_two8 w (.cells #[.int .u32 g,.int .u32 N,.slice a n c] 25) (.cells #[.int .i64 0,.int .i64 0] 28))
 unfold modV at hS
 have kX:((w.alloc (.cells #[.int .u32 g,.int .u32 N,.slice a n c] 25)).alloc (.cells #[.int .i64 0,.int .i64 0] 28)).heap[w.heap.size+1]?=some (.cells #[.int .i64 0,.int .i64 0] 28 (0,0)):=by simpa using alloc_new (w.alloc (.cells #[.int .u32 g,.int .u32 N,.slice a n c] 25)) #[.int .i64 0,.int .i64 0] 28
 have kM:((w.alloc (.cells #[.int .u32 g,.int .u32 N,.slice a n c] 25)).alloc (.cells #[.int .i64 0,.int .i64 0] 28)).heap[w.heap.size]?=some (.cells #[.int .u32 g,.int .u32 N,.slice a n c] 25 (0,0)):=(Below.heap_alloc _ _ _ (by simp)).trans (heap_alloc_new w _)
 have HX:=hide kX
 have HM:=hide kM
 clear kX kM
 by_cases hz:(shapeE (N:Int) l).1=0
 ·have ez:txtP g (N:Int) l=strOfNums (textP g (N:Int) l):=if_pos hz
  have hz2:(((shapeE (N:Int) l).2:Nat):Int)=0:=by rw [shape_none hz];rfl
  rw [ez,hz,hz2]
  rw [hz,hz2] at hS
  have hT':=fun W hb=>hT W hb hz
  generalize strOfNums (textP g (N:Int) l)=S at *
  clear hT hz hz2 ez hv hok hl hn ht
  go_enter Tryz.func8,Tryz.ntmps8
  go_wp2_with fail
  generalize (w.alloc (.cells #[.int .u32 g,.int .u32 N,.slice a n c] 25)).alloc (.cells #[.int .i64 0,.int .i64 0] 28)=W0 at *
  refine (hS _ HB0.out).mono ?_
  rintro e w1 ⟨rfl,hb1⟩
  have l0:=(Array.getElem?_eq_some_iff.1 HX.out).1
  have lm:=(Array.getElem?_eq_some_iff.1 HM.out).1
  have hb2:Below W0.heap.size W0 (w1.alloc (.cells #[.int .i64 0,.int .i64 0] 28)):=hb1.alloc hb1.size _
  have kX2:=(hb2.block _ l0).trans HX.out
  have kM2:=(hb2.block _ lm).trans HM.out
  obtain ⟨hcM,_⟩:=one_block kM2
  have m0:=hcM 0
  have m1:=hcM 1
  have m2:=hcM 2
  obtain ⟨d0,d1,_⟩:=cell_of_two (alloc_new w1 #[.int .i64 0,.int .i64 0] 28)
  have HB2:=hide (HB0.out.trans (hb2.mono HB0.out.size))
  have HX2:=hide kX2
  clear hb1 hb2 kX2 kM2 hcM hS
  go_wp2_with fail
  refine (hT' _ HB2.out).mono ?_
  rintro e w3 ⟨rfl,hb3⟩
  have lx:=(Array.getElem?_eq_some_iff.1 HX2.out).1
  have kX3:=(hb3.block _ lx).trans HX2.out
  obtain ⟨hcX,hfX⟩:=one_block kX3
  have c0:=hcX 0
  have c1:=hcX 1
  have f0:=hfX 0
  have f1:=hfX 1
  have hBel:=HB2.out.trans (hb3.mono HB2.out.size)
  have HB3:=hide (two_put2 kX3 (.int .i64 0) (.int .i64 0))
  have HBel2:=hide (hBel.trans ((two_below w3 (w.heap.size+1) (.int .i64 0) (.int .i64 0)).mono (by omega)))
  clear hb3 kX3 hcX hfX hBel hT' d0 d1 m0 m1 m2
  go_wp2
  have hB3:=HB3.out
  have hBel:=HBel2.out
  clear HB3 HBel2 c0 c1 f0 f1
  generalize (w3.setCell _ _).setCell _ _=W at hB3 hBel ⊢
  obtain ⟨hd,_⟩:=one_block hB3
  have d0:=hd 0
  have d1:=hd 1
  refine bodyPost_ret (v:=.tuple #[.string S,.agg #[.int .i64 0,.int .i64 0]]) ?_ rfl ⟨rfl,hBel⟩
  simp [results,Tryz.results8,go_sem,d0,d1]
 ·have ez:txtP g (N:Int) l=⟨#[]⟩:=if_neg hz
  have heb:((shapeE (N:Int) l).1 == 0)=false:=by simpa using hz
  rw [ez]
  generalize (shapeE (N:Int) l).1=e1 at *
  generalize (shapeE (N:Int) l).2=e2 at *
  clear hT ez hv hok hl hn ht hz
  go_enter Tryz.func8,Tryz.ntmps8
  go_wp2_with fail
  generalize (w.alloc (.cells #[.int .u32 g,.int .u32 N,.slice a n c] 25)).alloc (.cells #[.int .i64 0,.int .i64 0] 28)=W0 at *
  refine (hS _ HB0.out).mono ?_
  rintro e w1 ⟨rfl,hb1⟩
  have l0:=(Array.getElem?_eq_some_iff.1 HX.out).1
  have hb2:Below W0.heap.size W0 (w1.alloc (.cells #[.int .i64 e1,.int .i64 e2] 28)):=hb1.alloc hb1.size _
  have kX2:=(hb2.block _ l0).trans HX.out
  obtain ⟨d0,d1,_⟩:=cell_of_two (alloc_new w1 #[.int .i64 e1,.int .i64 e2] 28)
  obtain ⟨hcX,hfX⟩:=one_block kX2
  have c0:=hcX 0
  have c1:=hcX 1
  have f0:=hfX 0
  have f1:=hfX 1
  have hBel:=HB0.out.trans (hb2.mono HB0.out.size)
  have HB3:=hide (two_put2 kX2 (.int .i64 e1) (.int .i64 e2))
  have HBel2:=hide (hBel.trans ((two_below (w1.alloc (.cells #[.int .i64 e1,.int .i64 e2] 28)) (w.heap.size+1) (.int .i64 e1) (.int .i64 e2)).mono (by omega))).drew
  have hne:w1.heap.size≠w.heap.size+1:=by have:=hb1.size;omega
  have HC:=hide (And.intro c0 (And.intro c1 (And.intro f0 (And.intro f1 hne))))
  clear l0 c0 c1 f0 f1 hne g0 g1 hN HX HM HB0 hS
  clear hb1 hb2 kX2 hcX hfX hBel
  go_wp2_with fail
  obtain ⟨c0,c1,f0,f1,hne⟩:=HC.out
  go_region
  go_wp2
  have hB3:((((w1.alloc (.cells #[.int .i64 e1,.int .i64 e2] 28)).setCell ⟨w.heap.size+1,0,none⟩ (.int .i64 e1)).setCell ⟨w.heap.size+1,1,none⟩ (.int .i64 e2)).drew).heap[w.heap.size+1]?=some (.cells #[.int .i64 e1,.int .i64 e2] 28 (0,0)):=HB3.out
  have hBel:=HBel2.out
  clear HB3 HBel2 c0 c1 f0 f1 d0 d1
  generalize (((w1.alloc _).setCell _ _).setCell _ _).drew=W at hB3 hBel ⊢
  obtain ⟨hd,_⟩:=one_block hB3
  have d0:=hd 0
  have d1:=hd 1
  refine bodyPost_ret (v:=.tuple #[.string ⟨#[]⟩,.agg #[.int .i64 e1,.int .i64 e2]]) ?_ rfl ⟨rfl,hBel⟩
  simp [results,Tryz.results8,go_sem,d0,d1]
end Go.Proofs.YtddkapkkjhomkabGreatDoor
