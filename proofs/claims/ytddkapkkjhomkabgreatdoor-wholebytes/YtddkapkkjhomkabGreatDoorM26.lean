/-
  Texts laid together in one: AsmAdd, MathO, MathP, StringsCut, LexLines, AsmParseF, MathQ, MathWs.
-/
import Derived.WalkSpells
import Derived.WalkMore
import Derived.BigRegion
import Derived.Test.YtddkapkkjhomkabGreatDoorProg
import Derived.Test.YtddkapkkjhomkabGreatDoorM25
import Derived.Test.YtddkapkkjhomkabGreatDoorM17
import Derived.Shelf.RegionOpen
import Derived.OwnWalk
import Derived.Test.YtddkapkkjhomkabGreatDoorM19
import Derived.RangeFuncNested
import Derived.RangeFuncBound
import Derived.RangeFuncCalls
import Derived.RangeFuncLeaves
import Derived.Shelf.Abstract
import Derived.WalkKit
import Derived.OwnWalkIn
import Derived.TacticsInMore
import Derived.LoopNIn
import Derived.LoopIn
import Derived.Test.YtddkapkkjhomkabGreatDoorM03
import Derived.Test.YtddkapkkjhomkabGreatDoorM04
import Derived.Test.YtddkapkkjhomkabGreatDoorM24
import Derived.Test.YtddkapkkjhomkabGreatDoorM02
import Derived.Test.YtddkapkkjhomkabGreatDoorM11
import Derived.Test.YtddkapkkjhomkabGreatDoorM16
set_option linter.unusedVariables false
set_option linter.unusedSimpArgs false
set_option maxRecDepth 10000
namespace Go.Proofs.YtddkapkkjhomkabGreatDoor
open Go.RowKit

abbrev ModT:=Int × Int × Int × List InstT
def addS (st:ModT) (s:ByteArray):Int × ModT :=
 if (toksP (strI s) 0).2.1≠0 ∨ (toksP (strI s) 0).1=[] then ((toksP (strI s) 0).2.1,st)
 else if st.2.2.1=0 then
  (if (headP (toksP (strI s) 0).1 s.size).2.2.1≠0 then ((headP (toksP (strI s) 0).1 s.size).2.2.1,st) else (0,((headP (toksP (strI s) 0).1 s.size).1,(headP (toksP (strI s) 0).1 s.size).2.1,5,[])))
 else if (lineP (toksP (strI s) 0).1 s.size st.2.1).2.1=false then ((lineP (toksP (strI s) 0).1 s.size st.2.1).2.2.1,st)
 else if 1048576 < st.2.2.1+(1+((rawWs (lineP (toksP (strI s) 0).1 s.size st.2.1).1 st.2.1).length:Int)) then (4,st)
 else (0,(st.1,st.2.1,st.2.2.1+(1+((rawWs (lineP (toksP (strI s) 0).1 s.size st.2.1).1 st.2.1).length:Int)),st.2.2.2 ++ [(lineP (toksP (strI s) 0).1 s.size st.2.1).1]))
structure ModAt (w : World) (B lo : Nat) (v : Value) (st : ModT) : Prop where
  bld : MBld w B st.1 st.2.1 v st.2.2.1
  insts : Insts w B lo v st.2.2.2
  words : 0 ≤ st.2.2.1 ∧ st.2.2.1 ≤ 1048576 ∧ (st.2.2.2.length : Int) ≤ st.2.2.1
  ok : InstsOk st.2.2.2
theorem Insts.below {w w':World} {B lo:Nat} {v:Value} {xs:List InstT} (h:Insts w B lo v xs) (hb:Below w.heap.size w w'):Insts w' B lo v xs:=by
 obtain ⟨cs,h1,h2⟩:=h.row
 exact ⟨⟨cs,own_below h1 hb,h2.below hb⟩,h.lt,Nat.le_trans h.le hb.size⟩
theorem ModAt.below {w w':World} {B lo:Nat} {v:Value} {st:ModT} (h:ModAt w B lo v st) (hb:Below w.heap.size w w'):ModAt w' B lo v st:=⟨h.bld.below hb,h.insts.below hb,h.words,h.ok⟩
theorem Two.mono {w w1 w2:World} {B:Nat} {ob:Option Nat} (hb:Below w.heap.size w w1) (h:Two w1 B ob w2):Two w B ob w2 :=
 ⟨h.os.trans hb.os,h.tape.trans hb.tape,h.output.trans hb.output,Nat.le_trans hb.size h.size,fun k hk h1 h2=>(h.block k (Nat.lt_of_lt_of_le hk hb.size) h1 h2).trans (hb.block k hk)⟩
theorem instsOk_push {xs:List InstT} {x:InstT} (h:InstsOk xs) (hx:InstOk x):InstsOk (xs ++ [x]):=by
 intro j hj
 rw [List.length_append,List.length_singleton] at hj
 by_cases hl:j < xs.length
 ·have:nthI (xs ++ [x]) j=nthI xs j:=by simp [nthI,List.getD,List.getElem?_append_left hl]
  rw [this];exact h j hl
 ·obtain rfl:j=xs.length:=by omega
  have:nthI (xs ++ [x]) xs.length=x:=by simp [nthI,List.getD]
  rw [this];exact hx
set_option maxHeartbeats 8000000 in
theorem addLine_any (B lo:Nat) (v:Value) (st:ModT) (s:ByteArray) (w:World) (h:ModAt w B lo v st) (hs:s.size≤16777216) :
  Calls Tryz.prog 48 #[.pointer (some ⟨B,0,none⟩),.string s] w fun e w'=>e=.returned (.int .i64 (addS st s).1)∧Two w B v.ownBlock w'∧((addS st s).1=0→∃ v',ModAt w' B lo v' (addS st s).2):=by
 have hT:=fun wx=>rowOf_any s wx (by omega)
 obtain ⟨g1,_,g3,g4,_⟩:=toks_good (strI_within s) 0
 have hIn:=toksIn_of (l:=(toksP (strI s) 0).1) (n:=(strI s).length) (by rw [strI_len];omega) g4
 have hkd:=wok_kind g1
 rw [strI_len] at g3
 obtain ⟨gen,bnd,wd,xs⟩:=st
 obtain ⟨RR,hRR⟩:∃ RR,RR=addS (gen,bnd,wd,xs) s:=⟨_,rfl⟩
 rw [← hRR]
 unfold addS at hRR
 simp only at hRR
 obtain ⟨T,hTT⟩:∃ T,T=toksP (strI s) 0:=⟨_,rfl⟩
 rw [← hTT] at hT hRR g3 hIn hkd
 clear hTT g4 g1
 obtain ⟨l,er,at_⟩:=T
 simp only at hT hRR g3 hIn hkd
 have HRR:=hide hRR
 have HM:=hide h
 have HIN:=hide hIn
 have HKD:=hide hkd
 have HG3:=hide g3
 clear hRR h hIn hkd g3
 go_enter Tryz.func48,Tryz.ntmps48
 go_wp2_with fail
 refine (hT _).mono ?_
 rintro e w1 ⟨a1,c1,rfl,hrow,hb1⟩
 obtain ⟨hv,hfar⟩:=toks_of_own hrow rfl
 have hba:Below w1.heap.size w1 ((w1.alloc (.cells #[.slice a1 l.length c1,.int .i64 0,.int .i64 (s.size:Int)] 174)).alloc (.cells #[.int .i64 er,.int .i64 at_] 28)):=((Below.refl _ w1).alloc (Nat.le_refl _) _).alloc (by simp) _
 have hb1a:=hb1.trans (hba.mono hb1.size)
 have hR1:RowAt ((w1.alloc (.cells #[.slice a1 l.length c1,.int .i64 0,.int .i64 (s.size:Int)] 174)).alloc (.cells #[.int .i64 er,.int .i64 at_] 28)) w1.heap.size a1 l.length c1 0 (s.size:Int) #[] 174:=(Below.heap_alloc _ _ _ (by simp)).trans (heap_alloc_new w1 _)
 have kP:((w1.alloc (.cells #[.slice a1 l.length c1,.int .i64 0,.int .i64 (s.size:Int)] 174)).alloc (.cells #[.int .i64 er,.int .i64 at_] 28)).heap[w1.heap.size+1]?=some (.cells #[.int .i64 er,.int .i64 at_] 28 (0,0)):=by simpa using heap_alloc_new (w1.alloc (.cells #[.slice a1 l.length c1,.int .i64 0,.int .i64 (s.size:Int)] 174)) (.cells #[.int .i64 er,.int .i64 at_] 28)
 have hE:=ended_any w1.heap.size a1 l.length c1 0 (s.size:Int) #[] 174 _ hR1
 have HM1:=hide (HM.out.below hb1a)
 have HV1:=hide (hv.below hba)
 have HB1:=hide hb1a
 have HR1:=hide hR1
 have HP1:=hide kP
 have HFAR:Hid (∀ b off,a1=some ⟨b,off,none⟩→b < w1.heap.size):=fun b off e=>(hfar b off e).2
 have HSZ:Hid (w1.heap.size+1 < ((w1.alloc (.cells #[.slice a1 l.length c1,.int .i64 0,.int .i64 (s.size:Int)] 174)).alloc (.cells #[.int .i64 er,.int .i64 at_] 28)).heap.size):=by show _ < _;simp
 clear hT hrow hb1 hv hfar hba hb1a hR1 kP HM
 by_cases he:er=0
 ·subst he
  by_cases hl0:l=[]
  ·subst hl0
   rw [show (((0:Nat):Int) == ((([]:List TokT).length:Nat):Int))=true by simp] at hE
   simp only [List.length_nil] at *
   go_wp2_with fail
   generalize (w1.alloc (.cells #[.slice a1 0 c1,.int .i64 0,.int .i64 (s.size:Int)] 174)).alloc (.cells #[.int .i64 0,.int .i64 at_] 28)=W at *
   refine hE.mono ?_
   rintro x w3 ⟨rfl,q,rfl⟩
   have hbq:=bel_drewN (Below.refl W.heap.size W) q
   have k0:(W.drewN q).cell? ⟨w1.heap.size+1,0,none⟩=some (.int .i64 0):=(blk_cells ((hbq.block _ HSZ.out).trans HP1.out)).1 0
   have HM3:=hide (HM1.out.below hbq)
   have HB3:=hide (HB1.out.trans (hbq.mono HB1.out.size))
   clear hE hbq
   generalize W.drewN q=W3 at *
   go_wp2_with fail
   refine bodyPost_ret (v:=.int .i64 0) ?_ rfl ?_
   ·simp [results,Tryz.results48,go_sem]
   ·rw [HRR.out,if_pos (.inr trivial)]
    exact ⟨rfl,Two.of_below HB3.out,fun _=>⟨v,HM3.out⟩⟩
  ·have hln:0 < l.length:=List.length_pos_iff.2 hl0
   rw [show (((0:Nat):Int) == (l.length:Int))=false by simp;omega] at hE
   have hRR:=HRR.out
   rw [if_neg (by simpa using hl0)] at hRR
   have HRR2:=hide hRR
   clear hRR HRR
   go_wp2_with fail
   generalize (w1.alloc (.cells #[.slice a1 l.length c1,.int .i64 0,.int .i64 (s.size:Int)] 174)).alloc (.cells #[.int .i64 0,.int .i64 at_] 28)=W at *
   refine hE.mono ?_
   rintro x w3 ⟨rfl,q,rfl⟩
   have hbq:=bel_drewN (Below.refl W.heap.size W) q
   have HM3:=hide (HM1.out.below hbq)
   have HB3:=hide (HB1.out.trans (hbq.mono HB1.out.size))
   have HV3:=hide (HV1.out.below hbq)
   have HR3:=hide (HR1.out.below hbq)
   have HSZ3:Hid (w1.heap.size+1 < (W.drewN q).heap.size):=Nat.lt_of_lt_of_le HSZ.out hbq.size
   clear hE hbq HM1 HB1 HV1 HR1 HP1 HSZ
   generalize W.drewN q=W3 at *
   have hHd:=headed_any B gen bnd v wd W3 HM3.out.bld
   obtain ⟨r0,r1,r2,_⟩:=HR3.out.cells
   have hw:=HM3.out.words
   simp only at hw
   by_cases hwd:wd=0
   ·subst hwd
    rw [show decide ((0:Int) < 0)=false by decide] at hHd
    have hAH:=addHead_any B gen bnd v 0 a1 l.length c1 (s.size:Int) l W3 HM3.out.bld HV3.out rfl (by have:=HG3.out;omega) HIN.out (fun b off e=>by have:=HFAR.out b off e;have:=HSZ3.out;omega)
    have hRR:=HRR2.out
    rw [if_pos rfl] at hRR
    generalize headP l (s.size:Int)=H at *
    obtain ⟨H1,H2,H3,H4⟩:=H
    simp only at hAH hRR
    have HRR3:=hide hRR
    clear hRR HRR2 hw
    go_wp2_with fail
    refine hHd.mono ?_
    rintro x w4 ⟨rfl,rfl⟩
    clear hHd
    go_wp2_with fail
    refine hAH.mono ?_
    rintro x w5 ⟨rfl,hg5,hq5⟩
    have HG5:=hide hg5
    have HQ5:=hide hq5
    clear hAH hg5 hq5
    go_wp2_with fail
    refine bodyPost_ret (v:=.int .i64 H3) ?_ rfl ?_
    ·simp [results,Tryz.results48,go_sem]
    ·by_cases hz:H3=0
     ·rw [HRR3.out,if_neg (by simpa using hz)]
      refine ⟨by rw [hz],Two.mono HB3.out (Two.of_grown HG5.out),fun _=>⟨.slice none 0 0,⟨HQ5.out hz,⟨⟨[],World.ownsRow_nil _ _ _ _,rowI_nil⟩,HM3.out.insts.lt,Nat.le_trans HM3.out.insts.le HG5.out.size⟩,by simp,fun j hj=>by simp at hj⟩⟩⟩
     ·rw [HRR3.out,if_pos hz]
      exact ⟨rfl,Two.mono HB3.out (Two.of_grown HG5.out),fun h=>absurd h hz⟩
   ·rw [show decide (0 < wd)=true by simp;omega] at hHd
    have hAI:=addInst_any B lo gen bnd v wd xs a1 l.length c1 (s.size:Int) l W3 HM3.out.bld HM3.out.insts hw.1 hw.2.1 (by omega) HV3.out rfl (by have:=HG3.out;omega) HIN.out HKD.out hln (fun b off e=>by have:=HFAR.out b off e;have:=HSZ3.out;omega)
    have hRR:=HRR2.out
    rw [if_neg hwd] at hRR
    generalize lineP l (s.size:Int) bnd=R at *
    have HRR3:=hide hRR
    have HW:=hide hw
    clear hRR HRR2 hw
    go_wp2_with fail
    refine hHd.mono ?_
    rintro x w4 ⟨rfl,rfl⟩
    clear hHd
    go_wp2_with fail
    refine hAI.mono ?_
    rintro x w5 ⟨E,rfl,hT5,hq5⟩
    have HT5:=hide hT5
    have HQ5:=hide hq5
    clear hAI hT5 hq5
    go_wp2_with fail
    refine bodyPost_ret (v:=.int .i64 E) ?_ rfl ?_
    ·simp [results,Tryz.results48,go_sem]
    ·rcases HQ5.out with ⟨q1,q2,q3⟩ | ⟨rfl,q2,q3⟩ | ⟨rfl,q2,q3,q4,q5,v',q6,q7⟩
     ·rw [HRR3.out,if_pos q2]
      exact ⟨by rw [q3],Two.mono HB3.out HT5.out,fun h=>absurd (q3.trans h) q1⟩
     ·rw [HRR3.out,if_neg (by rw [q2];simp),if_pos q3]
      exact ⟨rfl,Two.mono HB3.out HT5.out,fun h=>by simp at h⟩
     ·rw [HRR3.out,if_neg (by rw [q2];simp),if_neg (by omega)]
      refine ⟨rfl,Two.mono HB3.out HT5.out,fun _=>⟨v',⟨q6,q7,⟨by have:=HW.out;simp only;omega,q5,?_⟩,instsOk_push HM3.out.ok q3⟩⟩⟩
      have:=HW.out
      simp only [List.length_append,List.length_singleton]
      omega
 ·have he':(er != 0)=true:=by simpa using he
  have HE:=hide he
  have k0:((w1.alloc (.cells #[.slice a1 l.length c1,.int .i64 0,.int .i64 (s.size:Int)] 174)).alloc (.cells #[.int .i64 er,.int .i64 at_] 28)).cell? ⟨w1.heap.size+1,0,none⟩=some (.int .i64 er):=(blk_cells HP1.out).1 0
  clear he hE
  go_wp2_with fail
  refine bodyPost_ret (v:=.int .i64 er) ?_ rfl ?_
  ·simp [results,Tryz.results48,go_sem]
  ·rw [HRR.out,if_pos (.inl HE.out)]
   exact ⟨rfl,Two.of_below HB1.out,fun h=>absurd h HE.out⟩
theorem liteIndexByte_any (s:ByteArray) (w:World) :
  Calls Tryz.prog 125 #[.string s,.int .u8 10] w fun e w'=>e=.returned (.int .i64 (nlAt s))∧w=w':=by
 have hx:=fun (w:World)=>run_callFunc_extern (P:=Tryz.prog) (f:=153) Tryz.func153 (by kernel_rfl) (by kernel_rfl) (by kernel_rfl) (e:=Extern.BytealgIndexByte.indexByte) (by kernel_rfl) #[.string s,.int .u8 10] w
 simp only [Lib.run_indexByteString,Result.andThen] at hx
 have e:Lib.indexByte s.data.toList (10:Int).toNat.toUInt8=nlAt s:=rfl
 rw [e] at hx
 generalize nlAt s=r at hx
 go_enter Tryz.func125,Tryz.ntmps125
 go_wp2
 go_ret
 exact ⟨rfl,rfl⟩
set_option maxRecDepth 100000 in
set_option maxHeartbeats 2000000 in
theorem liteIndex_any (s:ByteArray) (w:World) :
  Calls Tryz.prog 97 #[.string s,.string ⟨#[10]⟩] w fun e w'=>e=.returned (.int .i64 (nlAt s))∧w=w':=by
 have hI:=fun wx=>liteIndexByte_any s wx
 have hz:(⟨#[10]⟩:ByteArray).size=1:=rfl
 by_cases hc:([10] == s.toList)=true
 ·have e0:nlAt s=0:=by
   have h:=eq_of_beq hc
   rw [ByteArray.toList_eq] at h
   unfold nlAt;rw [← h];rfl
  rw [e0]
  clear hI
  go_enter Tryz.func97,Tryz.ntmps97
  go_wp2_with fail
  go_ret
  exact ⟨rfl,rfl⟩
 ·generalize nlAt s=r at *
  have hc:([10] == s.toList)=false:=by simpa using hc
  go_enter Tryz.func97,Tryz.ntmps97
  go_wp2_with fail
  refine (hI _).mono ?_
  rintro e w1 ⟨rfl,rfl⟩
  go_wp2
  go_ret
  exact ⟨rfl,rfl⟩
set_option maxHeartbeats 2000000 in
theorem liteCut_any (s:ByteArray) (w:World) (hs:s.size≤140737488351232) :
  Calls Tryz.prog 55 #[.string s,.string ⟨#[10]⟩] w fun e w'=>(∃ b,e=.returned (.tuple #[.string (cutAX s),.string (cutZ s),.bool b]))∧Below w.heap.size w w':=by
 have hI:=fun wx=>liteIndex_any s wx
 have hz:(⟨#[10]⟩:ByteArray).size=1:=rfl
 rcases nl_cases s with ⟨e,_⟩ | ⟨m,e,hm,_,_⟩
 ·rw [(cut_none e).1,(cut_none e).2]
  rw [e] at hI
  go_enter Tryz.func55,Tryz.ntmps55
  go_wp2_with fail
  refine (hI _).mono ?_
  rintro e w1 ⟨rfl,rfl⟩
  go_wp2
  go_ret3
  exact ⟨⟨_,rfl⟩,Below.refl _ _⟩
 ·rw [(cut_some e).1,(cut_some e).2]
  rw [e] at hI
  have h0:¬ ((m:Int) < 0):=by omega
  have h1:(m:Int)+1≤(s.size:Int):=by omega
  have h2:(m:Int)≤(s.size:Int):=by omega
  go_enter Tryz.func55,Tryz.ntmps55
  go_wp2_with fail
  refine (hI _).mono ?_
  rintro e w1 ⟨rfl,rfl⟩
  go_wp2_with fail
  go_quiet (fail)
  go_wp2
  go_ret3
  exact ⟨⟨_,rfl⟩,bel_drewN (Below.refl _ _) _⟩
theorem cut_any (s:ByteArray) (w:World) (hs:s.size≤140737488351232) :
  Calls Tryz.prog 31 #[.string s,.string ⟨#[10]⟩] w fun e w'=>(∃ b,e=.returned (.tuple #[.string (cutAX s),.string (cutZ s),.bool b]))∧Below w.heap.size w w':=by
 have hI:=fun wx=>liteCut_any s wx hs
 go_enter Tryz.func31,Tryz.ntmps31
 go_wp2_with fail
 refine (hI _).mono ?_
 rintro e w1 ⟨⟨b,rfl⟩,hb⟩
 have HB:Hid (Below w.heap.size w w1):=hb
 clear hb
 go_wp2
 go_ret3
 exact ⟨⟨_,rfl⟩,HB.out⟩
end Go.Proofs.YtddkapkkjhomkabGreatDoor
namespace Go.Proofs.YtddkapkkjhomkabGreatDoor
open Go.RowKit Go.Shelf Go.Lib
attribute [local go_sem] Oper.semAt_some

def lineV (x:Nat × ByteArray):Array Value:=#[.int .i64 x.1,.string x.2]
def sizeV:Value→Nat
 | .string s=>s.size
 | _=>0
theorem lines_any (s:ByteArray) (w:World):Calls Tryz.prog 12 #[.string s] w fun e w'=>e=.returned (.func (.func 30) #[] #[.pointer (some ⟨w.heap.size,0,none⟩)])∧w'=w.alloc (.cells #[.string s] 9):=by
 go_enter Tryz.func12,Tryz.ntmps12
 go_wp2
 go_ret
 exact ⟨rfl,rfl⟩
theorem size_not (s:ByteArray) (h:s.size=0):s.toList.isEmpty=true:=by
 rw [ByteArray.toList_eq]
 have:s.data.toList=[]:=by rw [← List.length_eq_zero_iff,Array.length_toList];exact h
 rw [this];rfl
theorem size_some (s:ByteArray) (h:s.size≠0):s.toList.isEmpty=false:=by
 rw [ByteArray.toList_eq]
 cases e:s.data.toList with
 | nil=>exact absurd (by rw [← show s.data.size=s.size from rfl,← Array.length_toList,e];rfl) h
 | cons x l=>rfl
set_option maxRecDepth 100000 in
set_option maxHeartbeats 2000000 in
theorem lines_tells (s:ByteArray) (hs:s.size≤140737488351232) (b:Nat) (n0:Nat) (τ:TypeId→Prop) (w:World) (hb:w.heap[b]?=some (.cells #[.string s] 9 (0,0))) :
  Tells Tryz.prog 30 #[.pointer (some ⟨b,0,none⟩)] lineV (fun pre x _=>pre ++ [x] <+: linesT s) n0 τ (fun xs=>xs=linesT s) (fun pre=>pre <+: linesT s) w:=by
 intro l J Jx W hW hJ hJx hY h0
 have HY:Hid (∀ pre x W1,J pre W1→pre ++ [x] <+: linesT s→_):=hY
 have hbl:b < w.heap.size:=(Array.getElem?_eq_some_iff.1 hb).1
 obtain ⟨c0,_⟩:=oneCell ((hW.block b hbl).trans hb)
 clear hY hW hb
 refine callsIn_of_wp Tryz.func30 rfl trivial ?_ rfl
 simp only [Tryz.ntmps30,List.size_toArray,List.length_cons,List.length_nil,Nat.reduceAdd,Nat.reduceSub,Array.replicate_succ,Array.replicate_zero,List.push_toArray,List.append_toArray,List.nil_append,List.cons_append]
 gi_wp2
 gi_loopw [3,4] (fun t i wr=>∃ (z:ByteArray) (pre:List (Nat × ByteArray)) (f:Nat),t=.string z∧i=.int .i64 ((pre.length:Int)+1)∧z.size≤f∧pre.length+z.size≤s.size∧pre ++ linesF f (pre.length+1) z=linesT s∧J pre wr) (fun t _ _=>sizeV t)
 case atStart=>exact ⟨s,[],s.size,rfl,rfl,Nat.le_refl _,by simp,rfl,h0⟩
 case round =>
  obtain ⟨z,pre,f,rfl,rfl,hf,hsz,hpre,hJs⟩:=hrel
  clear h0
  by_cases hz:z.size=0
  ·have HJ:Hid (pre=linesT s∧J pre wr):=⟨by rw [← hpre,linesF_empty _ _ _ hz,List.append_nil],hJs⟩
   have hz':=size_not z hz
   clear hJs HY hpre
   gi_wp2
   go_end0
   exact ⟨⟨_,rfl⟩,.inl ⟨_,HJ.out.1,HJ.out.2⟩⟩
  ·obtain ⟨f',e1,hf'⟩:=linesF_step f (pre.length+1) z hz hf
   have hZ:=cutZ_size z hz
   have hA:=cutA_size z
   have hz':=size_some z hz
   have HPX:Hid (pre ++ [(pre.length+1,cutAX z)] <+: linesT s):=⟨linesF f' (pre.length+1+1) (cutZ z),by rw [← hpre,e1];simp⟩
   have HN:Hid ((pre ++ [(pre.length+1,cutAX z)]) ++ linesF f' ((pre ++ [(pre.length+1,cutAX z)]).length+1) (cutZ z)=linesT s):=by show _=_;rw [← hpre,e1];simp
   have hC:=fun wx=>cut_any z wx (by omega)
   have hD:=fun wx=>stringsClone_any (cutAX z) wx (by omega)
   have HJ:Hid (J pre wr):=hJs
   have HZ:Hid ((cutZ z).size < z.size∧(cutZ z).size≤f'):=⟨hZ,hf'⟩
   clear hJs hpre e1 hZ hA hf hf'
   generalize cutAX z=la at *
   generalize cutZ z=lz at *
   gi_wp2_with fail
   refine ⟨trivial,rfl,(callsIn_wide.2 (hC _)).mono ?_⟩
   rintro e w' ⟨⟨bb,rfl⟩,hB1⟩
   gi_wp2_with fail
   refine ⟨trivial,rfl,(callsIn_wide.2 (hD _)).mono ?_⟩
   rintro e W2 ⟨rfl,hB2⟩
   obtain ⟨fn,tmps,assign,body,hy,hR⟩:=HY.out pre (pre.length+1,la) W2 (OwnFrom.below hJ HJ.out (hB1.trans (hB2.mono hB1.size))) HPX.out
   simp only [lineV,Int.natCast_add,Int.natCast_one] at hy
   clear HY hC hD
   gi_wp2_with fail
   refine ⟨rfl,hR.mono ?_⟩
   rintro e W3 ⟨hkf,⟨rfl,hJ3,hk3⟩ | ⟨rfl,hJx3⟩⟩
   ·have HJ3:Hid (J (pre ++ [(pre.length+1,la)]) W3):=hJ3
    clear hy hR hkf hk3 hJ3
    gi_wp2
    go_roundw
    case rel=>exact ⟨lz,pre ++ [(pre.length+1,la)],f',rfl,by simp,HZ.out.2,by have:=HZ.out.1;simp;omega,HN.out,HJ3.out⟩
    case measure=>have:=HZ.out.1;simp only [sizeV];omega
   ·clear hy hR hkf
    gi_wp2
    refine bodyPost_ret (results_none rfl _ _ _) rfl ?_
    exact ⟨⟨_,rfl⟩,.inr ⟨_,HPX.out,hJx3⟩⟩
end Go.Proofs.YtddkapkkjhomkabGreatDoor
namespace Go.Proofs.YtddkapkkjhomkabGreatDoor
open Go.RowKit Go.Shelf
attribute [local go_sem] Oper.semAt_some
set_option maxRecDepth 100000

def goL:ModT→List (Nat × ByteArray)→Int × Int × ModT
 | st,[]=>(0,0,st)
 | st,x :: r=>if (addS st x.2).1≠0 then ((addS st x.2).1,(x.1:Int),st) else goL (addS st x.2).2 r
def st0:ModT:=(0,0,0,[])
def parseS (s:ByteArray):(Int × Int × List InstT) × Int × Int :=
 if 16777216 < s.size then ((0,0,[]),4,0)
 else if (goL st0 (linesT s)).1≠0 then ((0,0,[]),(goL st0 (linesT s)).1,(goL st0 (linesT s)).2.1)
 else if (goL st0 (linesT s)).2.2.2.2.1=0 then ((0,0,[]),72,((linesT s).length:Int))
 else (((goL st0 (linesT s)).2.2.1,(goL st0 (linesT s)).2.2.2.1,(goL st0 (linesT s)).2.2.2.2.2),0,0)
def PrsI (w:World) (pre:List (Nat × ByteArray)) (W:World):Prop :=
 Below w.heap.size w W∧W.heap[w.heap.size]?=some (.cells #[.int .u32 0,.int .u32 0,.slice none 0 0] 25 (0,0))∧W.heap[w.heap.size+1]?=some (.cells #[.int .i64 0,.int .i64 0] 28 (0,0))∧W.heap[w.heap.size+3]?=some (.cells #[.int .i64 pre.length] 3 (0,0)) ∧
 ∃ v st,ModAt W (w.heap.size+2) (w.heap.size+5) v st∧∀ r,goL st0 (pre ++ r)=goL st r
def PrsX (s:ByteArray) (w:World) (c:Code) (pre:List (Nat × ByteArray)) (W:World):Prop :=
 c=.ret∧(goL st0 (linesT s)).1≠0∧Below w.heap.size w W∧W.heap[w.heap.size]?=some (.cells #[.int .u32 0,.int .u32 0,.slice none 0 0] 25 (0,0))∧W.heap[w.heap.size+1]?=some (.cells #[.int .i64 (goL st0 (linesT s)).1,.int .i64 (goL st0 (linesT s)).2.1] 28 (0,0))
theorem Insts.stay {W W':World} {B lo:Nat} {v:Value} {xs:List InstT} {row:Option Nat} (h:Insts W B lo v xs) (hg:W.grownBy W' row) (hr:∀ r,row=some r→∃ o:Obj,W.heap[r]?=some o∧o.isCells=false):Insts W' B lo v xs:=by
 obtain ⟨cs,h1,h2⟩:=h.row
 have hap:Apartly W lo row:=fun g e=>.inr (hr g e)
 exact ⟨⟨cs,own_apartly h1 hg hap,h2.grown hg hap⟩,h.lt,Nat.le_trans h.le hg.size⟩
theorem prsI_own (w:World):OwnFrom (w.heap.size+5) (PrsI w):=by
 rintro pre W W' row ⟨h1,h2,h3,h4,v,st,h5,h6⟩ hg hr
 exact ⟨belowStay h1 (Nat.le_refl _) (by omega) hg hr,cellsStay h2 hg hr,cellsStay h3 hg hr,cellsStay h4 hg hr,v,st,⟨cellsStay h5.bld hg hr,h5.insts.stay hg (fun r e=>(hr r e).2),h5.words,h5.ok⟩,h6⟩
theorem prsX_own (s:ByteArray) (w:World) (c:Code):OwnFrom (w.heap.size+5) (PrsX s w c):=by
 rintro pre W W' row ⟨h0,h1,h2,h3,h4⟩ hg hr
 exact ⟨h0,h1,belowStay h2 (Nat.le_refl _) (by omega) hg hr,cellsStay h3 hg hr,cellsStay h4 hg hr⟩
def ParQ (w w':World) (R:(Int × Int × List InstT) × Int × Int) (e:Ending):Prop:=∃ a n c,e=.returned (.tuple #[.agg #[.int .u32 R.1.1,.int .u32 R.1.2.1,.slice a n c],.agg #[.int .i64 R.2.1,.int .i64 R.2.2]])∧InstsV w' a R.1.2.2∧R.1.2.2.length=n∧InstsOk R.1.2.2∧Below w.heap.size w w'
set_option maxHeartbeats 8000000 in
theorem asmParse_main (s:ByteArray) (w:World) (hs:s.size≤16777216) :
  Calls Tryz.prog 25 #[.string s] w fun e w'=>ParQ w w' (parseS s) e:=by
 refine (callsIn_wide (n:=0)).1 ?_
 refine callsIn_of_wp_marks Tryz.func25 rfl trivial ?_ rfl
 simp only [Tryz.ntmps25,List.size_toArray,List.length_cons,List.length_nil,Nat.reduceAdd,Nat.reduceSub,Array.replicate_succ,Array.replicate_zero,List.push_toArray,List.append_toArray,List.nil_append,List.cons_append]
 have hsi:decide ((16777216:Int) < (s.size:Int))=false:=by simpa using (by omega:¬ (16777216:Int) < (s.size:Int))
 gi_wp2_with fail
 refine ⟨trivial,rfl,(callsIn_wide.2 (lines_any s _)).mono ?_⟩
 rintro e w2 ⟨rfl,rfl⟩
 obtain ⟨wL,hwL⟩:∃ X,X=((((w.alloc (.cells #[.int .u32 0,.int .u32 0,.slice none 0 0] 25)).alloc (.cells #[.int .i64 0,.int .i64 0] 28)).alloc (.cells #[.int .u32 0,.int .u32 0,.slice none 0 0,.int .i64 0] 116)).alloc (.cells #[.int .i64 0] 3)).alloc (.cells #[.string s] 9):=⟨_,rfl⟩
 have hsL:wL.heap.size=w.heap.size+5:=by rw [hwL];simp
 have hbL:Below w.heap.size w wL:=by rw [hwL];exact (((((Below.refl _ w).alloc (Nat.le_refl _) _).alloc (by simp) _).alloc (by simp;omega) _).alloc (by simp;omega) _).alloc (by simp;omega) _
 have k0:wL.heap[w.heap.size]?=some (.cells #[.int .u32 0,.int .u32 0,.slice none 0 0] 25 (0,0)):=by rw [hwL];exact allocOld (allocOld (allocOld (allocOld (allocNew w _ rfl) _) _) _) _
 have k1:wL.heap[w.heap.size+1]?=some (.cells #[.int .i64 0,.int .i64 0] 28 (0,0)):=by rw [hwL];exact allocOld (allocOld (allocOld (allocNew _ _ (by simp)) _) _) _
 have k2:wL.heap[w.heap.size+2]?=some (.cells #[.int .u32 0,.int .u32 0,.slice none 0 0,.int .i64 0] 116 (0,0)):=by rw [hwL];exact allocOld (allocOld (allocNew _ _ (by simp)) _) _
 have k3:wL.heap[w.heap.size+3]?=some (.cells #[.int .i64 0] 3 (0,0)):=by rw [hwL];exact allocOld (allocNew _ _ (by simp)) _
 have k4:wL.heap[w.heap.size+4]?=some (.cells #[.string s] 9 (0,0)):=by rw [hwL];exact allocNew _ _ (by simp)
 clear hsi
 gi_wp2_with fail
 rw [← hwL]
 clear hwL
 simp only [Nat.add_assoc,Nat.reduceAdd]
 refine wp_tells rfl (enters_of Tryz.func30 (by kernel_rfl) rfl) (lines_tells s (by omega) (w.heap.size+4) w.heap.size (fun _=>False) wL k4) (by omega) (fun _=>rfl)
  (PrsI w) (PrsX s w) (by rw [hsL];exact prsI_own w) (fun c=>by rw [hsL];exact prsX_own s w c)
  ⟨hbL,k0,k1,k3,.slice none 0 0,st0,⟨k2,⟨⟨[],World.ownsRow_nil _ _ _ _,rowI_nil⟩,by omega,by omega⟩,by simp [st0],fun j hj=>by simp [st0] at hj⟩,fun r=>rfl⟩
  (fun pre x a' W=>pre ++ [x] <+: linesT s∧a'={ tmps:=#[.string s,undef,.pointer (some ⟨w.heap.size,0,none⟩),.pointer (some ⟨w.heap.size+1,0,none⟩),.pointer (some ⟨w.heap.size+2,0,none⟩),.pointer (some ⟨w.heap.size+3,0,none⟩),.int .i64 x.1,.string x.2,undef,.string s,.int .i64 (s.size:Int),.bool false,undef,undef,.string s,.func (.func 30) #[] #[.pointer (some ⟨w.heap.size+4,0,none⟩)],.int .i64 x.1,.string x.2,undef,undef,undef,undef,undef,undef,undef,undef,undef,undef,undef,undef,undef,undef,undef,undef,undef],defers:=[] })
  ?hAx ?assign ?body ?done ?stop
 case hAx =>
  rintro pre x a' s W W' row h hg hr
  exact h
 case assign =>
  rintro l pre x W K hI hV hK
  simp only [lineV]
  gi_wp2
  exact hK _ _ (KeepsFrom.refl _ _) (Kept.refl _ _ _) hI ⟨hV,rfl⟩
 case body =>
  rintro l pre x a' W hl' ⟨rr,hrr⟩ ⟨h1,h2,h3,h4,v,st,h5,h6⟩ ⟨hV,rfl⟩
  obtain ⟨p1,p2,p3,p4,p5⟩:=pre_at hV
  obtain ⟨n,t⟩:=x
  simp only at p1 p2 p3
  have hC:=addLine_any (w.heap.size+2) (w.heap.size+5) v st t W h5 (by omega)
  have hpl:pre.length < s.size:=Nat.lt_of_lt_of_le p4 (lines_len _ _ _)
  obtain ⟨rest,hrest⟩:=hV
  have HBAD:Hid ((addS st t).1≠0→(goL st0 (linesT s)).1=(addS st t).1∧(goL st0 (linesT s)).2.1=(n:Int)):=fun h=>by
   rw [← hrest,List.append_assoc,h6]
   simp only [List.singleton_append,goL,if_pos h,and_self]
  have HNX:Hid ((addS st t).1=0→∀ r,goL st0 (pre ++ [(n,t)] ++ r)=goL (addS st t).2 r):=fun h r=>by
   rw [List.append_assoc,h6]
   simp only [List.singleton_append,goL]
   rw [if_neg (by simpa using h)]
  generalize addS st t=A at *
  obtain ⟨E,st'⟩:=A
  simp only at hC
  have HH:=hide (And.intro h1 (And.intro h2 (And.intro h3 (And.intro h4 h5))))
  clear h1 h2 h3 h4 h6 k0 k1 k2 k3 k4 hbL
  gi_wp2_with fail
  refine ⟨trivial,rfl,(CallsIn.inRound l (callsIn_wide.2 hC)).mono ?_⟩
  rintro e w5 ⟨rfl,hT5,hq5⟩
  obtain ⟨h1,h2,h3,h4,h5⟩:=HH.out
  obtain ⟨cs,ho1,ho2⟩:=h5.insts.row
  have hob:∀ g,v.ownBlock=some g→w.heap.size+5≤g:=fun g e=>(ho1.lt g e).1
  have hcell:∀ g,v.ownBlock=some g→∃ c t f,W.heap[g]?=some (.cells c t f):=fun g e=>by
   rcases ho1.2 with ⟨e1,_⟩ | ⟨g',cap,cur,e1,_,e3,_⟩
   ·rw [e1] at e;simp [Value.ownBlock] at e
   ·rw [e1] at e
    have:some g'=some g:=e
    cases this
    exact ⟨_,_,_,e3⟩
  have keep:∀ k,k < w.heap.size+5→k≠w.heap.size+2→W.heap[k]?=w5.heap[k]?:=fun k hk hB=>by
   by_cases hkl:k < W.heap.size
   ·exact (hT5.block k hkl hB (fun e=>by have:=hob k e.symm;omega)).symm
   ·have:=h5.insts.le;omega
  have hw5:Below w.heap.size w w5:=⟨hT5.os.trans h1.os,hT5.tape.trans h1.tape,hT5.output.trans h1.output,Nat.le_trans h1.size hT5.size,fun k hk=>(keep k (by omega) (by omega)).symm.trans (h1.block k hk)⟩
  have q2:=(keep _ (by omega) (by omega)).symm.trans h2
  have q3:=(keep _ (by omega) (by omega)).symm.trans h3
  have q4:=(keep _ (by omega) (by omega)).symm.trans h4
  have hKF:KeepsFrom wL.heap.size W w5:=⟨hT5.size,fun k o hk ho hoc=>by
   refine (hT5.block k (Array.getElem?_eq_some_iff.1 ho).1 (fun e=>?_) (fun e=>?_)).trans ho
   ·subst e
    have hb:W.heap[w.heap.size+2]?=some (.cells #[.int .u32 st.1,.int .u32 st.2.1,v,.int .i64 st.2.2.1] 116 (0,0)):=h5.bld
    rw [hb] at ho;cases ho;cases hoc
   ·obtain ⟨c,t,f,hc⟩:=hcell k e.symm
    rw [hc] at ho;cases ho;cases hoc⟩
  have HBW:Hid (Below w.heap.size W w5):=⟨hT5.os,hT5.tape,hT5.output,hT5.size,fun k hk=>(keep k (by omega) (by omega)).symm⟩
  have HKF:=hide hKF
  have HW5:=hide hw5
  have HQ:=hide hq5
  have HQ2:=hide q2
  have HQ3:=hide q3
  have HQ4:=hide q4
  have HSW:Hid (w.heap.size+5≤w5.heap.size):=Nat.le_trans h5.insts.le hT5.size
  obtain ⟨cm,fm⟩:=blk_cells q2
  obtain ⟨cp,fp⟩:=blk_cells q3
  obtain ⟨cl,fl⟩:=blk_cells q4
  have m0:=cm 0
  have m1:=cm 1
  have m2:=cm 2
  have s0:=cp 0
  have s1:=cp 1
  have l0:=cl 0
  clear hC hT5 hq5 hKF hw5 q2 q3 q4 cm cp cl h1 h2 h3 h4 h5 HH ho1 ho2 hob hcell keep
  by_cases hE:E=0
  ·subst hE
   have hNX:=HNX.out rfl
   have HN2:=hide hNX
   obtain ⟨v',hM'⟩:=HQ.out rfl
   have HM':=hide hM'
   clear hNX hM' HBAD HNX HQ
   gi_wp2_with fail
   have hkf:=HKF.out
   have hw5:=HW5.out
   have hM:=HM'.out
   obtain ⟨cs,hr1,hr2⟩:=hM.insts.row
   refine ⟨⟨by simpa [World.setCell] using hkf.size,fun k o hk ho hoc=>(KeepsOthers.setCell _ _ _).same k o (hkf.same k o hk ho hoc) hoc⟩,⟨HBW.out.setCell (by simp) _,fun _ _ _ _ h _=>h.elim⟩,hw5.setCell (by simp) _,setFar HQ2.out (by omega) _ _,setFar HQ3.out (by omega) _ _,?_,v',st',?_,HN2.out⟩
   ·have:=oneSet HQ4.out (.int .i64 ((pre.length:Int)+1))
    rw [List.length_append,List.length_singleton]
    simpa using this
   ·refine ⟨(Below.heap_setCell _ _ _ _ (by simp)).trans hM.bld,⟨⟨cs,ownsRow_setCell_below hr1 (by simp) _,hr2.grown (grown_set (World.grownBy.refl w5 (some (w.heap.size+3))) 0 _) (fun g e=>by simp only [Option.some.injEq] at e;subst e;exact .inl (by omega))⟩,hM.insts.lt,?_⟩,hM.words,hM.ok⟩
    rw [World.size_setCell];exact hM.insts.le
  ·have hE':(E != 0)=true:=by simpa using hE
   have HB2:=hide (HBAD.out hE)
   have HE:=hide hE
   clear HBAD HNX HQ hE
   gi_wp2_with fail
   have hkf:=HKF.out
   have hw5:=HW5.out
   refine ⟨⟨by simpa [World.setCell] using hkf.size,fun k o hk ho hoc=>(KeepsOthers.setCell _ _ _).same k o ((KeepsOthers.setCell _ _ _).same k o ((KeepsOthers.setCell _ _ _).same k o ((KeepsOthers.setCell _ _ _).same k o ((KeepsOthers.setCell _ _ _).same k o (hkf.same k o hk ho hoc) hoc) hoc) hoc) hoc) hoc⟩,rfl,by rw [HB2.out.1];exact HE.out,((((hw5.setCell (Nat.le_refl _) _).setCell (Nat.le_refl _) _).setCell (Nat.le_refl _) _).setCell (by simp) _).setCell (by simp) _,?_,?_⟩
   ·have:=HQ2.out
    simp [World.setCell,Array.getElem?_modify,this]
   ·rw [HB2.out.1,HB2.out.2]
    have:=HQ3.out
    simp [World.setCell,Array.getElem?_modify,this]
    try omega
 case stop =>
  rintro D c pre W hD _ ⟨rfl,hne,h1,h2,h3⟩ hK
  have hput:=grownBy_putObj' W D (.deferred none)
  have hrr:∀ r,some D=some r→w.heap.size+5≤r∧∃ o:Obj,W.heap[r]?=some o∧o.isCells=false:=fun r e=>by cases e;exact ⟨by omega,_,hK,rfl⟩
  have HBE:=hide (belowStay h1 (Nat.le_refl _) (by omega) hput hrr)
  have k2':=cellsStay h2 hput hrr
  have k3':=cellsStay h3 hput hrr
  obtain ⟨cm,_⟩:=blk_cells k2'
  obtain ⟨cp,_⟩:=blk_cells k3'
  have r0:=cm 0
  have r1:=cm 1
  have r2:=cm 2
  have r3:=cp 0
  have r4:=cp 1
  have HR:Hid (parseS s=((0,0,[]),(goL st0 (linesT s)).1,(goL st0 (linesT s)).2.1)):=by show _=_;unfold parseS;rw [if_neg (by omega),if_pos hne]
  clear k0 k1 k2 k3 k4 h1 h2 h3 hput hrr k2' k3' cm cp
  gi_wp2_with fail
  refine ⟨by simp,.inl ⟨_,_,rfl,run_takeDeferred hK,?_⟩⟩
  refine ⟨.tuple #[.agg #[.int .u32 0,.int .u32 0,.slice none 0 0],.agg #[.int .i64 (goL st0 (linesT s)).1,.int .i64 (goL st0 (linesT s)).2.1]],by simp [results,Tryz.results25,go_sem,r0,r1,r2,r3,r4],?_⟩
  unfold ParQ
  rw [HR.out]
  exact ⟨none,0,0,rfl,instsV_nil,rfl,fun j hj=>by simp at hj,HBE.out⟩
 case done =>
  rintro D xs W hD rfl ⟨h1,h2,h3,h4,v,st,h5,h6⟩ hK
  have hgo:goL st0 (linesT s)=(0,0,st):=by have:=h6 [];rw [List.append_nil] at this;exact this
  have hHd:=headed_any (w.heap.size+2) st.1 st.2.1 v st.2.2.1 W h5.bld
  have hwd:=h5.words
  have HH:=hide (And.intro h1 (And.intro h2 (And.intro h3 (And.intro h4 h5))))
  have HGO:=hide hgo
  clear k0 k1 k2 k3 k4 h1 h2 h3 h4 h6 hgo
  by_cases hz:st.2.2.1=0
  ·rw [show decide (0 < st.2.2.1)=false by simp;omega] at hHd
   have HR:Hid (parseS s=((0,0,[]),72,((linesT s).length:Int))):=by show _=_;unfold parseS;rw [if_neg (by omega),HGO.out];simp [hz]
   clear h5 hwd hz
   gi_wp2_with fail
   refine ⟨trivial,rfl,(callsIn_wide.2 hHd).mono ?_⟩
   rintro e w5 ⟨rfl,rfl⟩
   gi_wp2_with fail
   rename_i Kr hKr
   have HKR:=hide hKr
   obtain ⟨h1,h2,h3,h4,h5⟩:=HH.out
   have hl5:w.heap.size+5≤D:=by omega
   clear hKr hHd HGO HH h5
   have key:∀ (u:Array Value) (X:World),u.getD 2 undef=.pointer (some ⟨w.heap.size,0,none⟩)→u.getD 3 undef=.pointer (some ⟨w.heap.size+1,0,none⟩)→X.heap[w.heap.size]?=some (.cells #[.int .u32 0,.int .u32 0,.slice none 0 0] 25 (0,0))→X.heap[w.heap.size+1]?=some (.cells #[.int .i64 72,.int .i64 ((linesT s).length:Int)] 28 (0,0))→Below w.heap.size w X→X.heap[D]?=some (.deferred (some [])) →
     Kr { tmps:=u,defers:=[{ target:=.collected D,args:=#[] }] } X:=by
    intro u X g2 g3 j1 j2 j3 j4
    refine HKR.out _ _ ?_
    have hput:=grownBy_putObj' X D (.deferred none)
    have hrr:∀ r,some D=some r→w.heap.size+5≤r∧∃ o:Obj,X.heap[r]?=some o∧o.isCells=false:=fun r e=>by cases e;exact ⟨hl5,_,j4,rfl⟩
    have HBE:=hide (belowStay j3 (Nat.le_refl _) (by omega) hput hrr)
    obtain ⟨cm,_⟩:=blk_cells (cellsStay j1 hput hrr)
    obtain ⟨cp,_⟩:=blk_cells (cellsStay j2 hput hrr)
    have r0:=cm 0
    have r1:=cm 1
    have r2:=cm 2
    have r3:=cp 0
    have r4:=cp 1
    clear hput hrr cm cp j1 j2 j3
    gi_wp2_with fail
    refine ⟨by simp,.inl ⟨_,_,rfl,run_takeDeferred j4,?_⟩⟩
    have g2':u[2]?.getD undef=.pointer (some ⟨w.heap.size,0,none⟩):=by rw [← Array.getD_eq_getD_getElem?];exact g2
    have g3':u[3]?.getD undef=.pointer (some ⟨w.heap.size+1,0,none⟩):=by rw [← Array.getD_eq_getD_getElem?];exact g3
    refine ⟨.tuple #[.agg #[.int .u32 0,.int .u32 0,.slice none 0 0],.agg #[.int .i64 72,.int .i64 ((linesT s).length:Int)]],by simp [results,Tryz.results25,go_sem,g2',g3',r0,r1,r2,r3,r4],?_⟩
    unfold ParQ
    rw [HR.out]
    exact ⟨none,0,0,rfl,instsV_nil,rfl,fun j hj=>by simp at hj,HBE.out⟩
   have KEY:=hide key
   clear key HKR
   have hmix:Tryz.prog.follows .mixedOrders=true:=by kernel_rfl
   have hC0:(fun wx:World=>wx.heap[w.heap.size]?=some (.cells #[.int .u32 0,.int .u32 0,.slice none 0 0] 25 (0,0))∧(∃ y0 y1,wx.heap[w.heap.size+1]?=some (.cells #[y0,y1] 28 (0,0)))∧wx.heap[w.heap.size+3]?=some (.cells #[.int .i64 ((linesT s).length:Int)] 3 (0,0))∧Below w.heap.size w wx∧wx.heap[D]?=some (.deferred (some []))) W.drew:=⟨h2,⟨_,_,h3⟩,h4,h1.drew,hK⟩
   refine wpIn_normal (wpIn_region_any hmix (wpAnyC_sound (C:=fun wx:World=>wx.heap[w.heap.size]?=some (.cells #[.int .u32 0,.int .u32 0,.slice none 0 0] 25 (0,0))∧(∃ y0 y1,wx.heap[w.heap.size+1]?=some (.cells #[y0,y1] 28 (0,0)))∧wx.heap[w.heap.size+3]?=some (.cells #[.int .i64 ((linesT s).length:Int)] 3 (0,0))∧Below w.heap.size w wx∧wx.heap[D]?=some (.deferred (some []))) _ _ _ _ ?_))
   change wpAnyC _ _ _ _ _ _ _ _ _ _ (World.drew _)
   refine wpAnyC_takeD (i:=0) (some 29) (v:=.agg #[.int .u32 0,.int .u32 0,.slice none 0 0]) (fun _=>trivial) (by kernel_rfl) rfl rfl (by kernel_rfl) (by kernel_rfl) (by kernel_rfl) (fun _ _ _ h=>by cases h.1) hC0 (Or.inl ⟨by kernel_rfl,fun w' hC=>by clear hC;go_simp⟩) ?_
   simp only [Act.put,List.setIfInBounds_toArray,List.set_cons_succ,List.set_cons_zero]
   refine wpAnyC_takeD (i:=1) (some 30) (v:=.int .i64 ((linesT s).length:Int)) (fun _=>trivial) (by kernel_rfl) rfl rfl (by kernel_rfl) (by kernel_rfl) (by kernel_rfl) (fun _ _ _ h=>by cases h.1) hC0 (Or.inl ⟨by kernel_rfl,fun w' hC=>by have e0:=(blk_cells hC.2.2.1).1 0;clear hC;go_simp⟩) ?_
   simp only [Act.put,List.setIfInBounds_toArray,List.set_cons_succ,List.set_cons_zero]
   refine wpAnyC_takeD (i:=2) (some 31) (v:=.agg #[.int .i64 72,.int .i64 ((linesT s).length:Int)]) (fun _=>trivial) (by kernel_rfl) rfl rfl (by kernel_rfl) (by kernel_rfl) (by kernel_rfl) (fun _ _ _ h=>by cases h.1) hC0 (Or.inl ⟨by kernel_rfl,fun w' hC=>by clear hC;go_simp⟩) ?_
   simp only [Act.put,List.setIfInBounds_toArray,List.set_cons_succ,List.set_cons_zero]
   refine wpAnyC_ready (rs:=[3]) (by kernel_rfl) (by simp) ?_
   refine AllC.cons rfl (fun K hK'=>?_) AllC.nil
   obtain ⟨cm,fm⟩:=blk_cells h2
   obtain ⟨cp,fp⟩:=blk_cells h3
   have m0:=cm 0
   have m1:=cm 1
   have m2:=cm 2
   have s0:=cp 0
   have s1:=cp 1
   have hD0:D≠w.heap.size:=by omega
   have hD1:D≠w.heap.size+1:=by omega
   have n2:(((W.setCell ⟨w.heap.size,0,none⟩ (.int .u32 0)).setCell ⟨w.heap.size,1,none⟩ (.int .u32 0)).setCell ⟨w.heap.size,2,none⟩ (.slice none 0 0)).heap[w.heap.size]?=some (.cells #[.int .u32 0,.int .u32 0,.slice none 0 0] 25 (0,0)):=by simp [World.setCell,Array.getElem?_modify,h2]
   have n3:(((W.setCell ⟨w.heap.size,0,none⟩ (.int .u32 0)).setCell ⟨w.heap.size,1,none⟩ (.int .u32 0)).setCell ⟨w.heap.size,2,none⟩ (.slice none 0 0)).heap[w.heap.size+1]?=some (.cells #[.int .i64 0,.int .i64 0] 28 (0,0)):=by rw [Below.heap_setCell _ _ _ _ (by simp),Below.heap_setCell _ _ _ _ (by simp),Below.heap_setCell _ _ _ _ (by simp)];exact h3
   have n4:(((W.setCell ⟨w.heap.size,0,none⟩ (.int .u32 0)).setCell ⟨w.heap.size,1,none⟩ (.int .u32 0)).setCell ⟨w.heap.size,2,none⟩ (.slice none 0 0)).heap[w.heap.size+3]?=some (.cells #[.int .i64 ((linesT s).length:Int)] 3 (0,0)):=by rw [Below.heap_setCell _ _ _ _ (by simp),Below.heap_setCell _ _ _ _ (by simp),Below.heap_setCell _ _ _ _ (by simp)];exact h4
   have n5:Below w.heap.size w (((W.setCell ⟨w.heap.size,0,none⟩ (.int .u32 0)).setCell ⟨w.heap.size,1,none⟩ (.int .u32 0)).setCell ⟨w.heap.size,2,none⟩ (.slice none 0 0)):=((h1.setCell (Nat.le_refl _) _).setCell (Nat.le_refl _) _).setCell (Nat.le_refl _) _
   have n6:(((W.setCell ⟨w.heap.size,0,none⟩ (.int .u32 0)).setCell ⟨w.heap.size,1,none⟩ (.int .u32 0)).setCell ⟨w.heap.size,2,none⟩ (.slice none 0 0)).heap[D]?=some (.deferred (some [])):=by rw [Below.heap_setCell _ _ _ _ (by simpa using hD0),Below.heap_setCell _ _ _ _ (by simpa using hD0),Below.heap_setCell _ _ _ _ (by simpa using hD0)];exact hK
   obtain ⟨o1,o2⟩:=two_putB n3 (.int .i64 72) (.int .i64 ((linesT s).length:Int))
   have HN:=hide (And.intro n2 (And.intro n3 (And.intro n4 (And.intro n5 n6))))
   have HO:=hide (And.intro o1 o2)
   have HDD:=hide (And.intro hD0 hD1)
   clear n2 n3 n4 n5 n6 o1 o2 cm cp hC0 h1 h2 h3 h4
   go_simp
   refine hK' _ _ ⟨HN.out.1,⟨_,_,HN.out.2.1⟩,HN.out.2.2.1,HN.out.2.2.2.1.drew,HN.out.2.2.2.2⟩ ?_
   clear hK' K
   refine wpAnyC_ready (rs:=[4]) (by kernel_rfl) (by simp) ?_
   refine AllC.cons rfl (fun K hK'=>?_) AllC.nil
   go_simp
   have hD0:=HDD.out.1
   have hD1:=HDD.out.2
   have e2:=(HO.out.2.block w.heap.size (by omega)).trans HN.out.1
   have e5:=HN.out.2.2.2.1.trans (HO.out.2.mono (by omega))
   have e6:((((W.setCell ⟨w.heap.size,0,none⟩ (.int .u32 0)).setCell ⟨w.heap.size,1,none⟩ (.int .u32 0)).setCell ⟨w.heap.size,2,none⟩ (.slice none 0 0)).setCell ⟨w.heap.size+1,0,none⟩ (.int .i64 72)).setCell ⟨w.heap.size+1,1,none⟩ (.int .i64 ((linesT s).length:Int)) |>.heap[D]?=some (.deferred (some [])):=by
    rw [Below.heap_setCell _ _ _ _ (by simpa using hD1),Below.heap_setCell _ _ _ _ (by simpa using hD1)];exact HN.out.2.2.2.2
   have e4:((((W.setCell ⟨w.heap.size,0,none⟩ (.int .u32 0)).setCell ⟨w.heap.size,1,none⟩ (.int .u32 0)).setCell ⟨w.heap.size,2,none⟩ (.slice none 0 0)).setCell ⟨w.heap.size+1,0,none⟩ (.int .i64 72)).setCell ⟨w.heap.size+1,1,none⟩ (.int .i64 ((linesT s).length:Int)) |>.heap[w.heap.size+3]?=some (.cells #[.int .i64 ((linesT s).length:Int)] 3 (0,0)):=by
    rw [Below.heap_setCell _ _ _ _ (by simp),Below.heap_setCell _ _ _ _ (by simp)];exact HN.out.2.2.1
   have HE:=hide (And.intro e2 (And.intro HO.out.1 (And.intro e5 (And.intro e6 e4))))
   clear e2 e4 e5 e6 HN HO
   refine hK' _ _ ⟨HE.out.1,⟨_,_,HE.out.2.1⟩,HE.out.2.2.2.2,HE.out.2.2.1.drew,HE.out.2.2.2.1⟩ ?_
   refine wpAnyC_done (by kernel_rfl) ⟨rfl,?_⟩ _
   generalize ((((W.setCell ⟨w.heap.size,0,none⟩ (.int .u32 0)).setCell ⟨w.heap.size,1,none⟩ (.int .u32 0)).setCell ⟨w.heap.size,2,none⟩ (.slice none 0 0)).setCell ⟨w.heap.size+1,0,none⟩ (.int .i64 72)).setCell ⟨w.heap.size+1,1,none⟩ (.int .i64 ((linesT s).length:Int))=XF at *
   show Kr _ _
   exact KEY.out _ _ rfl rfl HE.out.1 HE.out.2.1 HE.out.2.2.1.drew HE.out.2.2.2.1
  ·rw [show decide (0 < st.2.2.1)=true by simp;omega] at hHd
   have HR:Hid (parseS s=((st.1,st.2.1,st.2.2.2),0,0)):=by show _=_;unfold parseS;rw [if_neg (by omega),HGO.out];simp [hz]
   obtain ⟨h1,h2,h3,h4,_⟩:=HH.out
   obtain ⟨cs,hr1,hr2⟩:=h5.insts.row
   obtain ⟨av,cv,rfl⟩:=own_shape7 hr1
   obtain ⟨cb,_⟩:=blk_cells h5.bld
   obtain ⟨cm,fm⟩:=blk_cells h2
   obtain ⟨cp,fp⟩:=blk_cells h3
   have b0:=cb 0
   have b1:=cb 1
   have b2:=cb 2
   have m0:=cm 0
   have m1:=cm 1
   have m2:=cm 2
   have s0:=cp 0
   have s1:=cp 1
   have HOK:=hide h5.ok
   have HRW:=hide (And.intro hr1 hr2)
   clear h5 hwd hz cb cm cp h1 h2 h3 h4 hr1 hr2
   gi_wp2_with fail
   refine ⟨trivial,rfl,(callsIn_wide.2 hHd).mono ?_⟩
   rintro e w5 ⟨rfl,rfl⟩
   obtain ⟨h1,h2,h3,h4,h5⟩:=HH.out
   obtain ⟨f1,f2,f3⟩:=five_put h2 h3 (.int .u32 st.1) (.int .u32 st.2.1) (.slice av st.2.2.2.length cv) (.int .i64 0) (.int .i64 0)
   have hD0:D≠w.heap.size:=by omega
   have hD1:D≠w.heap.size+1:=by omega
   have hKY:(((((W.setCell ⟨w.heap.size,0,none⟩ (.int .u32 st.1)).setCell ⟨w.heap.size,1,none⟩ (.int .u32 st.2.1)).setCell ⟨w.heap.size,2,none⟩ (.slice av st.2.2.2.length cv)).setCell ⟨w.heap.size+1,0,none⟩ (.int .i64 0)).setCell ⟨w.heap.size+1,1,none⟩ (.int .i64 0)).heap[D]?=some (.deferred (some [])):=by
    rw [Below.heap_setCell _ _ _ _ (by simpa using hD1),Below.heap_setCell _ _ _ _ (by simpa using hD1),Below.heap_setCell _ _ _ _ (by simpa using hD0),Below.heap_setCell _ _ _ _ (by simpa using hD0),Below.heap_setCell _ _ _ _ (by simpa using hD0)];exact hK
   have hoY:=ownsRow_setCell_below (ownsRow_setCell_below (ownsRow_setCell_below (ownsRow_setCell_below (ownsRow_setCell_below HRW.out.1 (a:=⟨w.heap.size,0,none⟩) (by simp) (.int .u32 st.1)) (a:=⟨w.heap.size,1,none⟩) (by simp) (.int .u32 st.2.1)) (a:=⟨w.heap.size,2,none⟩) (by simp) (.slice av st.2.2.2.length cv)) (a:=⟨w.heap.size+1,0,none⟩) (by simp) (.int .i64 0)) (a:=⟨w.heap.size+1,1,none⟩) (by simp) (.int .i64 0)
   have hrY:=(HRW.out.2.grown (grown_set (grown_set (grown_set (World.grownBy.refl W (some w.heap.size)) 0 (.int .u32 st.1)) 1 (.int .u32 st.2.1)) 2 (.slice av st.2.2.2.length cv)) (fun g e=>by simp only [Option.some.injEq] at e;subst e;exact .inl (by omega))).grown (grown_set (grown_set (World.grownBy.refl _ (some (w.heap.size+1))) 0 (.int .i64 0)) 1 (.int .i64 0)) (fun g e=>by simp only [Option.some.injEq] at e;subst e;exact .inl (by omega))
   have hbY:=h1.trans f3
   have HY:=hide (And.intro f1 (And.intro f2 (And.intro hbY (And.intro hKY (And.intro hoY hrY)))))
   clear h1 h2 h3 h4 h5 f1 f2 f3 hKY hoY hrY hbY hHd HH HRW
   gi_wp2_with fail
   generalize ((((W.setCell ⟨w.heap.size,0,none⟩ (.int .u32 st.1)).setCell ⟨w.heap.size,1,none⟩ (.int .u32 st.2.1)).setCell ⟨w.heap.size,2,none⟩ (.slice av st.2.2.2.length cv)).setCell ⟨w.heap.size+1,0,none⟩ (.int .i64 0)).setCell ⟨w.heap.size+1,1,none⟩ (.int .i64 0)=Y at *
   obtain ⟨f1,f2,hbY,hKY,hoY,hrY⟩:=HY.out
   have hput:=grownBy_putObj' Y D (.deferred none)
   have hrr:∀ r,some D=some r→w.heap.size+5≤r∧∃ o:Obj,Y.heap[r]?=some o∧o.isCells=false:=fun r e=>by cases e;exact ⟨by omega,_,hKY,rfl⟩
   have HBE:=hide (belowStay hbY (Nat.le_refl _) (by omega) hput hrr)
   obtain ⟨cm,_⟩:=blk_cells (cellsStay f1 hput hrr)
   obtain ⟨cp,_⟩:=blk_cells (cellsStay f2 hput hrr)
   have r0:=cm 0
   have r1:=cm 1
   have r2:=cm 2
   have r3:=cp 0
   have r4:=cp 1
   have hap:Apartly Y (w.heap.size+5) (some D):=fun g e=>.inr (hrr g e).2
   have hV:=((hrY.grown hput hap).own (own_apartly hoY hput hap) rfl).view
   refine ⟨by simp,.inl ⟨_,_,rfl,run_takeDeferred hKY,?_⟩⟩
   refine ⟨.tuple #[.agg #[.int .u32 st.1,.int .u32 st.2.1,.slice av st.2.2.2.length cv],.agg #[.int .i64 0,.int .i64 0]],by simp [results,Tryz.results25,go_sem,r0,r1,r2,r3,r4],?_⟩
   unfold ParQ
   rw [HR.out]
   exact ⟨av,st.2.2.2.length,cv,rfl,hV,rfl,HOK.out,HBE.out⟩
end Go.Proofs.YtddkapkkjhomkabGreatDoor
namespace Go.Proofs.YtddkapkkjhomkabGreatDoor
open Go.RowKit

def wsum (b:Int) (l:List InstT):Nat:=(l.map fun x=>1+(rawWs x b).length).sum
def hx1 (c:Int):List Int:=[92,120,hexD (c / 16),hexD (c % 16)]
def hxL (l:List Int):List Int:=l.flatMap hx1
def wtS (t:TokT):List Int:=if t.1=2 then 37 :: strI t.2.1 else if t.1=4 then 34 :: (hxL (strI t.2.1) ++ [34]) else strI t.2.1
theorem hex_digit {n:Int} (h0:0≤n) (h1:n < 16):hexB (hexD n)=true∧dvI (hexD n)=n∧48≤hexD n∧hexD n≤102:=by
 have:∀ m:Fin 16,hexB (hexD (m.val:Int))=true∧dvI (hexD (m.val:Int))=(m.val:Int)∧48≤hexD (m.val:Int)∧hexD (m.val:Int)≤102:=by decide
 obtain ⟨m,rfl⟩:=Int.eq_ofNat_of_zero_le h0
 exact this ⟨m,by omega⟩
theorem part_hx (c:Int) (rest:List Int) (h0:0≤c) (h1:c < 256):nth (hx1 c ++ rest) 0≠34∧partP (hx1 c ++ rest) 0=some (c,(hx1 c).length):=by
 unfold hx1
 obtain ⟨a1,a2,_⟩:=hex_digit (n:=c / 16) (by omega) (by omega)
 obtain ⟨b1,b2,_⟩:=hex_digit (n:=c % 16) (by omega) (by omega)
 have e0:nth ([92,120,hexD (c / 16),hexD (c % 16)] ++ rest) 0=92:=by simp [nth]
 have e1:nth ([92,120,hexD (c / 16),hexD (c % 16)] ++ rest) (0+1)=120:=by simp [nth]
 have e2:nth ([92,120,hexD (c / 16),hexD (c % 16)] ++ rest) (0+2)=hexD (c / 16):=by simp [nth]
 have e3:nth ([92,120,hexD (c / 16),hexD (c % 16)] ++ rest) (0+3)=hexD (c % 16):=by simp [nth]
 refine ⟨by rw [e0];omega,?_⟩
 unfold partP
 rw [e0,e1,e2,e3,if_pos rfl,if_neg (by omega),if_pos ⟨rfl,a1,b1⟩,a2,b2]
 congr 1
 simp only [List.length_cons,List.length_nil]
 rw [show 16 * (c / 16)+c % 16=c by omega]
theorem quot_hx (t rest:List Int) (h:Within 256 t):quotP (hxL t ++ 34 :: rest) 0=some (t,(hxL t).length+1):=by
 induction t with
 | nil=>exact quotP_close (by simp [nth,hxL])
 | cons c t ih =>
  have hc:=h c (by simp)
  have e:hxL (c :: t) ++ 34 :: rest=hx1 c ++ (hxL t ++ 34 :: rest):=by simp [hxL]
  obtain ⟨p1,p2⟩:=part_hx c (hxL t ++ 34 :: rest) hc.1 hc.2
  have el:(hxL (c :: t)).length=(hx1 c).length+(hxL t).length:=by simp [hxL]
  rw [e,quotP_some p1 p2]
  have hs:=quot_shift (hx1 c) (hxL t ++ 34 :: rest) 0
  rw [Nat.add_zero] at hs
  rw [Nat.zero_add,hs,ih (fun z hz=>h z (by simp [hz])),el]
  simp;omega
theorem wtS_tok {t:TokT} (h:t.1≠4):wtS t=tokS t.1 (strI t.2.1):=by
 unfold wtS tokS
 by_cases e:t.1=2
 ·rw [if_pos e,if_pos e]
 ·rw [if_neg e,if_neg e,if_neg h,if_neg h]
theorem tok_wt {t:TokT} {rest:List Int} (h:tokOk t.1 (strI t.2.1)=true) (hr:runB (nth rest 0)=false) :
  tokP (wtS t ++ rest) 0=.inr (t.1,strI t.2.1,(wtS t).length)∧blankB (nth (wtS t ++ rest) 0)=false∧nth (wtS t ++ rest) 0≠59∧0 < (wtS t).length:=by
 by_cases h4:t.1=4
 ·have ew:wtS t=34 :: (hxL (strI t.2.1) ++ [34]):=by unfold wtS;rw [if_neg (by omega),if_pos h4]
  have es:wtS t ++ rest=[34] ++ (hxL (strI t.2.1) ++ 34 :: rest):=by rw [ew];simp
  have el:(wtS t).length=(hxL (strI t.2.1)).length+2:=by rw [ew];simp
  rw [es,el]
  have h0:nth ([34] ++ (hxL (strI t.2.1) ++ 34 :: rest)) 0=34:=by simp [nth]
  have hq:=quot_shift [34] (hxL (strI t.2.1) ++ 34 :: rest) 0
  rw [quot_hx _ rest (strI_within _)] at hq
  simp only [List.length_singleton,Nat.add_zero,Option.map_some] at hq
  refine ⟨?_,by rw [h0];rfl,by rw [h0];decide,by omega⟩
  unfold tokP
  rw [h0,if_neg (by decide),if_neg (by decide),if_neg (by decide),if_pos rfl,Nat.zero_add,hq,h4]
  simp;omega
 ·rw [wtS_tok h4]
  obtain ⟨h1,h2,h3⟩:=tok_read h (strI_within t.2.1) hr
  exact ⟨h1,h2,h3,tokS_pos h⟩
def wtAll (l:List TokT):List Int:=l.flatMap fun t=>32 :: wtS t
def placedW:Nat→List TokT→List TokT
 | _,[]=>[]
 | p,t :: r=>(t.1,t.2.1,(p:Int)) :: placedW (p+(wtS t).length+1) r
theorem placedW_move (k:Nat) (l:List TokT):∀ p,(placedW p l).map (moveT k)=placedW (p+k) l:=by
 induction l with
 | nil=>intro p;rfl
 | cons t r ih =>
  intro p
  simp only [placedW,List.map_cons,ih,moveT]
  rw [show p+(wtS t).length+1+k=p+k+(wtS t).length+1 by omega]
  simp
theorem wtAll_head (r:List TokT):runB (nth (wtAll r) 0)=false:=by
 cases r with
 | nil=>rfl
 | cons t r=>rfl
theorem toks_wtAll (r:List TokT) (h:toksP ((wtAll r).drop 1) 0=(placedW 0 r,0,0)):toksP (wtAll r) 0=(placedW 1 r,0,0):=by
 cases r with
 | nil=>rfl
 | cons t r =>
  have e:wtAll (t :: r)=List.replicate 1 32 ++ (wtAll (t :: r)).drop 1:=rfl
  rw [e,toks_blanks,h]
  unfold shiftR
  rw [placedW_move];rfl
theorem toks_wt (l:List TokT) (h:wOk l=true):toksP ((wtAll l).drop 1) 0=(placedW 0 l,0,0):=by
 induction l with
 | nil=>rfl
 | cons t r ih =>
  simp only [wOk,List.all_cons,Bool.and_eq_true] at h
  have ih:=toks_wtAll r (ih h.2)
  have e:(wtAll (t :: r)).drop 1=wtS t ++ wtAll r:=by simp [wtAll]
  obtain ⟨h1,h2,h3,hp⟩:=tok_wt h.1 (wtAll_head r)
  have hs:=toks_shift (wtS t) (wtAll r) 0
  rw [Nat.add_zero,ih] at hs
  rw [e,toksP_tok (by rw [List.length_append];omega) h3 h2 h1,hs,str_of_strI]
  unfold shiftR consR
  rw [placedW_move,if_pos rfl]
  simp only [placedW]
  rw [Nat.zero_add,Nat.add_comm 1]
theorem placedW_len (l:List TokT):∀ p,(placedW p l).length=l.length:=by
 induction l with
 | nil=>intro p;rfl
 | cons t r ih=>intro p;simp [placedW,ih]
theorem placedW_same (l:List TokT):∀ p,SameT (placedW p l) l:=by
 induction l with
 | nil=>intro p;exact ⟨rfl,fun k hk=>by simp at hk⟩
 | cons t r ih =>
  intro p
  refine ⟨placedW_len _ _,fun k hk=>?_⟩
  cases k with
  | zero=>exact ⟨rfl,rfl⟩
  | succ k=>exact (ih (p+(wtS t).length+1)).2 k (by simpa using hk)
theorem argTk_ok {c b:Int} {x:ArgT} (hok:ArgOk x) (hk:kindI c≠0) (h:wrongA c x b=0):tokOk (argTk c x).1 (strI (argTk c x).2.1)=true:=by
 obtain ⟨hc,hkd⟩:=wrongA_kind h
 obtain ⟨o1,o2,o3,o4,o5⟩:=hok
 have hm:=kindI_most c
 unfold argTk
 by_cases e1:x.1=1
 ·rw [if_pos e1]
  show tokOk 2 _=true
  rw [strI_dgS]
  exact dgL_plain (by omega)
 ·rw [if_neg e1]
  by_cases e2:x.1=2
  ·rw [if_pos e2]
   show tokOk 3 _=true
   rw [strI_dgS]
   exact (dgL_num (by omega)).1
  ·rw [if_neg e2]
   by_cases e3:x.1=3
   ·rw [if_pos e3];rfl
   ·rw [if_neg e3]
    show wordB _=true
    have e4:kindI c=4:=by omega
    have hn:enumB c x.2.1=true:=by
     unfold wrongA at h
     by_cases em:mayStandB c x=false
     ·rw [if_pos em] at h;cases h
     ·rw [if_neg em,if_neg e3] at h
      unfold faultW at h
      rw [if_neg (by omega),if_pos e4] at h
      by_cases hb:enumB c x.2.1=true
      ·exact hb
      ·rw [if_neg hb] at h;cases h
    exact (name_enum hn).2.2.1
theorem tksI_ok {x:InstT} {b:Int} (hx:InstOk x) (hr:rawE x b=0):wOk (tksI x)=true:=by
 obtain ⟨h1,h2,h3⟩:=rawWs_ok hr
 obtain ⟨i1,i2,i3,i4,i5⟩:=faultI_zero h2
 obtain ⟨o,ho,hf,hof,_,hwd⟩:=name_op h1
 obtain ⟨x1,x2,x3,x4,x5,x6,x7,x8⟩:=hx
 have hpl:∀ n:Int,n < 4294967296→tokOk 2 (strI (dgS n))=true:=fun n hn=>by
  show plainB _=true
  rw [strI_dgS];exact dgL_plain (by omega)
 have ha:wOk (argTks (lookF refT x.1).1 x.2.2.2)=true:=by
  refine wOk_all fun k hk=>?_
  rw [argTks_len] at hk
  rw [argTks_nth _ _ _ hk]
  have hw:=wrongL_zero i3 k hk
  rw [Nat.zero_add] at hw
  rcases letter_known x.1 (k:Int) with h | h
  ·exact absurd h (wrongA_kind hw).1
  ·exact argTk_ok (x7 k hk) h hw
 have hp:wOk (preTk (lookF refT x.1).1 x)=true:=by
  unfold preTk wOk
  have e1:=hpl x.2.2.1 x6
  have e2:=hpl x.2.1 x4
  have e3:tokOk 5 (strI eqS)=true:=by decide
  have e4:tokOk 1 (strI (lookF refT x.1).1.1)=true:=hwd
  cases (lookF refT x.1).1.2.2.1 <;> cases (lookF refT x.1).1.2.1 <;> simp [e1,e2,e3,e4]
 unfold tksI
 unfold wOk at *
 rw [List.all_append,hp,ha];rfl
theorem tksI_ne (x:InstT):tksI x≠[]:=by
 intro h
 have:=congrArg List.length h
 unfold tksI preTk at this
 rw [List.length_append,List.length_append,List.length_append] at this
 simp at this
/-! ### no line ends within -/

theorem word_no {l:List Int} (h:wordB l=true):∀ z ∈ l,32 < z:=fun z hz=>by
 simp only [wordB,Bool.and_eq_true,List.all_eq_true] at h
 have:=h.1.2 z hz
 simp only [runB,letterB,digitB,Bool.or_eq_true,decide_eq_true_eq,beq_iff_eq] at this
 omega
theorem plain_no {l:List Int} (h:plainB l=true):∀ z ∈ l,32 < z:=fun z hz=>by
 obtain ⟨k,hk,rfl⟩:=List.getElem_of_mem hz
 have:=(plain_all h).2 k hk
 have e:nth l k=l[k]:=by simp [nth,List.getD,hk]
 rw [e] at this
 simp only [digitB,decide_eq_true_eq] at this
 omega
theorem num_no {l:List Int} (h:numB l=true):∀ z ∈ l,32 < z:=fun z hz=>by
 obtain ⟨h0,h1,h2⟩:=num_shape h
 obtain ⟨k,hk,rfl⟩:=List.getElem_of_mem hz
 have e:nth l k=l[k]:=by simp [nth,List.getD,hk]
 by_cases hk0:k=0
 ·subst hk0
  rw [e] at h1
  rcases h1 with h1 | h1
  ·simp only [digitB,decide_eq_true_eq] at h1;omega
  ·omega
 ·have:=h2 k (by omega) hk
  rw [e] at this
  simp only [runB,letterB,digitB,Bool.or_eq_true,decide_eq_true_eq,beq_iff_eq] at this
  omega
theorem wtS_no {t:TokT} (h:tokOk t.1 (strI t.2.1)=true):∀ z ∈ wtS t,32 < z:=fun z hz=>by
 unfold wtS at hz
 unfold tokOk at h
 by_cases e2:t.1=2
 ·rw [if_pos e2] at hz
  rw [if_neg (by omega),if_pos e2] at h
  rcases List.mem_cons.1 hz with rfl | hz
  ·omega
  ·exact plain_no h z hz
 ·rw [if_neg e2] at hz
  by_cases e4:t.1=4
  ·rw [if_pos e4] at hz
   rcases List.mem_cons.1 hz with rfl | hz
   ·omega
   ·rcases List.mem_append.1 hz with hz | hz
    ·obtain ⟨c,hc,hz⟩:=List.mem_flatMap.1 hz
     have hw:=strI_within t.2.1 c hc
     obtain ⟨_,_,a1,a2⟩:=hex_digit (n:=c / 16) (by omega) (by omega)
     obtain ⟨_,_,b1,b2⟩:=hex_digit (n:=c % 16) (by omega) (by omega)
     unfold hx1 at hz
     simp only [List.mem_cons,List.not_mem_nil,or_false] at hz
     rcases hz with rfl | rfl | rfl | rfl <;> omega
    ·have:=List.mem_singleton.1 hz;omega
  ·rw [if_neg e4] at hz
   by_cases e1:t.1=1
   ·rw [if_pos e1] at h;exact word_no h z hz
   ·rw [if_neg e1,if_neg e2] at h
    by_cases e3:t.1=3
    ·rw [if_pos e3] at h;exact num_no h z hz
    ·rw [if_neg e3,if_neg e4] at h
     by_cases e5:t.1=5
     ·rw [if_pos e5] at h
      have:=of_decide_eq_true h
      rw [this] at hz
      have:=List.mem_singleton.1 hz;omega
     ·rw [if_neg e5] at h;cases h
end Go.Proofs.YtddkapkkjhomkabGreatDoor
