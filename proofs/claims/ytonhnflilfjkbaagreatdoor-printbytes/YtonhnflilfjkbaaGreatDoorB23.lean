/-
  Texts in one: Ref06Write, Ref04Wrong, Ref01Split, Ref01OfText, Ref04Room, Ref04Fault.
-/
import Derived.Test.YtonhnflilfjkbaaGreatDoorB22
import Derived.Deep.RegionHeld3
namespace Go.Proofs.YtonhnflilfjkbaaGreatDoor
open Go.RowKit
set_option maxRecDepth 10000
set_option linter.unusedVariables false
set_option linter.unusedSimpArgs false
theorem run_all:∀ l:List Int,decide (l.take (l.takeWhile runB).length=l)=l.all runB
 | []=>by simp
 | c :: l=>by
  have ih:=run_all l
  cases h:runB c
  ·rw [List.takeWhile_cons_of_neg (by simp [h])];simp [h]
  ·rw [List.takeWhile_cons_of_pos (by simp [h])]
   simp only [List.length_cons,List.take_succ_cons,List.cons.injEq,true_and,List.all_cons,h,Bool.true_and]
   exact ih
theorem run_word (s:ByteArray) (h0:0<s.size) (hl:letterB (s[0].toNat:Int)=true):((s.extract 0 (runE (strI s) 0)).toList==s.toList)=wordB (strI s):=by
 rw [eq_strI,strI_extract,List.drop_zero]
 have e:runE (strI s) 0=((strI s).takeWhile runB).length:=by simp [runE]
 rw [e,run_all]
 unfold wordB
 rw [nth_strI s 0 h0,hl]
 have:(strI s).isEmpty=false:=by
  have:=strI_len s
  cases hx:strI s with
  | nil=>rw [hx] at this;simp at this;omega
  | cons c r=>rfl
 rw [this];simp
theorem word_first (s:ByteArray) (h0:0<s.size) (hl:letterB (s[0].toNat:Int)=false):wordB (strI s)=false:=by
 unfold wordB;rw [nth_strI s 0 h0,hl];simp
theorem word_noneX (s:ByteArray) (h0:s.size=0):wordB (strI s)=false:=by
 have:strI s=[]:=List.length_eq_zero_iff.1 (by rw [strI_len];exact h0)
 rw [this];rfl
def oneS (k:Int) (s:ByteArray):ByteArray:=if tokOk k (strI s) then strOfNums (tokS k (strI s)) else ⟨#[]⟩
def oneE (k:Int) (s:ByteArray):Int:=if tokOk k (strI s) then 0 else 2
theorem one_ok {k:Int} {s:ByteArray} (h:tokOk k (strI s)=true):oneS k s=strOfNums (tokS k (strI s))∧oneE k s=0:=by unfold oneS oneE;rw [h];exact⟨rfl,rfl⟩
theorem one_not {k:Int} {s:ByteArray} (h:tokOk k (strI s)=false):oneS k s=⟨#[]⟩∧oneE k s=2:=by unfold oneS oneE;rw [h];exact⟨rfl,rfl⟩
theorem size_empty6 (s:ByteArray) (h:s.size=0):s.toList.isEmpty=true:=by
 rw [ByteArray.toList_eq]
 have:s.data.toList=[]:=by rw [← List.length_eq_zero_iff,Array.length_toList];exact h
 rw [this];rfl
theorem size_filled6 (s:ByteArray) (h:0<s.size):s.toList.isEmpty=false:=by
 rw [ByteArray.toList_eq]
 cases e:s.data.toList with
 | nil=>exact absurd (show s.size=0 by rw [← show s.data.size=s.size from rfl,← Array.length_toList,e];rfl) (by omega)
 | cons x l=>rfl
set_option maxHeartbeats 2000000 in
theorem refOne_any (k:Int) (s:ByteArray) (a:Int) (w:World) (hk0:0≤k) (hk1:k<256) (hs:s.size≤1048576) :
  Calls Tryz.prog 43 #[.agg #[.int .u8 k,.string s,.int .i64 a]] w fun e w'=>e=.returned (.tuple #[.string (oneS k s),.int .i64 (oneE k s)])∧Below w.heap.size w w':=by
 have HB:Hid (Below w.heap.size w (w.alloc (.cells #[.int .u8 k,.string s,.int .i64 a] 81))):=(Below.refl _ w).alloc (Nat.le_refl _) _
 have hs':s.size≤140737488351232:=by omega
 have C1:(w.alloc (.cells #[.int .u8 k,.string s,.int .i64 a] 81)).cell? ⟨w.heap.size,1,none⟩=some (.string s):=by
  rw [Lib.cell_of_heap (heap_alloc_new w _)];rfl
 have C0:(w.alloc (.cells #[.int .u8 k,.string s,.int .i64 a] 81)).cell? ⟨w.heap.size,0,none⟩=some (.int .u8 k):=by
  rw [Lib.cell_of_heap (heap_alloc_new w _)];rfl
 by_cases k1:k=1
 ·subst k1
  have HT:Hid (tokOk 1 (strI s)=wordB (strI s)∧strOfNums (tokS 1 (strI s))=s):=⟨rfl,by rw [show tokS 1 (strI s)=strI s from rfl,str_of_strI]⟩
  by_cases h0:0<s.size
  ·have he:=size_filled6 s h0
   have hc0:(0:Int)≤(s[0].toNat:Int):=by omega
   have hc1:(s[0].toNat:Int)<256:=by have:=s[0].toNat_lt;omega
   have hL:=fun wx=>ref6Letter_any (s[0].toNat:Int) wx hc0 hc1
   have hR:=fun wx=>refRun_any s 0 wx hs' (Nat.zero_le _)
   have h0':(0:Int)<(s.size:Int):=by omega
   cases hl:letterB (s[0].toNat:Int)
   ·have HO:Hid (oneS 1 s=⟨#[]⟩∧oneE 1 s=2):=one_not (HT.out.1.trans (word_first s h0 hl))
    rw [hl] at hL
    clear hl hR
    go_enter Tryz.func43,Tryz.ntmps43
    go_wp2_with fail
    generalize w.alloc (.cells #[.int .u8 1,.string s,.int .i64 a] 81)=w1 at *
    go_quiet ((go_at_call 74;exact Calls.quiet_of_same ((hL _).mono fun _ _ h=>⟨h.1,h.2.symm⟩)))
    go_wp2_with fail
    go_ret2
    exact⟨by rw [HO.out.1,HO.out.2];rfl,bel_drewN HB.out _⟩
   ·have HW:Hid (((s.extract 0 (runE (strI s) 0)).toList==s.toList)=wordB (strI s)):=run_word s h0 hl
    rw [hl] at hL
    clear hl
    generalize s.extract 0 (runE (strI s) 0)=r at *
    cases hq:(r.toList==s.toList)
    ·have HO:Hid (oneS 1 s=⟨#[]⟩∧oneE 1 s=2):=one_not (HT.out.1.trans (HW.out.symm.trans hq))
     go_enter Tryz.func43,Tryz.ntmps43
     go_wp2_with fail
     generalize w.alloc (.cells #[.int .u8 1,.string s,.int .i64 a] 81)=w1 at *
     go_quiet (first | (go_at_call 74;exact Calls.quiet_of_same ((hL _).mono fun _ _ h=>⟨h.1,h.2.symm⟩)) | (go_at_call 75;exact Calls.quiet_of_same ((hR _).mono fun _ _ h=>⟨h.1,h.2.symm⟩)))
     go_wp2_with fail
     go_ret2
     exact⟨by rw [HO.out.1,HO.out.2];rfl,bel_drewN HB.out _⟩
    ·have HO:Hid (oneS 1 s=s∧oneE 1 s=0):=by
      have:=one_ok (HT.out.1.trans (HW.out.symm.trans hq))
      exact⟨this.1.trans HT.out.2,this.2⟩
     go_enter Tryz.func43,Tryz.ntmps43
     go_wp2_with fail
     generalize w.alloc (.cells #[.int .u8 1,.string s,.int .i64 a] 81)=w1 at *
     go_quiet (first | (go_at_call 74;exact Calls.quiet_of_same ((hL _).mono fun _ _ h=>⟨h.1,h.2.symm⟩)) | (go_at_call 75;exact Calls.quiet_of_same ((hR _).mono fun _ _ h=>⟨h.1,h.2.symm⟩)))
     go_wp2_with fail
     go_ret2
     exact⟨by rw [HO.out.1,HO.out.2];rfl,bel_drewN HB.out _⟩
  ·have he:=size_empty6 s (by omega)
   have HO:Hid (oneS 1 s=⟨#[]⟩∧oneE 1 s=2):=one_not (HT.out.1.trans (word_noneX s (by omega)))
   clear h0
   go_enter Tryz.func43,Tryz.ntmps43
   go_wp2_with fail
   generalize w.alloc (.cells #[.int .u8 1,.string s,.int .i64 a] 81)=w1 at *
   go_quiet (fail)
   go_wp2_with fail
   go_ret2
   exact⟨by rw [HO.out.1,HO.out.2];rfl,bel_drewN HB.out _⟩
 by_cases k2:k=2
 ·subst k2
  have HT:Hid (tokOk 2 (strI s)=plainB (strI s)):=rfl
  have HS:Hid (strOfNums (tokS 2 (strI s))={ data:=#[37] }++s):=by
   show _=_
   rw [show tokS 2 (strI s)=[37]++strI s from rfl,strOfNums_append,str_of_strI];rfl
  have hW:=fun wx=>refPlain_any s wx hs'
  have HY:Hid (plainB (strI s)=true→oneS 2 s={ data:=#[37] }++s∧oneE 2 s=0):=fun h=>by
   have:=one_ok (HT.out.trans h)
   exact⟨this.1.trans HS.out,this.2⟩
  have HN:Hid (plainB (strI s)=false→oneS 2 s=⟨#[]⟩∧oneE 2 s=2):=fun h=>one_not (HT.out.trans h)
  clear HT HS
  have hz:(⟨#[37]⟩:ByteArray).size=1:=rfl
  cases hp:plainB (strI s)
  ·have HO:Hid (oneS 2 s=⟨#[]⟩∧oneE 2 s=2):=HN.out hp
   rw [hp] at hW
   clear hp HY HN
   go_enter Tryz.func43,Tryz.ntmps43
   go_wp2_with fail
   refine (hW _).mono ?_
   rintro e w2 ⟨⟨x,rfl,_,_⟩,rfl⟩
   go_wp2_with fail
   go_ret2
   exact⟨by rw [HO.out.1,HO.out.2];rfl,HB.out⟩
  ·have HO:Hid (oneS 2 s={ data:=#[37] }++s∧oneE 2 s=0):=HY.out hp
   rw [hp] at hW
   clear hp HY HN
   go_enter Tryz.func43,Tryz.ntmps43
   go_wp2_with fail
   refine (hW _).mono ?_
   rintro e w2 ⟨⟨x,rfl,_,_⟩,rfl⟩
   go_wp2_with fail
   go_ret2
   exact⟨by rw [HO.out.1,HO.out.2];rfl,HB.out⟩
 by_cases k3:k=3
 ·subst k3
  have HT:Hid (tokOk 3 (strI s)=numB (strI s)∧strOfNums (tokS 3 (strI s))=s):=⟨rfl,by rw [show tokS 3 (strI s)=strI s from rfl,str_of_strI]⟩
  have hW:=fun wx=>refNumber_any s wx hs'
  have HE:Hid ((numErr (strI s)==0)=numB (strI s)):=by show _=_;unfold numErr;cases numB (strI s) <;> rfl
  cases hp:numB (strI s)
  ·have HO:Hid (oneS 3 s=⟨#[]⟩∧oneE 3 s=2):=one_not (HT.out.1.trans hp)
   have he:(numErr (strI s)==0)=false:=HE.out.trans hp
   generalize numErr (strI s)=ne at *
   generalize numOut (strI s)=no at *
   clear hp HE HT
   go_enter Tryz.func43,Tryz.ntmps43
   go_wp2_with fail
   refine (hW _).mono ?_
   rintro e w2 ⟨rfl,rfl⟩
   go_wp2_with fail
   go_ret2
   exact⟨by rw [HO.out.1,HO.out.2];rfl,HB.out⟩
  ·have HO:Hid (oneS 3 s=s∧oneE 3 s=0):=by
    have:=one_ok (HT.out.1.trans hp)
    exact⟨this.1.trans HT.out.2,this.2⟩
   have he:(numErr (strI s)==0)=true:=HE.out.trans hp
   generalize numErr (strI s)=ne at *
   generalize numOut (strI s)=no at *
   clear hp HE HT
   go_enter Tryz.func43,Tryz.ntmps43
   go_wp2_with fail
   refine (hW _).mono ?_
   rintro e w2 ⟨rfl,rfl⟩
   go_wp2_with fail
   go_ret2
   exact⟨by rw [HO.out.1,HO.out.2];rfl,HB.out⟩
 by_cases k4:k=4
 ·subst k4
  have HO:Hid (oneS 4 s=strOfNums (quoteL (strI s))∧oneE 4 s=0):=one_ok (k:=4) rfl
  have hQ:=fun wx=>refQuote_any s wx hs
  generalize strOfNums (quoteL (strI s))=q at *
  go_enter Tryz.func43,Tryz.ntmps43
  go_wp2_with fail
  refine (hQ _).mono ?_
  rintro e w2 ⟨rfl,hb⟩
  go_wp2_with fail
  go_ret2
  exact⟨by rw [HO.out.1,HO.out.2];rfl,HB.out.trans (hb.mono (by simp))⟩
 have b1:(k==1)=false:=by simpa using k1
 have b2:(k==2)=false:=by simpa using k2
 have b3:(k==3)=false:=by simpa using k3
 have b4:(k==4)=false:=by simpa using k4
 by_cases k5:k=5
 ·subst k5
  have HT:Hid (tokOk 5 (strI s)=(s.toList==[61])):=by
   show _=_
   have:=eq_strI s ⟨#[61]⟩
   rw [show (⟨#[61]⟩:ByteArray).toList=[61] by rw [ByteArray.toList_eq],show strI ⟨#[61]⟩=[61] by decide] at this
   rw [this];rfl
  cases hp:(s.toList==[61])
  ·have HO:Hid (oneS 5 s=⟨#[]⟩∧oneE 5 s=2):=one_not (HT.out.trans hp)
   go_enter Tryz.func43,Tryz.ntmps43
   go_wp2_with fail
   go_ret2
   exact⟨by rw [HO.out.1,HO.out.2];rfl,HB.out⟩
  ·have HO:Hid (oneS 5 s=⟨#[61]⟩∧oneE 5 s=0):=by
    have h1:=one_ok (HT.out.trans hp)
    refine⟨h1.1.trans ?_,h1.2⟩
    rw [show tokS 5 (strI s)=strI s from rfl,str_of_strI]
    have h2:=eq_of_beq hp
    rw [ByteArray.toList_eq] at h2
    obtain⟨⟨l⟩⟩:=s
    simp only at h2
    rw [h2]
   go_enter Tryz.func43,Tryz.ntmps43
   go_wp2_with fail
   go_ret2
   exact⟨by rw [HO.out.1,HO.out.2];rfl,HB.out⟩
 have b5:(k==5)=false:=by simpa using k5
 have HO:Hid (oneS k s=⟨#[]⟩∧oneE k s=2):=one_not (by simp [tokOk,k1,k2,k3,k4,k5])
 clear k1 k2 k3 k4 k5
 go_enter Tryz.func43,Tryz.ntmps43
 go_wp2_with fail
 go_ret2
 exact⟨by rw [HO.out.1,HO.out.2];rfl,HB.out⟩
set_option maxHeartbeats 2000000 in
theorem ref6WriteB_any (a:Option Addr) (n cap:Nat) (l:List TokT) (w:World) (hv:ToksV w a l) (hl:l.length=n) (hok:ToksIn l) (hu:4 * bulkT l+3 * n≤1099511627776) (hs:∀ k,k<n→(nthT l k).2.1.size≤1048576) :
  Calls Tryz.prog 25 #[.slice a n cap] w fun e w'=>e=.returned (.tuple #[.string (strOfNums (wOut l)),.int .i64 (wErr l)])∧Below w.heap.size w w':=by
 have HL:Hid (l.length=n):=hl
 have HV:Hid (ToksV w a l):=hv
 have HK:Hid (ToksIn l):=hok
 have HLEN:Hid (∀ k,k≤n→(strOfNums ((wAll (l.take k)).drop 1)).size≤1099511627776):=fun k hk=>by
  have h1:=wAll_len (l.take k)
  have h2:=bulkT_take l k
  rw [List.length_take,HL.out] at h1
  rw [strOfNums_size,List.length_drop];omega
 have HBK:Hid (∀ k,k<n→(nthT l k).2.1.size≤bulkT l):=fun k hk=>bulkT_at l k (by rw [HL.out];exact hk)
 have HN:Hid (∀ k,k<n→tokOk (nthT l k).1 (strI (nthT l k).2.1)=false→wOk l=false):=fun k hk h=>wOk_not (by rw [HL.out];exact hk) h
 have HA:Hid ((∀ k,k<n→tokOk (nthT l k).1 (strI (nthT l k).2.1)=true)→wOk l=true):=fun h=>wOk_all (by rw [HL.out];exact h)
 have HU:Hid (4 * bulkT l+3 * n≤1099511627776):=hu
 have HSS:Hid (∀ k,k<n→(nthT l k).2.1.size≤1048576):=hs
 have hli:(n:Int)≤1099511627776:=by omega
 clear hv hl hok hu hs
 go_enter Tryz.func25,Tryz.ntmps25
 go_wp2_with fail
 go_loopw [4,5] (fun t i wr=>∃ k:Nat,k≤n∧i=.int .i64 k∧t=.string (strOfNums ((wAll (l.take k)).drop 1))∧Below w.heap.size w wr∧∀ j,j<k→tokOk (nthT l j).1 (strI (nthT l j).2.1)=true) (fun _ i _=>n - (intOf i).toNat)
 case atStart=>exact⟨0,Nat.zero_le _,rfl,rfl,Below.refl _ _,fun j hj=>by omega⟩
 case round =>
  obtain⟨k,hk,rfl,rfl,hbel,hall⟩:=hrel
  have hlen:=HLEN.out k hk
  have hsz:=hbel.size
  by_cases hlt:k<n
  ·obtain⟨b,off,rfl,hblt,c0,c1,c2⟩:=HV.out k (by rw [HL.out];exact hlt)
   obtain⟨t0,t1,t2,t3,t4⟩:=HK.out k (by rw [HL.out];exact hlt)
   have hbk:=HBK.out k hlt
   have hts0:=HSS.out k hlt
   have EN:Hid (tokOk (nthT l k).1 (strI (nthT l k).2.1)=false→wOk l=false):=HN.out k hlt
   have d0:=(hbel.cell (p:=⟨b,off+k * 3,none⟩) hblt).trans c0
   have d1:=(hbel.cell (p:=⟨b,off+k * 3+1,none⟩) hblt).trans c1
   have d2:=(hbel.cell (p:=⟨b,off+k * 3+2,none⟩) hblt).trans c2
   have EA:Hid (tokOk (nthT l k).1 (strI (nthT l k).2.1)=true→∀ j,j<k+1→tokOk (nthT l j).1 (strI (nthT l j).2.1)=true):=fun h j hj=>by
    by_cases e:j=k
    ·subst e;exact h
    ·exact hall j (by omega)
   have E0:Hid (k=0→strOfNums ((wAll (l.take (k+1))).drop 1)=strOfNums ((wAll (l.take k)).drop 1)++strOfNums (tokS (nthT l k).1 (strI (nthT l k).2.1))):=fun e=>by
    subst e
    rw [wAll_drop0 l (by rw [HL.out];omega),← strOfNums_append];rfl
   have E1:Hid (0<k→strOfNums ((wAll (l.take (k+1))).drop 1)=strOfNums ((wAll (l.take k)).drop 1)++{ data:=#[32] }++strOfNums (tokS (nthT l k).1 (strI (nthT l k).2.1))):=fun e=>by
    rw [wAll_dropS l k e (by rw [HL.out];omega),strOfNums_append,strOfNums_append];rfl
   have hki:(k:Int)<(n:Int):=by omega
   have hk0:(0:Int)≤(k:Int):=by omega
   clear c0 c1 c2 hall
   generalize (nthT l k).1=tk at *
   generalize (nthT l k).2.1=ts at *
   generalize (nthT l k).2.2=ta at *
   have hTL:(strOfNums (tokS tk (strI ts))).size≤4 * ts.size+2:=by rw [strOfNums_size];have:=tokS_len tk (strI ts);rw [strI_len] at this;exact this
   have hON:=fun wx=>refOne_any tk ts ta wx t0 t1 hts0
   have hz:(⟨#[32]⟩:ByteArray).size=1:=rfl
   have hts:ts.size≤1048576:=hts0
   cases hok:tokOk tk (strI ts)
   ·rw [(one_not hok).1,(one_not hok).2] at hON
    have HF:Hid (wOk l=false):=EN.out hok
    have HO:Hid (strOfNums (wOut l)=⟨#[]⟩∧wErr l=2):=by
     have:=HF.out
     show _∧_
     unfold wOut wErr;rw [this];exact⟨rfl,rfl⟩
    clear hok EA EN E0 E1 HF
    generalize strOfNums ((wAll (l.take k)).drop 1)=zs at *
    go_wp2_with fail
    refine (hON _).mono ?_
    rintro e w2 ⟨rfl,hb2⟩
    have HB2:Hid (Below w.heap.size w w2):=hbel.trans (hb2.mono hsz)
    clear hb2
    go_wp2_with fail
    go_ret2
    exact⟨by rw [HO.out.1,HO.out.2];rfl,HB2.out⟩
   ·rw [(one_ok hok).1,(one_ok hok).2] at hON
    have HA2:=hid1 (EA.out hok)
    clear hok EA EN
    generalize strOfNums (tokS tk (strI ts))=tz at *
    by_cases hk1:0<k
    ·have E:=hid1 (E1.out hk1)
     have hk1':(0:Int)<(k:Int):=by omega
     clear E0 E1
     generalize strOfNums ((wAll (l.take k)).drop 1)=zs at *
     go_wp2_with fail
     refine (hON _).mono ?_
     rintro e w2 ⟨rfl,hb2⟩
     have HB2:Hid (Below w.heap.size w w2):=hbel.trans (hb2.mono hsz)
     clear hb2
     go_wp2_with fail
     go_roundw
     case rel=>exact⟨k+1,by omega,by go_num,by rw [E.out],HB2.out,HA2.out⟩
     case measure=>simp [intOf];omega
    ·obtain rfl:k=0:=by omega
     have E:=hid1 (E0.out rfl)
     simp only [Nat.zero_mul,Nat.add_zero] at d0 d1 d2
     clear E0 E1
     generalize strOfNums ((wAll (l.take 0)).drop 1)=zs at *
     go_wp2_with fail
     refine (hON _).mono ?_
     rintro e w2 ⟨rfl,hb2⟩
     have HB2:Hid (Below w.heap.size w w2):=hbel.trans (hb2.mono hsz)
     clear hb2
     go_wp2_with fail
     go_roundw
     case rel=>exact⟨0+1,by omega,by go_num,by rw [E.out],HB2.out,HA2.out⟩
     case measure=>simp [intOf];omega
  ·obtain rfl:k=n:=by omega
   have HF:Hid (strOfNums (wOut l)=strOfNums ((wAll (l.take k)).drop 1)∧wErr l=0):=by
    have:=HA.out hall
    show _∧_
    unfold wOut wErr;rw [this,List.take_of_length_le (by have:=HL.out;omega)];exact⟨rfl,rfl⟩
   clear hall
   generalize strOfNums ((wAll (l.take k)).drop 1)=zs at *
   go_wp2_with fail
   go_ret2
   exact⟨by rw [HF.out.1,HF.out.2];rfl,hbel⟩
theorem wrongA_eq (c:Int) (x:ArgT) (b:Int):wrongA c x b=if mayStandB c x=false then 42 else if x.1=1∧noneB x.2.1 b=true then 43 else if x.1=4∧enumB c x.2.1=false then 31 else if nulS x.2.2 then 13 else 0:=by
 unfold wrongA
 by_cases hm:mayStandB c x=false
 ·simp [hm]
 ·have hk:kindI c=x.1:=by simp [mayStandB] at hm;exact hm.2.1.symm
  unfold faultW
  rw [hk,if_neg hm,if_neg hm]
  by_cases h3:x.1=3
  ·simp [h3]
  ·have hs:x.2.2=ByteArray.empty:=by simp [mayStandB,h3] at hm;exact hm.2.2
   have hn:nulS x.2.2=false:=by rw [hs];rfl
   by_cases h1:x.1=1
   ·cases hb:noneB x.2.1 b <;> simp [h1,hn]
   ·by_cases h4:x.1=4
    ·cases hb:enumB c x.2.1 <;> simp [h4,hn]
    ·simp [h1,h3,h4,hn]
theorem nul_first {s:ByteArray} {k:Nat} (hk:k<s.size) (h:(s[k].toNat:Int)=0):nulS s=true:=by
 cases e:nulS s with
 | true=>rfl
 | false=>exact absurd (by rw [nth_strI s k hk];exact h) ((nulS_false.1 e) k hk)
theorem nul_not {s:ByteArray} (h:∀ j,(hj:j<s.size)→(s[j].toNat:Int)≠0):nulS s=false:=nulS_false.2 fun k hk=>by rw [nth_strI s k hk];exact h k hk
set_option maxHeartbeats 4000000 in
theorem refWrong4_any (c:Int) (x:ArgT) (b:Int) (w:World) (hok:ArgOk x) (b0:0≤b) (b1:b<4294967296) :
  Calls Tryz.prog 66 #[.int .u8 c,argV x,.int .u32 b] w fun e w'=>e=.returned (.int .i64 (wrongA c x b))∧Below w.heap.size w w':=by
 obtain⟨R,hR⟩:∃ R,R=wrongA c x b:=⟨_,rfl⟩
 rw [← hR]
 rw [wrongA_eq] at hR
 obtain⟨x1,x2,x3⟩:=x
 simp only at hR
 have HR:=hide hR
 clear hR
 obtain⟨g0,g1,g2,g3,g4⟩:=hok
 simp only at g0 g1 g2 g3 g4
 have hNo:=fun wx=>none_any x2 b wx g2 g3 b0 b1
 have hEn:=fun wx=>refEnum_any c x2 wx
 unfold argV
 simp only
 have hba:Below w.heap.size w (w.alloc (.cells #[.int .u8 x1,.int .u32 x2,.string x3] 61)):=(Below.refl _ w).alloc (Nat.le_refl _) _
 have kB:(w.alloc (.cells #[.int .u8 x1,.int .u32 x2,.string x3] 61)).heap[w.heap.size]?=some (.cells #[.int .u8 x1,.int .u32 x2,.string x3] 61 (0,0)):=alloc_new w _ _
 have hsz:w.heap.size<(w.alloc (.cells #[.int .u8 x1,.int .u32 x2,.string x3] 61)).heap.size:=by simp
 have hKd:=fun wx=>refKind_any c wx
 go_enter Tryz.func66,Tryz.ntmps66
 go_wp2_with fail
 generalize w.alloc (.cells #[.int .u8 x1,.int .u32 x2,.string x3] 61)=W at *
 have a0:=fun s:InC (Below W.heap.size W)=>s.cell (p:=⟨w.heap.size,0,none⟩) hsz ((one_block kB).1 0)
 have hK:=fun s:InC (Below W.heap.size W)=>Calls.inC s (hKd s.w)
 have hne:Nonempty (InC (Below W.heap.size W)):=⟨⟨W,Below.refl _ _⟩⟩
 have hbl:=below_drew W
 clear hKd g0 g1 g2 g3 b0 b1
 by_cases h0:c=0
 ·subst h0
  refine wp_region_class (C:=Below W.heap.size W) (by kernel_rfl) (by kernel_rfl) hbl ?_
  repeat (go_big_quiet_step (fail))
  refine wpQuiet_nil ?_
  rintro _ ⟨s,rfl⟩
  have hfin:=hba.trans (s.ok.mono (by omega))
  clear hne hK a0 hNo hEn
  go_wp2
  go_ret
  exact⟨by rw [HR.out,if_pos (by simp [mayStandB])];rfl,hfin⟩
 ·have h0':(c==0)=false:=by simpa using h0
  by_cases hk:x1=kindI c
  ·have hk':(x1 != kindI c)=false:=by simp [hk]
   refine wp_region_class (C:=Below W.heap.size W) (by kernel_rfl) (by kernel_rfl) hbl ?_
   repeat (go_big_quiet_step ((go_at_call 108;exact hK _)))
   refine wpQuiet_nil ?_
   rintro _ ⟨s,rfl⟩
   have hb1:=hba.trans (s.ok.mono (by omega))
   have kB1:=(s.ok.block _ hsz).trans kB
   have hs1:w.heap.size<s.w.heap.size:=Nat.lt_of_lt_of_le hsz s.ok.size
   clear hne hK a0 hba kB hsz hbl
   generalize s.w=W1 at *
   have c0:=(one_block kB1).1 0
   have c1:=(one_block kB1).1 1
   have c2:=(one_block kB1).1 2
   have HM:=hide (show mayStandB c (x1,x2,x3)=(if x1=3 then x2==0 else x3.size==0) by simp [mayStandB,h0,hk])
   have hemp:=empty_size x3
   clear hk hk' h0 h0' kB1
   by_cases h3:x1=3
   ·subst h3
    by_cases h2:x2=0
    ·subst h2
     go_wp2_with fail
     refine (hEn _).mono ?_
     rintro e w2 ⟨rfl,hb2⟩
     have k0:=hb2.cell (p:=⟨w.heap.size,0,none⟩) hs1
     rw [c0] at k0
     have k2:=hb2.cell (p:=⟨w.heap.size,2,none⟩) hs1
     rw [c2] at k2
     have hb:=hb1.trans (hb2.mono (by omega))
     clear c0 c1 c2 hb2 hb1 hNo hEn
     go_wp2
     go_loop [9] (fun i=>∃ k:Nat,k≤x3.size∧i=.int .i64 k∧Hid (∀ j,(hj:j<x3.size)→j<k→(x3[j].toNat:Int)≠0)) (fun i=>x3.size - (intOf i).toNat)
     case atStart=>exact⟨0,Nat.zero_le _,rfl,fun j hj h=>by omega⟩
     case round =>
      obtain⟨k,hkk,rfl,HJ⟩:=hrel
      by_cases hlt:k<x3.size
      ·have hki:(k:Int)<(x3.size:Int):=by omega
       have hk0:(0:Int)≤(k:Int):=by omega
       by_cases hn:(x3[k].toNat:Int)=0
       ·have hn':((x3[k].toNat:Int)==0)=true:=by simpa using hn
        go_wp2
        go_ret
        exact⟨by rw [HR.out,HM.out];simp [nul_first hlt hn],hb⟩
       ·have hn':((x3[k].toNat:Int)==0)=false:=by simpa using hn
        go_wp2
        go_round
        case rel=>exact⟨k+1,by omega,by go_num,fun j hj h=>if e:j=k then (by subst e;exact hn) else HJ.out j hj (by omega)⟩
        case measure=>simp [intOf];omega
      ·obtain rfl:k=x3.size:=by omega
       go_wp2
       go_ret
       exact⟨by rw [HR.out,HM.out];simp [nul_not fun j hj=>HJ.out j hj hj],hb⟩
    ·have h2':(x2 != 0)=true:=by simp [h2]
     go_wp2
     go_ret
     exact⟨by rw [HR.out,HM.out];simp [h2],hb1⟩
   ·have h3':(x1==3)=false:=by simpa using h3
    have h3n:(x1 != 3)=true:=by simp [h3]
    by_cases hz:x3.size=0
    ·obtain rfl:=size_zero hz
     have hm:mayStandB c (x1,x2,⟨#[]⟩)=true:=by rw [HM.out,if_neg h3];rfl
     by_cases h1:x1=1
     ·subst h1
      cases hnb:noneB x2 b
      ·rw [hnb] at hNo
       go_wp2_with (go_at_call 109;refine (hNo _).mono ?_;rintro e w' ⟨rfl,rfl⟩)
       refine (hEn _).mono ?_
       rintro e w2 ⟨rfl,hb2⟩
       have k0:=hb2.cell (p:=⟨w.heap.size,0,none⟩) hs1
       rw [c0] at k0
       have k2:=hb2.cell (p:=⟨w.heap.size,2,none⟩) hs1
       rw [c2] at k2
       have hb:=hb1.trans (hb2.mono (by omega))
       clear c0 c1 c2 hb2 hb1 hNo hEn
       go_wp2
       go_loop [9] (fun i=>i=.int .i64 0) (fun i=>0)
       case atStart=>rfl
       case round =>
        subst hrel
        go_wp2
        go_ret
        exact⟨by rw [HR.out];simp [hm,hnb,nulS_empty],hb⟩
      ·rw [hnb] at hNo
       go_wp2_with (go_at_call 109;refine (hNo _).mono ?_;rintro e w' ⟨rfl,rfl⟩)
       go_ret
       exact⟨by rw [HR.out];simp [hm,hnb],hb1⟩
     ·have h1':(x1==1)=false:=by simpa using h1
      by_cases h4:x1=4
      ·subst h4
       cases heb:enumB c x2
       ·rw [heb] at hEn
        go_wp2_with fail
        refine (hEn _).mono ?_
        rintro e w2 ⟨rfl,hb2⟩
        have kk:=hb2.cell (p:=⟨w.heap.size,0,none⟩) hs1
        rw [c0] at kk
        have hb:=hb1.trans (hb2.mono (by omega))
        clear c0 c1 c2 hb2
        go_wp2
        go_ret
        exact⟨by rw [HR.out];simp [hm,heb],hb⟩
       ·rw [heb] at hEn
        go_wp2_with fail
        refine (hEn _).mono ?_
        rintro e w2 ⟨rfl,hb2⟩
        have k0:=hb2.cell (p:=⟨w.heap.size,0,none⟩) hs1
        rw [c0] at k0
        have k2:=hb2.cell (p:=⟨w.heap.size,2,none⟩) hs1
        rw [c2] at k2
        have hb:=hb1.trans (hb2.mono (by omega))
        clear c0 c1 c2 hb2 hb1 hNo hEn
        go_wp2
        go_loop [9] (fun i=>i=.int .i64 0) (fun i=>0)
        case atStart=>rfl
        case round =>
         subst hrel
         go_wp2
         go_ret
         exact⟨by rw [HR.out];simp [hm,heb,nulS_empty],hb⟩
      ·have h4':(x1==4)=false:=by simpa using h4
       go_wp2_with fail
       refine (hEn _).mono ?_
       rintro e w2 ⟨rfl,hb2⟩
       have k0:=hb2.cell (p:=⟨w.heap.size,0,none⟩) hs1
       rw [c0] at k0
       have k2:=hb2.cell (p:=⟨w.heap.size,2,none⟩) hs1
       rw [c2] at k2
       have hb:=hb1.trans (hb2.mono (by omega))
       clear c0 c1 c2 hb2 hb1 hNo hEn
       go_wp2
       go_loop [9] (fun i=>i=.int .i64 0) (fun i=>0)
       case atStart=>rfl
       case round =>
        subst hrel
        go_wp2
        go_ret
        exact⟨by rw [HR.out];simp [hm,h1,h4,nulS_empty],hb⟩
    ·have hz':(x3.size==0)=false:=by simpa using hz
     go_wp2
     go_ret
     exact⟨by rw [HR.out,HM.out];simp [h3,hz],hb1⟩
  ·have hk':(x1 != kindI c)=true:=by simp [hk]
   refine wp_region_class (C:=Below W.heap.size W) (by kernel_rfl) (by kernel_rfl) hbl ?_
   repeat (go_big_quiet_step ((go_at_call 108;exact hK _)))
   refine wpQuiet_nil ?_
   rintro _ ⟨s,rfl⟩
   have hfin:=hba.trans (s.ok.mono (by omega))
   clear hne hK a0 hNo hEn
   go_wp2
   go_ret
   exact⟨by rw [HR.out,if_pos (by simp [mayStandB,hk])];rfl,hfin⟩
theorem RefSplit.info:(Tryz.prog.info? 22).map (fun i=>(i.zero,i.size,i.bytes))=some (some (.int .u32 0),1,4):=by kernel_rfl
theorem refSplit_large (a:Option Addr) (n cap:Nat) (w:World) (h:4194304<n) :
  Calls Tryz.prog 58 #[.slice a n cap] w fun e w'=>e=.returned (.tuple #[.slice none 0 0,.int .i64 4])∧w=w':=by
 have h':(4194304:Int)<(n:Int):=by omega
 go_enter Tryz.func58,Tryz.ntmps58
 go_wp2
 go_ret2
 exact⟨rfl,rfl⟩
theorem refSplit_odd (a:Option Addr) (n cap:Nat) (w:World) (h:¬ 4194304<n) (h2:¬ n % 4=0) :
  Calls Tryz.prog 58 #[.slice a n cap] w fun e w'=>e=.returned (.tuple #[.slice none 0 0,.int .i64 10])∧w=w':=by
 have h':¬ (4194304:Int)<(n:Int):=by omega
 have h2':(((n:Int) % 4)==0)=false:=by simp;omega
 go_enter Tryz.func58,Tryz.ntmps58
 go_wp2
 go_ret2
 exact⟨rfl,rfl⟩
set_option maxHeartbeats 1000000 in
theorem refSplit_ok (a:Option Addr) (m cap:Nat) (zs:List Int) (w:World) (ha:View .u8 w a zs) (hl:zs.length=4 * m) (hw:Within 256 zs) (h:¬ 4194304<4 * m) :
  Calls Tryz.prog 58 #[.slice a (4 * m) cap] w fun e w'=>e=.returned (.tuple #[.slice (some ⟨w.heap.size,0,none⟩) m m,.int .i64 0]) ∧
   w'.ownsRow w.heap.size 22 1 (.slice (some ⟨w.heap.size,0,none⟩) m m) m ((splitL zs).map (Value.int .u32))∧Below w.heap.size w w':=by
 obtain⟨i0,hi,hz0,hz1,hz2⟩:=info_parts RefSplit.info
 have HL:Hid (zs.length=4 * m):=hl
 have HS:Hid ((splitL zs).length=m):=by rw [splitL_len,hl];show 4 * m / 4=m;omega
 clear hl
 have h':¬ (4194304:Int)<4 * (m:Int):=by omega
 go_enter Tryz.func58,Tryz.ntmps58
 go_wp2_with (at_make;refine wpList_make_full _ rfl _ _ 52 rfl w.heap.size 22 i0 (.int .u32 0) 1 Tryz.underlying52 hi hz0 hz1 _ _ _ _ m rfl rfl (by omega) (by omega) (by rw [hz2];omega) (by unfold maxLen;omega) (Nat.le_refl _) ?_)
 intro w1 hown1 hgrow1
 have hb1:Below w.heap.size w w1:=(Below.refl _ w).grown hgrow1 (Nat.le_refl _) (by simp)
 have hr1:=made_row (splitL zs) hown1
 clear hown1 hgrow1
 go_wp2
 go_loopw [5] (fun i wr=>∃ k:Nat,k≤m∧i=.int .i64 k∧wr.ownsRow w.heap.size 22 1 (.slice (some ⟨w.heap.size,0,none⟩) m m) m ((filled (splitL zs) k m).map (Value.int .u32))∧Below w.heap.size w wr)
  (fun i _=>m - (intOf i).toNat)
 case atStart=>exact⟨0,Nat.zero_le _,rfl,hr1,hb1⟩
 case round =>
  obtain⟨k,hk,rfl,hown,hnx⟩:=hrel
  clear hr1 hb1
  by_cases hlt:k<m
  ·obtain⟨b,off,rfl,hbs,hc0⟩:=ha (4 * k) (by rw [HL.out];omega)
   obtain⟨b',off',e1,_,hc1⟩:=ha (4 * k+1) (by rw [HL.out];omega)
   simp at e1
   obtain⟨rfl,rfl⟩:=e1
   obtain⟨b',off',e1,_,hc2⟩:=ha (4 * k+2) (by rw [HL.out];omega)
   simp at e1
   obtain⟨rfl,rfl⟩:=e1
   obtain⟨b',off',e1,_,hc3⟩:=ha (4 * k+3) (by rw [HL.out];omega)
   simp at e1
   obtain⟨rfl,rfl⟩:=e1
   have x0:=hw.at (k:=4 * k) (by rw [HL.out];omega)
   have x1:=hw.at (k:=4 * k+1) (by rw [HL.out];omega)
   have x2:=hw.at (k:=4 * k+2) (by rw [HL.out];omega)
   have x3:=hw.at (k:=4 * k+3) (by rw [HL.out];omega)
   obtain⟨d1,d2,d3⟩:=fill_step hown hlt (by rw [HS.out];exact hlt)
   have HW:Hid (nth (splitL zs) k=nth zs (4 * k)+nth zs (4 * k+1) * 256+nth zs (4 * k+2) * 65536+nth zs (4 * k+3) * 16777216):=nth_splitL zs k (by rw [HL.out];omega)
   rw [HW.out] at d3
   have g0:=(hnx.cell (p:=⟨b,off+4 * k,none⟩) hbs).trans hc0
   have g1:=(hnx.cell (p:=⟨b,off+(4 * k+1),none⟩) hbs).trans hc1
   have g2:=(hnx.cell (p:=⟨b,off+(4 * k+2),none⟩) hbs).trans hc2
   have g3:=(hnx.cell (p:=⟨b,off+(4 * k+3),none⟩) hbs).trans hc3
   clear hc0 hc1 hc2 hc3 HW hown
   generalize nth zs (4 * k)=c0 at *
   generalize nth zs (4 * k+1)=c1 at *
   generalize nth zs (4 * k+2)=c2 at *
   generalize nth zs (4 * k+3)=c3 at *
   obtain⟨l0,u0⟩:=x0
   obtain⟨l1,u1⟩:=x1
   obtain⟨l2,u2⟩:=x2
   obtain⟨l3,u3⟩:=x3
   have k0:(0:Int)≤4 * (k:Int):=by omega
   have k1:4 * (k:Int)+3<4 * (m:Int):=by omega
   have hki:(k:Int)<(m:Int):=by omega
   have hne:=World.new_ne wr _ g0
   have D3:Hid ((wr.setCell ⟨w.heap.size,k,none⟩ (.int .u32 (c0+c1 * 256+c2 * 65536+c3 * 16777216))).ownsRow w.heap.size 22 1 (.slice (some ⟨w.heap.size,0,none⟩) m m) m ((filled (splitL zs) (k+1) m).map (Value.int .u32))):=d3
   clear d3 ha
   have i0':IntKind.i64.wrap (4 * (k:Int))=4 * (k:Int):=by rw [IntKind.wrap_i64];omega
   have i1':IntKind.i64.wrap (4 * (k:Int)+1)=4 * (k:Int)+1:=by rw [IntKind.wrap_i64];omega
   have i2':IntKind.i64.wrap (4 * (k:Int)+2)=4 * (k:Int)+2:=by rw [IntKind.wrap_i64];omega
   have i3':IntKind.i64.wrap (4 * (k:Int)+3)=4 * (k:Int)+3:=by rw [IntKind.wrap_i64];omega
   have n0:(4 * (k:Int)).toNat=4 * k:=by omega
   have n1:(4 * (k:Int)+1).toNat=4 * k+1:=by omega
   have n2:(4 * (k:Int)+2).toNat=4 * k+2:=by omega
   have n3:(4 * (k:Int)+3).toNat=4 * k+3:=by omega
   have p0:4 * (k:Int)<4 * (m:Int):=by omega
   have p1:4 * (k:Int)+1<4 * (m:Int):=by omega
   have p2:4 * (k:Int)+2<4 * (m:Int):=by omega
   have q1:0≤4 * (k:Int)+1:=by omega
   have q2:0≤4 * (k:Int)+2:=by omega
   have q3:0≤4 * (k:Int)+3:=by omega
   have v0:IntKind.u32.wrap c0=c0:=by rw [IntKind.wrap_u32'];omega
   have v1:IntKind.u32.wrap c1=c1:=by rw [IntKind.wrap_u32'];omega
   have v2:IntKind.u32.wrap c2=c2:=by rw [IntKind.wrap_u32'];omega
   have v3:IntKind.u32.wrap c3=c3:=by rw [IntKind.wrap_u32'];omega
   have y1:IntKind.u32.wrap (256 * c1)=256 * c1:=by rw [IntKind.wrap_u32'];omega
   have y2:IntKind.u32.wrap (65536 * c2)=65536 * c2:=by rw [IntKind.wrap_u32'];omega
   have y3:IntKind.u32.wrap (16777216 * c3)=16777216 * c3:=by rw [IntKind.wrap_u32'];omega
   have z1:IntKind.u32.wrap (c0+256 * c1)=c0+256 * c1:=by rw [IntKind.wrap_u32'];omega
   have z2:IntKind.u32.wrap (c0+256 * c1+65536 * c2)=c0+256 * c1+65536 * c2:=by rw [IntKind.wrap_u32'];omega
   have z3:IntKind.u32.wrap (c0+256 * c1+65536 * c2+16777216 * c3)=c0+256 * c1+65536 * c2+16777216 * c3:=by rw [IntKind.wrap_u32'];omega
   have hfar:∀ (W:World) (j o:Nat) (u:Value),(W.setCell ⟨w.heap.size,j,none⟩ u).cell? ⟨b,o,none⟩=W.cell? ⟨b,o,none⟩:=fun W j o u=>cell_far (by omega) j o u
   go_wp2
   go_region_held3 (fun w'=>w'.cell? ⟨b,off+4 * k,none⟩=some (.int .u8 c0)∧w'.cell? ⟨b,off+(4 * k+1),none⟩=some (.int .u8 c1)∧w'.cell? ⟨b,off+(4 * k+2),none⟩=some (.int .u8 c2)∧w'.cell? ⟨b,off+(4 * k+3),none⟩=some (.int .u8 c3)) (go_keep) (fail)
   go_wp2
   go_roundw
   case rel =>
    have e:c0+256 * c1+65536 * c2+16777216 * c3=c0+c1 * 256+c2 * 65536+c3 * 16777216:=by omega
    exact⟨k+1,by omega,by go_num,by rw [e];exact D3.out.drew,(hnx.setCell (Nat.le_refl _) _).drew⟩
   case measure=>simp [intOf];omega
  ·go_wp2
   go_ret2
   obtain rfl:k=m:=by omega
   rw [filled_whole _ _ HS.out] at hown
   exact⟨rfl,hown,hnx⟩
theorem refSplit_any (a:Option Addr) (n cap:Nat) (zs:List Int) (w:World) (ha:View .u8 w a zs) (hl:zs.length=n) (hw:Within 256 zs) :
  Calls Tryz.prog 58 #[.slice a n cap] w fun e w'=>∃ ax m,e=.returned (.tuple #[.slice ax m m,.int .i64 (splitErr zs)])∧(splitOut zs).length=m∧View .u32 w' ax (splitOut zs)∧NewAt w.heap.size ax∧Below w.heap.size w w':=by
 by_cases h:4194304<n
 ·refine (refSplit_large a n cap w h).mono ?_
  rintro e w' ⟨rfl,rfl⟩
  rw [splitErr_large zs (by omega),splitOut_large zs (by omega)]
  exact⟨none,0,rfl,rfl,view_nil,newAt_none,Below.refl _ _⟩
 ·by_cases h2:n % 4=0
  ·obtain⟨m,rfl⟩:∃ m,n=4 * m:=⟨n / 4,by omega⟩
   refine (refSplit_ok a m cap zs w ha hl hw h).mono ?_
   rintro e w' ⟨rfl,hown,hb⟩
   rw [splitErr_ok zs (by omega) (by omega),splitOut_ok zs (by omega) (by omega)]
   have hs:(splitL zs).length=m:=by rw [splitL_len,hl];omega
   exact⟨_,m,rfl,hs,View.ofRow hown hs,newAt_mk (Nat.le_refl _),hb⟩
  ·refine (refSplit_odd a n cap w h h2).mono ?_
   rintro e w' ⟨rfl,rfl⟩
   rw [splitErr_odd zs (by omega) (by omega),splitOut_odd zs (by omega) (by omega)]
   exact⟨none,0,rfl,rfl,view_nil,newAt_none,Below.refl _ _⟩
theorem RefOfText.info:(Tryz.prog.info? 5).map (fun i=>(i.zero,i.size,i.bytes))=some (some (.int .u8 0),1,1):=by kernel_rfl
theorem refRoom_any (s:ByteArray) (w:World) (hs:s.size≤140737488351232) :
  Calls Tryz.prog 69 #[.string s] w fun e w'=>e=.returned (.int .i64 ((s.size / 4+1:Nat):Int))∧w=w':=by
 go_enter Tryz.func69,Tryz.ntmps69
 go_wp2
 go_ret
 exact⟨ret_int (by omega),rfl⟩
set_option maxHeartbeats 1000000 in
theorem refOfText_new (s:ByteArray) (w:World) (h:NoNul s) (hl:s.size / 4+1≤65535) :
  Calls Tryz.prog 42 #[.string s] w fun e w'=>∃ ax m,e=.returned (.tuple #[.slice ax m m,.int .i64 0])∧(textW s).length=m∧View .u32 w' ax (textW s)∧NewAt w.heap.size ax∧Below w.heap.size w w':=by
 obtain⟨i0,hi,hz0,hz1,hz2⟩:=info_parts RefOfText.info
 have H:Hid (NoNul s):=h
 have hR:=fun wx=>refRoom_any s wx (by omega)
 have HW:Hid (textW s=splitL (padI s)):=rfl
 have HP:Hid (padI s=filled (strI s) s.size (4 * (s.size / 4+1))):=rfl
 have HPL:Hid ((padI s).length=4 * (s.size / 4+1)):=padI_len s
 obtain⟨m,hm⟩:∃ m,m=s.size / 4+1:=⟨_,rfl⟩
 rw [← hm] at HP HPL hR
 have hl':¬ (65535:Int)<(m:Int):=by omega
 have hsz:s.size<4 * m:=by omega
 have hm2:m≤65535:=by omega
 clear h hl hm
 go_enter Tryz.func42,Tryz.ntmps42
 go_wp2
 go_loop [4] (fun i=>∃ k:Nat,k≤s.size∧i=.int .i64 k) (fun i=>s.size - (intOf i).toNat)
 case atStart=>exact⟨0,Nat.zero_le _,rfl⟩
 case round =>
  obtain⟨k,hk,rfl⟩:=hrel
  by_cases hlt:k<s.size
  ·have hz':((s[k].toNat:Int)==0)=false:=by
    have:=H.out k hlt
    rw [nth_strI s k hlt] at this
    simpa using this
   go_wp2
   go_round
   case rel=>exact⟨k+1,by omega,by go_num⟩
   case measure=>simp [intOf];omega
  ·clear hk
   go_wp2_with (first | (go_at_call 69;refine (hR _).mono ?_;rintro e w' ⟨rfl,rfl⟩) | (at_make;refine wpList_make_full _ rfl _ _ 44 rfl w.heap.size 5 i0 (.int .u8 0) 1 Tryz.underlying44 hi hz0 hz1 _ _ _ _ (4 * m) rfl rfl (by omega) (by omega) (by rw [hz2];omega) (by unfold maxLen;omega) (Nat.le_refl _) ?_))
   intro w1 hown1 hgrow1
   have hb1:Below w.heap.size w w1:=(Below.refl _ w).grown hgrow1 (Nat.le_refl _) (by simp)
   have hr1:=made_row (strI s) hown1
   clear hown1 hgrow1
   go_wp2
   go_loopw [6] (fun i wr=>∃ j:Nat,j≤s.size∧i=.int .i64 j∧wr.ownsRow w.heap.size 5 1 (.slice (some ⟨w.heap.size,0,none⟩) (4 * m) (4 * m)) (4 * m) ((filled (strI s) j (4 * m)).map (Value.int .u8))∧Below w.heap.size w wr)
    (fun i _=>s.size - (intOf i).toNat)
   case atStart=>exact⟨0,Nat.zero_le _,rfl,hr1,hb1⟩
   case round =>
    obtain⟨j,hj,rfl,hown,hnx⟩:=hrel
    clear hr1 hb1
    by_cases hjl:j<s.size
    ·obtain⟨d1,d2,d3⟩:=fill_step hown (by omega) (by rw [strI_len];exact hjl)
     rw [nth_strI s j hjl] at d3
     clear hown
     go_wp2
     go_roundw
     case rel=>exact⟨j+1,by omega,by go_num,d3,hnx.setCell (Nat.le_refl _) _⟩
     case measure=>simp [intOf];omega
    ·obtain rfl:j=s.size:=by omega
     rw [← HP.out] at hown
     have s1:=hnx.size
     go_wp2_with fail
     refine (refSplit_any _ (4 * m) (4 * m) (padI s) wr (View.ofRow hown HPL.out) HPL.out (padI_within s)).mono ?_
     rw [splitErr_ok _ (by rw [HPL.out];omega) (by rw [HPL.out];omega),splitOut_ok _ (by rw [HPL.out];omega) (by rw [HPL.out];omega),← HW.out]
     rintro e w3 ⟨ax,m',rfl,hm',hvx,hnew,hb3⟩
     go_wp2
     go_ret2
     exact⟨ax,m',rfl,hm',hvx,fun b o s hy=>Nat.le_trans s1 (hnew b o s hy),hnx.trans (hb3.mono s1)⟩
theorem words_le (l:List ArgT) (k:Nat):(wordsL (l.take k)).length≤(wordsL l).length:=by
 have h:wordsL l=wordsL (l.take k)++wordsL (l.drop k):=by
  unfold wordsL;rw [← List.flatMap_append,List.take_append_drop]
 rw [h];simp
set_option maxHeartbeats 2000000 in
theorem refRoom4_any (x:InstT) (o:Int) (f:Frm) (ax:Option Addr) (n cx:Nat) (w:World) (hv:ArgsV w ax x.2.2.2) (hok:InstOk x) (hl:x.2.2.2.length=n) (hB:(wordsL x.2.2.2).length≤4611686018427387904) :
  Calls Tryz.prog 34 #[instV x ax n cx,formV o f] w fun e w'=>e=.returned (.int .i64 ((1+(rawL f x).length:Nat):Int))∧Below w.heap.size w w':=by
 obtain⟨xo,xt,xr,xl⟩:=x
 obtain⟨nm,t,r,fx,rs,mo,pa⟩:=f
 obtain⟨_,_,_,_,_,_,hok,hn24⟩:=hok
 simp only at hv hl hB hok hn24
 rw [hl] at hn24
 unfold instV formV
 simp only
 have HLE:Hid (∀ k,(wordsL (xl.take k)).length≤(wordsL xl).length):=words_le xl
 have HB:Hid (((wordsL xl).length:Int)≤4611686018427387904):=by show _≤_;omega
 have HL:Hid (xl.length=n):=hl
 have HOK:Hid (ArgsOk xl):=hok
 have HT:Hid (∀ k,k<n→(wordsL (xl.take (k+1))).length=(wordsL (xl.take k)).length+(if (nthA xl k).1=3 then (nthA xl k).2.2.size / 4+1 else 1)):=fun k hk=>by
  rw [wordsL_take xl k (by omega),List.length_append,wordsA_len]
 have HR:Hid (((1+(rawL (nm,t,r,fx,rs,mo,pa) (xo,xt,xr,xl)).length:Nat):Int)=((1+(headW (nm,t,r,fx,rs,mo,pa) xt xr).length:Nat):Int)+((wordsL (xl.take n)).length:Int)):=by
  show _=_
  unfold rawL;rw [List.take_of_length_le (by omega)];simp;omega
 have hbel:Below w.heap.size w ((w.alloc (.cells #[.int .u16 xo,.int .u32 xt,.int .u32 xr,.slice ax n cx] 38)).alloc (.cells #[.int .u16 o,.string nm,.bool t,.bool r,.string fx,.string rs,.int .i64 mo,.int .u8 pa] 66)):=((Below.refl _ w).alloc (Nat.le_refl _) _).alloc (by simp) _
 have hv1:=hv.below hbel
 have kI:((w.alloc (.cells #[.int .u16 xo,.int .u32 xt,.int .u32 xr,.slice ax n cx] 38)).alloc (.cells #[.int .u16 o,.string nm,.bool t,.bool r,.string fx,.string rs,.int .i64 mo,.int .u8 pa] 66)).heap[w.heap.size]?=some (.cells #[.int .u16 xo,.int .u32 xt,.int .u32 xr,.slice ax n cx] 38 (0,0)):=(Below.heap_alloc _ _ _ (by simp)).trans (alloc_new w _ _)
 have kF:((w.alloc (.cells #[.int .u16 xo,.int .u32 xt,.int .u32 xr,.slice ax n cx] 38)).alloc (.cells #[.int .u16 o,.string nm,.bool t,.bool r,.string fx,.string rs,.int .i64 mo,.int .u8 pa] 66)).heap[w.heap.size+1]?=some (.cells #[.int .u16 o,.string nm,.bool t,.bool r,.string fx,.string rs,.int .i64 mo,.int .u8 pa] 66 (0,0)):=by simpa using alloc_new (w.alloc (.cells #[.int .u16 xo,.int .u32 xt,.int .u32 xr,.slice ax n cx] 38)) #[.int .u16 o,.string nm,.bool t,.bool r,.string fx,.string rs,.int .i64 mo,.int .u8 pa] 66
 have c3:=(one_block kI).1 3
 have d2:=(one_block kF).1 2
 have d3:=(one_block kF).1 3
 have HBEL:=hide hbel
 have HV:=hide hv1
 clear hv hl hB hok hbel kI kF hv1
 obtain⟨h0,hh0⟩:∃ h0:Int,Hid (h0=((1+(headW (nm,t,r,fx,rs,mo,pa) xt xr).length:Nat):Int)):=⟨_,rfl⟩
 have hlo:0≤h0:=by rw [hh0.out];omega
 have hhi:h0≤3:=by rw [hh0.out];unfold headW;cases t <;> cases r <;> simp
 rcases t with _ | _ <;> rcases r with _ | _ <;> (
  go_enter Tryz.func34,Tryz.ntmps34
  go_wp2
  generalize (w.alloc (.cells #[.int .u16 xo,.int .u32 xt,.int .u32 xr,.slice ax n cx] 38)).alloc (.cells #[.int .u16 o,.string nm,.bool _,.bool _,.string fx,.string rs,.int .i64 mo,.int .u8 pa] 66)=W at *
  go_loop [5,6] (fun u i=>∃ k:Nat,k≤n∧i=.int .i64 k∧u=.int .i64 (h0+((wordsL (xl.take k)).length:Int))) (fun _ i=>n - (intOf i).toNat)
  case atStart=>exact⟨0,Nat.zero_le _,rfl,by rw [hh0.out];simp [headW,wordsL]⟩
  case round =>
   obtain⟨k,hk,rfl,rfl⟩:=hrel
   by_cases hlt:k<n
   ·obtain⟨b1,o1,rfl,hb1,p1,p2,p3⟩:=HV.out k (by rw [HL.out];exact hlt)
    have hki:(k:Int)<(n:Int):=by omega
    have hk0:(0:Int)≤(k:Int):=by omega
    have hT:=HT.out k hlt
    have hle:=HLE.out (k+1)
    have hbb:=HB.out
    obtain⟨_,_,_,_,hsz⟩:=HOK.out k (by rw [HL.out];exact hlt)
    have HS:Hid _:=hT
    clear hT
    generalize nthA xl k=z at *
    obtain⟨z1,z2,z3⟩:=z
    simp only at *
    by_cases h3:z1=3
    ·subst h3
     have hRm:=fun wx=>refRoom_any z3 wx hsz
     go_wp2_with (go_at_call 69;refine (hRm _).mono ?_;rintro e w' ⟨rfl,rfl⟩)
     go_round
     case rel=>exact⟨k+1,by omega,by go_num,by have hS:=HS.out;simp only [if_true] at hS;refine congrArg (Value.int .i64) ?_;first | omega | (unfold wrap64;omega)⟩
     case measure=>simp [intOf];omega
    ·have h3':(z1==3)=false:=by simpa using h3
     go_wp2
     go_round
     case rel=>exact⟨k+1,by omega,by go_num,by have hS:=HS.out;rw [if_neg h3] at hS;refine congrArg (Value.int .i64) ?_;first | omega | (unfold wrap64;omega)⟩
     case measure=>simp [intOf];omega
   ·obtain rfl:k=n:=by omega
    go_wp2
    go_ret
    exact⟨by have hR:=HR.out;have h9:=hh0.out;refine congrArg (fun z=>Ending.returned (.int .i64 z)) ?_;omega,HBEL.out⟩)
theorem words_bound {f:Frm} {b:Int} {l:List ArgT} (hf:noText f=true∧shortF f=true) (hok:ArgsOk l) (h:∀ i,i<l.length→wrongA (letterI f (i:Int)) (nthA l i) b=0):∀ k,k≤l.length→(wordsL (l.take k)).length≤k+min k 1000 * 35184372087809
 | 0,_=>by simp [wordsL]
 | k+1,hk=>by
  have ih:=words_bound hf hok h k (by omega)
  rw [wordsL_take l k (by omega),List.length_append,wordsA_len]
  split
  ·rename_i h3
   have h1:=(wrongA_kind (h k (by omega))).2
   have h2:=text_fixed hf.1 (k:=k) (by rw [← h1];exact h3)
   have h4:=(hok k (by omega)).2.2.2.2
   have h5:f.2.2.2.1.size≤1000:=by
    have:=hf.2
    simp [shortF] at this
    exact this.1.1.1
   have e1:min k 1000=k:=by omega
   have e2:min (k+1) 1000=k+1:=by omega
   rw [e1] at ih;rw [e2,Nat.add_mul]
   omega
  ·have:min k 1000 * 35184372087809≤min (k+1) 1000 * 35184372087809:=Nat.mul_le_mul_right _ (by omega)
   omega
theorem words_few {f:Frm} {b:Int} {l:List ArgT} (hf:noText f=true∧shortF f=true) (hok:ArgsOk l) (hl:24 * l.length≤140737488351232) (h:∀ i,i<l.length→wrongA (letterI f (i:Int)) (nthA l i) b=0):(wordsL l).length≤4611686018427387904:=by
 have:=words_bound hf hok h l.length (Nat.le_refl _)
 rw [List.take_of_length_le (Nat.le_refl _)] at this
 have:min l.length 1000 * 35184372087809≤1000 * 35184372087809:=Nat.mul_le_mul_right _ (by omega)
 omega
theorem refT_sizes4:refT.all (fun p=>decide (p.2.2.2.2.1.size<100) && decide (p.2.2.2.2.2.1.size<100))=true:=by decide +kernel
theorem frm_small (n:Int):(lookF refT n).1.2.2.2.1.size<100∧(lookF refT n).1.2.2.2.2.1.size<100:=by
 by_cases h:(lookF refT n).2=true
 ·have:=(List.all_eq_true.1 refT_sizes4) _ (lookF_true h)
  simpa using this
 ·rw [(lookF_false (by simpa using h)).1];exact⟨by decide,by decide⟩
set_option maxHeartbeats 4000000 in
theorem refFault4_any (x:InstT) (b:Int) (ax:Option Addr) (n cx:Nat) (w:World) (hv:ArgsV w ax x.2.2.2) (hok:InstOk x) (hl:x.2.2.2.length=n) (b0:0≤b) (b1:b<4294967296) :
  Calls Tryz.prog 32 #[instV x ax n cx,.int .u32 b] w fun e w'=>e=.returned (.int .i64 (rawE x b))∧Below w.heap.size w w':=by
 have hOf:=fun wx=>refOf_any x.1 wx
 obtain⟨R,hR⟩:∃ R,R=rawE x b:=⟨_,rfl⟩
 rw [← hR]
 have hX:=hok
 obtain⟨xo,xt,xr,xl⟩:=x
 obtain⟨q0,q1,q2,q3,q4,q5,q6,q7⟩:=hok
 simp only at q0 q1 q2 q3 q4 q5 q6 q7 hv hl hOf
 unfold instV
 simp only
 have hba:Below w.heap.size w (w.alloc (.cells #[.int .u16 xo,.int .u32 xt,.int .u32 xr,.slice ax n cx] 38)):=(Below.refl _ w).alloc (Nat.le_refl _) _
 have kB:(w.alloc (.cells #[.int .u16 xo,.int .u32 xt,.int .u32 xr,.slice ax n cx] 38)).heap[w.heap.size]?=some (.cells #[.int .u16 xo,.int .u32 xt,.int .u32 xr,.slice ax n cx] 38 (0,0)):=alloc_new w _ _
 have hsz:w.heap.size<(w.alloc (.cells #[.int .u16 xo,.int .u32 xt,.int .u32 xr,.slice ax n cx] 38)).heap.size:=by simp
 have hv0:=hv.below hba
 go_enter Tryz.func32,Tryz.ntmps32
 go_wp2_with fail
 generalize w.alloc (.cells #[.int .u16 xo,.int .u32 xt,.int .u32 xr,.slice ax n cx] 38)=W at *
 refine (hOf _).mono ?_
 rintro e w1 ⟨rfl,hb1⟩
 clear hOf
 by_cases h0:(lookF refT xo).2=true
 ·have eV:ofV xo=formV xo (lookF refT xo).1:=by unfold ofV;rw [if_pos h0]
  rw [eV,h0]
  unfold rawE at hR
  rw [if_pos h0] at hR
  have hNT:=look_noText xo
  have hSm:=frm_small xo
  obtain⟨f,hf⟩:∃ f,f=(lookF refT xo).1:=⟨_,rfl⟩
  have hLt:=fun i (wx:World) (h1:i<9223372036854775808)=>refLetter_any xo i wx h1
  simp only [← hf] at hR hNT hSm hLt ⊢
  have HR:=hide hR
  have HNT:=hide hNT
  clear hR eV hf h0 hNT
  obtain⟨nm,t,r,fx,rs,mo,pa⟩:=f
  unfold formV
  simp only
  have hb2:Below w1.heap.size w1 (w1.alloc (.cells #[.int .u16 xo,.string nm,.bool t,.bool r,.string fx,.string rs,.int .i64 mo,.int .u8 pa] 66)):=(Below.refl _ _).alloc (Nat.le_refl _) _
  have kF:(w1.alloc (.cells #[.int .u16 xo,.string nm,.bool t,.bool r,.string fx,.string rs,.int .i64 mo,.int .u8 pa] 66)).heap[w1.heap.size]?=some (.cells #[.int .u16 xo,.string nm,.bool t,.bool r,.string fx,.string rs,.int .i64 mo,.int .u8 pa] 66 (0,0)):=alloc_new w1 _ _
  have hb02:=hb1.trans (hb2.mono hb1.size)
  have kI:=(hb02.block _ hsz).trans kB
  have hv2:=hv0.below hb02
  have hbel:=hba.trans (hb02.mono (by omega))
  have hs1:w.heap.size<w1.heap.size:=Nat.lt_of_lt_of_le hsz hb1.size
  have hs2:w1.heap.size<(w1.alloc (.cells #[.int .u16 xo,.string nm,.bool t,.bool r,.string fx,.string rs,.int .i64 mo,.int .u8 pa] 66)).heap.size:=by simp
  have hI1:=fun wx=>refId_any t xt b 40 wx q2 q3 b0 b1
  have hI2:=fun wx=>refId_any r xr b 41 wx q4 q5 b0 b1
  have kI1:=(hb1.block _ hsz).trans kB
  have i1:=(one_block kI1).1 1
  have i2:=(one_block kI1).1 2
  have HKF:=hide kF
  have HKI:=hide kI
  have HV2:=hide hv2
  have HBEL:=hide hbel
  have hWh:=fun (wx:World)=>refWhole_any xo (nm,t,r,fx,rs,mo,pa) (n:Int) wx (by omega) (by omega) hSm.1 hSm.2
  have hRm:=fun (wx:World) (hvx:ArgsV wx ax xl) (hB:(wordsL xl).length≤4611686018427387904)=>refRoom4_any (xo,xt,xr,xl) xo (nm,t,r,fx,rs,mo,pa) ax n cx wx hvx hX hl hB
  have hWr:=fun (k:Nat) (wx:World) (hk:k<xl.length) (c:Int)=>refWrong4_any c (nthA xl k) b wx (q6 k hk) b0 b1
  have HFEW:=hide (words_few HNT.out q6 q7 (b:=b))
  have HL:=hide hl
  have HN:Hid (24 * n≤140737488351232):=by show _≤_;omega
  unfold instV formV at hRm
  unfold formV at hWh
  simp only at hRm hWh
  have HRM:=hide hRm
  have HWR:=hide hWr
  have HWH:=hide hWh
  have HLT:=hide hLt
  clear hb1 hb2 hb02 hba kB hsz hv0 hv kF kI hv2 hbel kI1 hWh hRm hWr hl hX q0 q1 q2 q3 q4 q5 q6 q7 hSm hLt b0 b1
  have hR1:idE t xt b 40≠0→R=idE t xt b 40:=fun h=>by rw [HR.out];unfold faultI;simp only;rw [if_pos h]
  have hR2:idE t xt b 40=0→idE r xr b 41≠0→R=idE r xr b 41:=fun h1 h=>by rw [HR.out];unfold faultI;simp only;rw [if_neg (by omega),if_pos h]
  have hR3:idE t xt b 40=0→idE r xr b 41=0→R=(if wrongL (nm,t,r,fx,rs,mo,pa) b 0 xl≠0 then wrongL (nm,t,r,fx,rs,mo,pa) b 0 xl else if wholeN (nm,t,r,fx,rs,mo,pa) xl.length=false then 42 else if 65535<1+(rawL (nm,t,r,fx,rs,mo,pa) (xo,xt,xr,xl)).length then 25 else 0):=fun h1 h2=>by
   rw [HR.out];unfold faultI;simp only;rw [if_neg (by omega),if_neg (by omega)]
  have HR1:=hide hR1
  have HR2:=hide hR2
  have HR3:=hide hR3
  clear hR1 hR2 hR3
  go_wp2_with fail
  generalize w1.alloc (.cells #[.int .u16 xo,.string nm,.bool t,.bool r,.string fx,.string rs,.int .i64 mo,.int .u8 pa] 66)=W2 at *
  clear i1 i2
  have i2:=(one_block HKI.out).1 2
  have f3:=(one_block HKF.out).1 3
  refine (hI1 _).mono ?_
  rintro e w' ⟨rfl,rfl⟩
  clear hI1
  generalize idE t xt b 40=e1 at *
  by_cases he1:e1=0
  ·subst he1
   go_wp2_with fail
   refine (hI2 _).mono ?_
   rintro e w' ⟨rfl,rfl⟩
   clear hI2
   generalize idE r xr b 41=e2 at *
   by_cases he2:e2=0
   ·subst he2
    have H3:=hide (HR3.out (by trivial) (by trivial))
    clear HR1 HR2 HR3 i2 f3
    go_wp2_with fail
    go_loopw [7,8] (fun _ i wr=>∃ k:Nat,k≤n∧i=.int .i64 k∧Below W2.heap.size W2 wr∧Hid (∀ j,j<k→wrongA (letterI (nm,t,r,fx,rs,mo,pa) (j:Int)) (nthA xl j) b=0)) (fun _ i _=>n - (intOf i).toNat)
    case atStart=>exact⟨0,Nat.zero_le _,rfl,Below.refl _ _,fun j hj=>by omega⟩
    case round =>
     obtain⟨k,hk,rfl,hbr,HJ⟩:=hrel
     have kIr:=(hbr.block _ (by omega)).trans HKI.out
     have kFr:=(hbr.block _ hs2).trans HKF.out
     have hvr:=HV2.out.below hbr
     have hsr:w.heap.size<wr.heap.size:=by have:=hbr.size;omega
     have hsf:w1.heap.size<wr.heap.size:=by have:=hbr.size;omega
     have i3:=(one_block kIr).1 3
     by_cases hlt:k<n
     ·have hkl:k<xl.length:=by rw [HL.out];exact hlt
      obtain⟨g1,o1,rfl,hg1,p1,p2,p3⟩:=hvr k hkl
      have hki:(k:Int)<(n:Int):=by omega
      have hk0:(0:Int)≤(k:Int):=by omega
      have hkb:(k:Int)<140737488351232:=by have:=HN.out;omega
      have a0:=fun s:InC (Below wr.heap.size wr)=>s.cell (p:=⟨w.heap.size,0,none⟩) hsr ((one_block kIr).1 0)
      have a3:=fun s:InC (Below wr.heap.size wr)=>s.cell (p:=⟨w.heap.size,3,none⟩) hsr ((one_block kIr).1 3)
      have b1:=fun s:InC (Below wr.heap.size wr)=>s.cell (p:=⟨g1,o1+k * 3,none⟩) hg1 p1
      have b2:=fun s:InC (Below wr.heap.size wr)=>s.cell (p:=⟨g1,o1+k * 3+1,none⟩) hg1 p2
      have b3:=fun s:InC (Below wr.heap.size wr)=>s.cell (p:=⟨g1,o1+k * 3+2,none⟩) hg1 p3
      have hne:Nonempty (InC (Below wr.heap.size wr)):=⟨⟨wr,Below.refl _ _⟩⟩
      have hbl:=below_drew wr
      have hK:=fun s:InC (Below wr.heap.size wr)=>Calls.inC s (HLT.out (k:Int) s.w (by have:=HN.out;omega))
      have hW:=fun (c:Int) (s:InC (Below wr.heap.size wr))=>Calls.inC s (HWR.out k s.w hkl c)
      unfold argV at hW
      have HW1:=hide (wrongL_first (f:=(nm,t,r,fx,rs,mo,pa)) (b:=b) (l:=xl) (k:=0) (j:=k) hkl (fun i hi=>by rw [Nat.zero_add];exact HJ.out i hi))
      have HH:Hid (wrongA (letterI (nm,t,r,fx,rs,mo,pa) (k:Int)) (nthA xl k) b≠0→R=wrongA (letterI (nm,t,r,fx,rs,mo,pa) (k:Int)) (nthA xl k) b):=fun h=>by
       have e:=HW1.out (by rw [Nat.zero_add];exact h)
       rw [Nat.zero_add] at e
       rw [H3.out,e,if_pos h]
      obtain⟨E,hE⟩:∃ E,E=wrongA (letterI (nm,t,r,fx,rs,mo,pa) (k:Int)) (nthA xl k) b:=⟨_,rfl⟩
      have hW':=hW (letterI (nm,t,r,fx,rs,mo,pa) (k:Int))
      rw [← hE] at hW' HH
      have HE:Hid (E=0→wrongA (letterI (nm,t,r,fx,rs,mo,pa) (k:Int)) (nthA xl k) b=0):=fun h=>by rw [← hE];exact h
      clear hW hE HW1 H3 HWR HWH HRM HLT HFEW kFr kIr hvr p1 p2 p3 HV2 HKI HKF
      generalize letterI (nm,t,r,fx,rs,mo,pa) (k:Int)=c at hK hW'
      generalize nthA xl k=z at b1 b2 b3 hW'
      obtain⟨z1,z2,z3⟩:=z
      simp only at b1 b2 b3 hW'
      go_wp2_with fail
      refine wp_region_class (C:=Below wr.heap.size wr) (by kernel_rfl) (by kernel_rfl) hbl ?_
      repeat (go_big_quiet_step ((first | (go_at_call 46;exact hK _) | (go_at_call 66;exact hW' _))))
      refine wpQuiet_nil ?_
      rintro _ ⟨s,rfl⟩
      have hbs:=hbr.trans (s.ok.mono hbr.size)
      have hfin:=HBEL.out.trans (hbs.mono HBEL.out.size)
      clear hne hK hW' a0 a3 b1 b2 b3 hbr
      generalize s.w=W3 at *
      by_cases hE0:E=0
      ·subst hE0
       go_wp2_with fail
       go_roundw
       case rel=>exact⟨k+1,by omega,by have:=HN.out;go_num,hbs,fun j hj=>if e:j=k then (by subst e;exact HE.out rfl) else HJ.out j (by omega)⟩
       case measure=>have:=HN.out;simp [intOf];omega
      ·have hE':(E != 0)=true:=by simp [hE0]
       have e9:=HH.out hE0
       go_wp2_with fail
       go_ret
       exact⟨by rw [e9];rfl,hfin⟩
     ·obtain rfl:k=n:=by omega
      have hWL:wrongL (nm,t,r,fx,rs,mo,pa) b 0 xl=0:=wrongL_none fun i hi=>by rw [Nat.zero_add];exact HJ.out i (by rw [← HL.out];exact hi)
      have hfew:=HFEW.out (fun i hi=>HJ.out i (by rw [← HL.out];exact hi))
      have H4:=H3.out
      rw [if_neg (by omega),HL.out] at H4
      have HFW:=hide hfew
      have H5:=hide H4
      have hfr:=HBEL.out.trans (hbr.mono HBEL.out.size)
      obtain⟨d0,d1,d2,d3,d4,d5,d6,d7,df⟩:=frm_cells (n:=xo) (f:=(nm,t,r,fx,rs,mo,pa)) kFr
      simp only at d0 d1 d2 d3 d4 d5 d6 d7
      have hWh:=HWH.out
      have HVR:=hide hvr
      have HKF2:=hide kFr
      have HKI2:=hide kIr
      clear hWL hfew H4 H3 HLT HWR HFEW hvr hbr kFr kIr HV2 HKI HKF HJ df HWH
      go_wp2_with fail
      refine (hWh _).mono ?_
      rintro e w4 ⟨rfl,hb4⟩
      have kI4:=(hb4.block _ hsr).trans HKI2.out
      have kF4:=(hb4.block _ hsf).trans HKF2.out
      have hv4:=HVR.out.below hb4
      have hf4:=hfr.trans (hb4.mono hfr.size)
      clear hWh HKF2 HKI2 HVR hfr hb4 d0 d1 d2 d3 d4 d5 d6 d7 i3
      cases hwh:wholeN (nm,t,r,fx,rs,mo,pa) (k:Int)
      ·have e9:=H5.out
       rw [hwh,if_pos rfl] at e9
       go_wp2_with fail
       go_ret
       exact⟨by rw [e9];rfl,hf4⟩
      ·have e9:=H5.out
       rw [hwh,if_neg (by simp)] at e9
       have hRm:=HRM.out w4 hv4 HFW.out
       obtain⟨d0,d1,d2,d3,d4,d5,d6,d7,df⟩:=frm_cells (n:=xo) (f:=(nm,t,r,fx,rs,mo,pa)) kF4
       simp only at d0 d1 d2 d3 d4 d5 d6 d7
       have i0:=(one_block kI4).1 0
       have i1:=(one_block kI4).1 1
       have i2:=(one_block kI4).1 2
       have i3:=(one_block kI4).1 3
       have H9:=hide e9
       generalize hln:(rawL (nm,t,r,fx,rs,mo,pa) (xo,xt,xr,xl)).length=ln at *
       clear hln e9 kF4 kI4 hv4 HRM HFW H5 df
       go_wp2_with fail
       refine hRm.mono ?_
       rintro e w5 ⟨rfl,hb5⟩
       have hf5:=hf4.trans (hb5.mono hf4.size)
       clear hRm hb5 hf4 d0 d1 d2 d3 d4 d5 d6 d7 i0 i1 i2 i3
       by_cases hgt:65535<1+ln
       ·have e9:=H9.out
        rw [if_pos hgt] at e9
        have hd:decide ((65535:Int)<1+(ln:Int))=true:=decide_eq_true (by omega)
        clear hgt
        go_wp2_with fail
        go_ret
        exact⟨by rw [e9];rfl,hf5⟩
       ·have e9:=H9.out
        rw [if_neg hgt] at e9
        have hd:decide ((65535:Int)<1+(ln:Int))=false:=decide_eq_false (by omega)
        clear hgt
        go_wp2_with fail
        go_ret
        exact⟨by rw [e9];rfl,hf5⟩
   ·have he2':(e2 != 0)=true:=by simp [he2]
    have e9:=HR2.out (by trivial) he2
    clear HR1 HR2 HR3
    go_wp2_with fail
    go_ret
    exact⟨by rw [e9];rfl,HBEL.out⟩
  ·have he1':(e1 != 0)=true:=by simp [he1]
   have e9:=HR1.out he1
   clear HR1 HR2 HR3
   go_wp2_with fail
   go_ret
   exact⟨by rw [e9];rfl,HBEL.out⟩
 ·have h0':(lookF refT xo).2=false:=by simpa using h0
  have eV:ofV xo=formV 0 noFrm:=by unfold ofV;rw [if_neg h0]
  rw [eV,h0']
  unfold rawE at hR
  rw [if_neg h0] at hR
  subst hR
  have hbel:=hba.trans (hb1.mono (by omega))
  unfold formV noFrm
  simp only
  clear hb1 hba kB hv0 hv
  go_wp2_with fail
  go_ret
  exact⟨rfl,hbel.alloc hbel.size _⟩
end Go.Proofs.YtonhnflilfjkbaaGreatDoor
