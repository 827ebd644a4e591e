/-
  Texts in one: Ref05May0, Ref05First, Ref05May1, Ref04Wrong, Ref01Split, Ref01OfText, Ref04Room, Ref04Fault.
-/
import Derived.Test.YtlcaedibmlidlaaGreatB20
import Derived.Deep.RegionHeld3
namespace Go.Proofs.YtlcaedibmlidlaaGreat
open Go.RowKit
set_option linter.unusedVariables false
set_option linter.unusedSimpArgs false
set_option maxRecDepth 10000
set_option maxHeartbeats 8000000 in
theorem refMay_low (l:List InstT) (a:Option Addr) (n c m:Nat) (w:World) (hv:InstsV w a l) (hl:l.length=n) (hn:n≤140737488351232) (hvar:VarsOk l) (hm:m<n) (p:Int) (hp:partI (nthI l m)=p) (h8:p<8) (r:Bool) (hr:r=(!overP l p m && (if p=1 then decide (modelsN l m=0) else !(decide (1<p) && decide (modelsN l m=0))))) :
  Calls Tryz.prog 65 #[.slice a n c,.int .i64 m] w fun e w'=>e=.returned (.bool r)∧Below w.heap.size w w':=by
 have HL:=hide hl
 have HV:=hide hv
 have HR:=hide hr
 have HVAR:=hide hvar
 have HP:Hid (∀ (k:Nat) (wx:World),k<n→Below w.heap.size w wx→∃ b off aj cj nj,a=some ⟨b,off,none⟩∧b<wx.heap.size∧wx.cell? ⟨b,off+k * 4,none⟩=some (.int .u16 (nthI l k).1)∧wx.cell? ⟨b,off+k * 4+1,none⟩=some (.int .u32 (nthI l k).2.1)∧wx.cell? ⟨b,off+k * 4+2,none⟩=some (.int .u32 (nthI l k).2.2.1)∧wx.cell? ⟨b,off+k * 4+3,none⟩=some (.slice aj nj cj) ∧
   ∀ wy,Below wx.heap.size wx wy→Calls Tryz.prog 66 #[.agg #[.int .u16 (nthI l k).1,.int .u32 (nthI l k).2.1,.int .u32 (nthI l k).2.2.1,.slice aj nj cj]] wy fun e w'=>e=.returned (.int .i64 (partI (nthI l k)))∧Below wy.heap.size wy w'):=by
  intro k wx hk hb
  obtain⟨g1,o1,aj,cj,nj,ha,hg1,p1,p2,p3,p4,p5,p6,p7⟩:=HV.out.below hb k (by rw [HL.out];exact hk)
  refine⟨g1,o1,aj,cj,nj,ha,hg1,p1,p2,p3,p4,fun wy hy=>?_⟩
  have:=refPart_any (nthI l k) aj nj cj wy (p6.below hy) p5 (fun e=>by rw [← p5];exact HVAR.out k (by rw [HL.out];exact hk) e)
  unfold instV at this
  exact this
 clear hl hv hr hvar
 obtain⟨g1,o1,aj,cj,nj,ha,hg1,p1,p2,p3,p4,hC⟩:=HP.out m w hm (Below.refl _ _)
 subst ha
 rw [hp] at hC
 have hm0:(0:Int)≤(m:Int):=by omega
 have hmi:(m:Int)<(n:Int):=by omega
 have hC':=hC w (Below.refl _ _)
 clear hC
 go_enter Tryz.func65,Tryz.ntmps65
 go_wp2_with fail
 refine hC'.mono ?_
 rintro e w1 ⟨rfl,hb1⟩
 have HB1:=hide hb1
 clear hC' p1 p2 p3 p4 hb1
 go_wp2_with fail
 go_loopw [6,7] (fun d i wr=>∃ k:Nat,k≤m∧i=.int .i64 k∧d=.int .i64 (modelsN l k)∧overP l p k=false∧Below w.heap.size w wr) (fun _ i _=>m - (intOf i).toNat)
 case atStart=>exact⟨0,Nat.zero_le _,rfl,rfl,rfl,HB1.out⟩
 case round =>
  obtain⟨k,hk,rfl,rfl,hov,hbr⟩:=hrel
  have HOV:=hide hov
  have HB:=hide hbr
  have hml:=modelsN_le l k
  clear hov
  by_cases hlt:k<m
  ·have hk0:(0:Int)≤(k:Int):=by omega
   have hki:(k:Int)<(n:Int):=by omega
   have hkm:(k:Int)<(m:Int):=by omega
   obtain⟨g2,o2,aj2,cj2,nj2,ha2,hg2,q1,q2,q3,q4,hC⟩:=HP.out k wr (by omega) hbr
   injection ha2 with e1
   injection e1 with e1 e2
   subst e1
   subst e2
   have HC:=hide hC
   clear hC hbr
   have hMn:Hid (modelsN l (k+1)=modelsN l k+(if partI (nthI l k)=1 then 1 else 0)):=rfl
   have hOn:Hid (overP l p (k+1)=(overP l p k || decide (p<partI (nthI l k)))):=rfl
   have hOa:Hid (p<partI (nthI l k)→overP l p m=true):=fun h=>overP_at hlt h
   generalize modelsN l k=d at *
   generalize hq:partI (nthI l k)=q at *
   have hC':=HC.out wr (Below.refl _ _)
   by_cases hpq:p<q
   ·obtain rfl:r=false:=by rw [HR.out,hOa.out hpq];rfl
    clear hOn hMn hOa HR HP
    go_wp2_with fail
    refine hC'.mono ?_
    rintro e w2 ⟨rfl,hb2⟩
    have HB2:=hide (HB.out.trans (hb2.mono HB.out.size))
    clear hC' HC q1 q2 q3 q4 hb2
    go_wp2_with fail
    go_ret
    exact⟨rfl,HB2.out⟩
   ·have hO2:=hide (show overP l p (k+1)=false by rw [hOn.out,HOV.out];simpa using hpq)
    clear hOn hOa
    by_cases hq1:q=1
    ·have hM2:=hide (show modelsN l (k+1)=d+1 by rw [hMn.out,if_pos hq1])
     have hqq:(q==1)=true:=by simpa using hq1
     clear hMn
     go_wp2_with fail
     refine hC'.mono ?_
     rintro e w2 ⟨rfl,hb2⟩
     have HB2:=hide (HB.out.trans (hb2.mono HB.out.size))
     replace q1:=(hb2.cell (p:=⟨g1,o1+k * 4,none⟩) hg2).trans q1
     replace q2:=(hb2.cell (p:=⟨g1,o1+k * 4+1,none⟩) hg2).trans q2
     replace q3:=(hb2.cell (p:=⟨g1,o1+k * 4+2,none⟩) hg2).trans q3
     replace q4:=(hb2.cell (p:=⟨g1,o1+k * 4+3,none⟩) hg2).trans q4
     have hC2:=HC.out w2 hb2
     replace hg2:g1<w2.heap.size:=Nat.lt_of_lt_of_le hg2 hb2.size
     clear hC' HC hb2
     go_wp2_with fail
     refine hC2.mono ?_
     rintro e w3 ⟨rfl,hb3⟩
     have HB3:=hide (HB2.out.trans (hb3.mono HB2.out.size))
     clear hC2 q1 q2 q3 q4 hb3
     go_wp2_with fail
     go_roundw
     case rel=>exact⟨k+1,by omega,by go_num,by rw [hM2.out];go_num,hO2.out,HB3.out⟩
     case measure=>simp [intOf];omega
    ·have hM2:=hide (show modelsN l (k+1)=d by rw [hMn.out,if_neg hq1];rfl)
     have hqq:(q==1)=false:=by simpa using hq1
     clear hMn
     go_wp2_with fail
     refine hC'.mono ?_
     rintro e w2 ⟨rfl,hb2⟩
     have HB2:=hide (HB.out.trans (hb2.mono HB.out.size))
     replace q1:=(hb2.cell (p:=⟨g1,o1+k * 4,none⟩) hg2).trans q1
     replace q2:=(hb2.cell (p:=⟨g1,o1+k * 4+1,none⟩) hg2).trans q2
     replace q3:=(hb2.cell (p:=⟨g1,o1+k * 4+2,none⟩) hg2).trans q3
     replace q4:=(hb2.cell (p:=⟨g1,o1+k * 4+3,none⟩) hg2).trans q4
     have hC2:=HC.out w2 hb2
     replace hg2:g1<w2.heap.size:=Nat.lt_of_lt_of_le hg2 hb2.size
     clear hC' HC hb2
     go_wp2_with fail
     refine hC2.mono ?_
     rintro e w3 ⟨rfl,hb3⟩
     have HB3:=hide (HB2.out.trans (hb3.mono HB2.out.size))
     clear hC2 q1 q2 q3 q4 hb3
     go_wp2_with fail
     go_roundw
     case rel=>exact⟨k+1,by omega,by go_num,by rw [hM2.out],hO2.out,HB3.out⟩
     case measure=>simp [intOf];omega
  ·obtain rfl:k=m:=by omega
   have hr:=HR.out
   rw [HOV.out] at hr
   generalize modelsN l k=d at *
   clear HR HP HV HVAR HL HOV
   by_cases h1:p=1
   ·subst h1
    obtain rfl:r=((d:Int)==0):=by rw [hr];by_cases e:d=0 <;> simp [e]
    clear hr
    go_wp2_with fail
    go_ret
    exact⟨rfl,HB.out⟩
   ·rw [if_neg h1] at hr
    have h1':(p==1)=false:=by simpa using h1
    by_cases h2:1<p
    ·by_cases h0:d=0
     ·subst h0
      obtain rfl:r=false:=by rw [hr];simp [h2]
      clear hr
      go_wp2_with fail
      go_ret
      exact⟨rfl,HB.out⟩
     ·have hd:((d:Int)==0)=false:=by simpa using h0
      obtain rfl:r=true:=by rw [hr];simp [h0]
      clear hr
      go_wp2_with fail
      go_ret
      exact⟨rfl,HB.out⟩
    ·obtain rfl:r=true:=by rw [hr];simp [h2]
     clear hr
     go_wp2_with fail
     go_ret
     exact⟨rfl,HB.out⟩
set_option maxHeartbeats 2000000 in
theorem refFirst_any (l:List InstT) (a:Option Addr) (n c m j:Nat) (w:World) (hv:InstsV w a l) (hl:l.length=n) (hn:n≤140737488351232) (hj1:1≤j) (hjm:j≤m) (hm:m<n) (hop:(nthI l j).1=248) (hno:∀ i,j<i→i≤m→(nthI l i).1≠248) :
  Calls Tryz.prog 118 #[.slice a n c,.int .i64 m] w fun e w'=>e=.returned (.bool (decide ((nthI l (j - 1)).1=54∨(nthI l (j - 1)).1=55)))∧Below w.heap.size w w':=by
 obtain⟨r,hr⟩:∃ r,r=decide ((nthI l (j - 1)).1=54∨(nthI l (j - 1)).1=55):=⟨_,rfl⟩
 rw [← hr]
 have HR:=hide hr
 clear hr
 have HL:=hide hl
 have HNO:=hide hno
 have HV:=hide hv
 clear hl hno hv
 go_enter Tryz.func118,Tryz.ntmps118
 go_wp2_with fail
 go_loopw [5] (fun i wr=>∃ k:Nat,j≤k∧k≤m∧i=.int .i64 k∧Below w.heap.size w wr) (fun i _=>(intOf i).toNat)
 case atStart=>exact⟨m,hjm,Nat.le_refl _,rfl,Below.refl _ _⟩
 case round =>
  obtain⟨k,hk,hkm,rfl,hbr⟩:=hrel
  have HB:=hide hbr
  obtain⟨g1,o1,aj,cj,nj,ha,hg1,p1,p2,p3,p4,p5,p6,p7⟩:=HV.out.below hbr k (by rw [HL.out];omega)
  obtain⟨g2,o2,aj2,cj2,nj2,ha2,hg2,q1,q2,q3,q4,q5,q6,q7⟩:=HV.out.below hbr (j - 1) (by rw [HL.out];omega)
  subst ha
  injection ha2 with e1
  injection e1 with e1 e2
  subst e1
  subst e2
  clear p2 p3 p4 p5 p6 p7 q2 q3 q4 q5 q6 q7 hg2 hbr
  have hk0:(0:Int)≤(k:Int):=by omega
  have hki:(k:Int)<(n:Int):=by omega
  by_cases he:k=j
  ·subst he
   rw [hop] at p1
   generalize (nthI l (k - 1)).1=y at *
   have hk1:(k:Int) - 1=((k - 1:Nat):Int):=by omega
   have hk2:(0:Int)≤((k - 1:Nat):Int):=by omega
   have hk3:((k - 1:Nat):Int)<(n:Int):=by omega
   have HRY:Hid (r=(y==54 || y==55)):=by rw [HR.out];simp [Bool.decide_or];rfl
   by_cases h54:y=54
   ·subst h54
    obtain rfl:r=true:=by rw [HRY.out];rfl
    go_wp2_with fail
    go_ret
    exact⟨rfl,HB.out⟩
   ·have h5:(y==54)=false:=by simpa using h54
    obtain rfl:r=(y==55):=by rw [HRY.out,h5];rfl
    go_wp2_with fail
    go_ret
    exact⟨rfl,HB.out⟩
  ·have hne:=HNO.out k (by omega) hkm
   generalize (nthI l k).1=x at *
   have hxx:(x==248)=false:=by simpa using hne
   clear q1
   go_wp2_with fail
   go_roundw
   case rel=>exact⟨k - 1,by omega,by omega,by rw [show (k:Int) - 1=((k - 1:Nat):Int) by omega],HB.out⟩
   case measure=>simp [intOf];omega
set_option maxHeartbeats 8000000 in
theorem refMay_high (l:List InstT) (a:Option Addr) (n c m:Nat) (w:World) (hv:InstsV w a l) (hl:l.length=n) (hn:n≤140737488351232) (hvar:VarsOk l) (hm:m<n) (p:Int) (hp:partI (nthI l m)=p) (h8:8≤p) (hblk:aheadO l m=248∨aheadO l m=245∨aheadO l m=59→(nthI l (blockAt l (m - 1))).1=248∧1≤blockAt l (m - 1)) (r:Bool) (hr:r=(!overP l p m && (!decide (modelsN l m=0) && mayF (nthI l m).1 (aheadO l m) (firstB l (m - 1))))) :
  Calls Tryz.prog 65 #[.slice a n c,.int .i64 m] w fun e w'=>e=.returned (.bool r)∧Below w.heap.size w w':=by
 have HL:=hide hl
 have HV:=hide hv
 have HR:=hide hr
 have HBLK:=hide hblk
 clear hblk
 have HFI:Hid (0<m→(aheadO l m=248∨aheadO l m=245∨aheadO l m=59)→∀ wx,Below w.heap.size w wx→Calls Tryz.prog 118 #[.slice a n c,.int .i64 ((m - 1:Nat):Int)] wx fun e w'=>e=.returned (.bool (firstB l (m - 1)))∧Below wx.heap.size wx w'):=fun hm0 hah wx hb=>refFirst_any l a n c (m - 1) (blockAt l (m - 1)) wx (hv.below hb) hl hn (HBLK.out hah).2 (blockAt_le l _) (by omega) (HBLK.out hah).1 (blockAt_no l _)
 have HVAR:=hide hvar
 have HP:Hid (∀ (k:Nat) (wx:World),k<n→Below w.heap.size w wx→∃ b off aj cj nj,a=some ⟨b,off,none⟩∧b<wx.heap.size∧wx.cell? ⟨b,off+k * 4,none⟩=some (.int .u16 (nthI l k).1)∧wx.cell? ⟨b,off+k * 4+1,none⟩=some (.int .u32 (nthI l k).2.1)∧wx.cell? ⟨b,off+k * 4+2,none⟩=some (.int .u32 (nthI l k).2.2.1)∧wx.cell? ⟨b,off+k * 4+3,none⟩=some (.slice aj nj cj) ∧
   ∀ wy,Below wx.heap.size wx wy→Calls Tryz.prog 66 #[.agg #[.int .u16 (nthI l k).1,.int .u32 (nthI l k).2.1,.int .u32 (nthI l k).2.2.1,.slice aj nj cj]] wy fun e w'=>e=.returned (.int .i64 (partI (nthI l k)))∧Below wy.heap.size wy w'):=by
  intro k wx hk hb
  obtain⟨g1,o1,aj,cj,nj,ha,hg1,p1,p2,p3,p4,p5,p6,p7⟩:=HV.out.below hb k (by rw [HL.out];exact hk)
  refine⟨g1,o1,aj,cj,nj,ha,hg1,p1,p2,p3,p4,fun wy hy=>?_⟩
  have:=refPart_any (nthI l k) aj nj cj wy (p6.below hy) p5 (fun e=>by rw [← p5];exact HVAR.out k (by rw [HL.out];exact hk) e)
  unfold instV at this
  exact this
 clear hl hv hr hvar
 obtain⟨g1,o1,aj,cj,nj,ha,hg1,p1,p2,p3,p4,hC⟩:=HP.out m w hm (Below.refl _ _)
 subst ha
 rw [hp] at hC
 have hm0:(0:Int)≤(m:Int):=by omega
 have hmi:(m:Int)<(n:Int):=by omega
 have hC':=hC w (Below.refl _ _)
 clear hC
 go_enter Tryz.func65,Tryz.ntmps65
 go_wp2_with fail
 refine hC'.mono ?_
 rintro e w1 ⟨rfl,hb1⟩
 have HB1:=hide hb1
 clear hC' p1 p2 p3 p4 hb1
 go_wp2_with fail
 go_loopw [6,7] (fun d i wr=>∃ k:Nat,k≤m∧i=.int .i64 k∧d=.int .i64 (modelsN l k)∧overP l p k=false∧Below w.heap.size w wr) (fun _ i _=>m - (intOf i).toNat)
 case atStart=>exact⟨0,Nat.zero_le _,rfl,rfl,rfl,HB1.out⟩
 case round =>
  obtain⟨k,hk,rfl,rfl,hov,hbr⟩:=hrel
  have HOV:=hide hov
  have HB:=hide hbr
  have hml:=modelsN_le l k
  clear hov
  by_cases hlt:k<m
  ·have hk0:(0:Int)≤(k:Int):=by omega
   have hki:(k:Int)<(n:Int):=by omega
   have hkm:(k:Int)<(m:Int):=by omega
   obtain⟨g2,o2,aj2,cj2,nj2,ha2,hg2,q1,q2,q3,q4,hC⟩:=HP.out k wr (by omega) hbr
   injection ha2 with e1
   injection e1 with e1 e2
   subst e1
   subst e2
   have HC:=hide hC
   clear hC hbr
   have hMn:Hid (modelsN l (k+1)=modelsN l k+(if partI (nthI l k)=1 then 1 else 0)):=rfl
   have hOn:Hid (overP l p (k+1)=(overP l p k || decide (p<partI (nthI l k)))):=rfl
   have hOa:Hid (p<partI (nthI l k)→overP l p m=true):=fun h=>overP_at hlt h
   generalize modelsN l k=d at *
   generalize hq:partI (nthI l k)=q at *
   have hC':=HC.out wr (Below.refl _ _)
   by_cases hpq:p<q
   ·obtain rfl:r=false:=by rw [HR.out,hOa.out hpq];rfl
    clear hOn hMn hOa HR HP
    go_wp2_with fail
    refine hC'.mono ?_
    rintro e w2 ⟨rfl,hb2⟩
    have HB2:=hide (HB.out.trans (hb2.mono HB.out.size))
    clear hC' HC q1 q2 q3 q4 hb2
    go_wp2_with fail
    go_ret
    exact⟨rfl,HB2.out⟩
   ·have hO2:=hide (show overP l p (k+1)=false by rw [hOn.out,HOV.out];simpa using hpq)
    clear hOn hOa
    by_cases hq1:q=1
    ·have hM2:=hide (show modelsN l (k+1)=d+1 by rw [hMn.out,if_pos hq1])
     have hqq:(q==1)=true:=by simpa using hq1
     clear hMn
     go_wp2_with fail
     refine hC'.mono ?_
     rintro e w2 ⟨rfl,hb2⟩
     have HB2:=hide (HB.out.trans (hb2.mono HB.out.size))
     replace q1:=(hb2.cell (p:=⟨g1,o1+k * 4,none⟩) hg2).trans q1
     replace q2:=(hb2.cell (p:=⟨g1,o1+k * 4+1,none⟩) hg2).trans q2
     replace q3:=(hb2.cell (p:=⟨g1,o1+k * 4+2,none⟩) hg2).trans q3
     replace q4:=(hb2.cell (p:=⟨g1,o1+k * 4+3,none⟩) hg2).trans q4
     have hC2:=HC.out w2 hb2
     replace hg2:g1<w2.heap.size:=Nat.lt_of_lt_of_le hg2 hb2.size
     clear hC' HC hb2
     go_wp2_with fail
     refine hC2.mono ?_
     rintro e w3 ⟨rfl,hb3⟩
     have HB3:=hide (HB2.out.trans (hb3.mono HB2.out.size))
     clear hC2 q1 q2 q3 q4 hb3
     go_wp2_with fail
     go_roundw
     case rel=>exact⟨k+1,by omega,by go_num,by rw [hM2.out];go_num,hO2.out,HB3.out⟩
     case measure=>simp [intOf];omega
    ·have hM2:=hide (show modelsN l (k+1)=d by rw [hMn.out,if_neg hq1];rfl)
     have hqq:(q==1)=false:=by simpa using hq1
     clear hMn
     go_wp2_with fail
     refine hC'.mono ?_
     rintro e w2 ⟨rfl,hb2⟩
     have HB2:=hide (HB.out.trans (hb2.mono HB.out.size))
     replace q1:=(hb2.cell (p:=⟨g1,o1+k * 4,none⟩) hg2).trans q1
     replace q2:=(hb2.cell (p:=⟨g1,o1+k * 4+1,none⟩) hg2).trans q2
     replace q3:=(hb2.cell (p:=⟨g1,o1+k * 4+2,none⟩) hg2).trans q3
     replace q4:=(hb2.cell (p:=⟨g1,o1+k * 4+3,none⟩) hg2).trans q4
     have hC2:=HC.out w2 hb2
     replace hg2:g1<w2.heap.size:=Nat.lt_of_lt_of_le hg2 hb2.size
     clear hC' HC hb2
     go_wp2_with fail
     refine hC2.mono ?_
     rintro e w3 ⟨rfl,hb3⟩
     have HB3:=hide (HB2.out.trans (hb3.mono HB2.out.size))
     clear hC2 q1 q2 q3 q4 hb3
     go_wp2_with fail
     go_roundw
     case rel=>exact⟨k+1,by omega,by go_num,by rw [hM2.out],hO2.out,HB3.out⟩
     case measure=>simp [intOf];omega
  ·obtain rfl:k=m:=by omega
   have hr:=HR.out
   rw [HOV.out] at hr
   generalize modelsN l k=d at *
   clear HR HOV
   have h1':(p==1)=false:=by simpa using (show p≠1 by omega)
   have h2:1<p:=by omega
   have h9:¬ p<8:=by omega
   by_cases h0:d=0
   ·subst h0
    obtain rfl:r=false:=by rw [hr];simp
    clear hr HP HV HFI
    go_wp2_with fail
    go_ret
    exact⟨rfl,HB.out⟩
   ·have hd:((d:Int)==0)=false:=by simpa using h0
    have HRT:=hide (show r=mayF (nthI l k).1 (aheadO l k) (firstB l (k - 1)) by rw [hr];simp [h0])
    clear hr
    obtain⟨g2,o2,aj2,cj2,nj2,ha2,hg2,q1,q2,q3,q4,_⟩:=HP.out k wr (by omega) hbr
    injection ha2 with e1
    injection e1 with e1 e2
    subst e1
    subst e2
    clear q2 q3 q4
    generalize hop:(nthI l k).1=op at *
    have hkp:0<k:=by omega
    have hk1:(k:Int) - 1=((k - 1:Nat):Int):=by omega
    have hk2:(0:Int)≤((k - 1:Nat):Int):=by omega
    have hk3:((k - 1:Nat):Int)<(n:Int):=by omega
    have hk4:(0:Int)<(k:Int):=by omega
    obtain⟨g2,o2,aj3,cj3,nj3,ha2,_,y1,y2,y3,y4,hC⟩:=HP.out (k - 1) wr (by omega) hbr
    injection ha2 with e1
    injection e1 with e1 e2
    subst e1
    subst e2
    have hC':=hC wr (Below.refl _ _)
    have hAE:Hid (aheadO l k=if partI (nthI l (k - 1))=8 then (nthI l (k - 1)).1 else 0):=hide (by unfold aheadO;simp [hkp])
    have HFJ:=hide (HFI.out hkp)
    clear hC HFI HBLK HP HV HL HVAR hop
    generalize firstB l (k - 1)=fs at *
    generalize hq:partI (nthI l (k - 1))=q at *
    generalize nthI l (k - 1)=z at *
    generalize aheadO l k=ah at *
    go_wp2_with fail
    refine hC'.mono ?_
    rintro e w2 ⟨rfl,hb2⟩
    have HB2:=hide (hbr.trans (hb2.mono hbr.size))
    replace y1:=(hb2.cell (p:=⟨g1,o1+(k - 1) * 4,none⟩) hg2).trans y1
    replace hg2:g1<w2.heap.size:=Nat.lt_of_lt_of_le hg2 hb2.size
    clear hC' hb2 y2 y3 y4 q1
    by_cases hq8:q=8
    ·have hqq:(q==8)=true:=by simpa using hq8
     obtain rfl:ah=z.1:=by rw [hAE.out,if_pos hq8]
     clear hAE
     generalize z.1=ah at *
     by_cases c54:op=54
     ·subst c54
      by_cases a0:ah=0
      ·subst a0
       obtain rfl:r=true:=by rw [HRT.out];rfl
       clear HRT HFJ
       go_wp2_with fail
       go_ret
       exact⟨rfl,HB2.out⟩
      ·have a0':(ah==0)=false:=by simpa using a0
       obtain rfl:r=(ah==56):=by rw [HRT.out];simp [mayF,a0]
       clear HRT HFJ
       go_wp2_with fail
       go_ret
       exact⟨rfl,HB2.out⟩
     have c54':(op==54)=false:=by simpa using c54
     by_cases c55:op=55
     ·subst c55
      by_cases a54:ah=54
      ·subst a54
       obtain rfl:r=true:=by rw [HRT.out];rfl
       clear HRT HFJ
       go_wp2_with fail
       go_ret
       exact⟨rfl,HB2.out⟩
      ·have a54':(ah==54)=false:=by simpa using a54
       obtain rfl:r=(ah==55):=by rw [HRT.out];simp [mayF,a54]
       clear HRT HFJ
       go_wp2_with fail
       go_ret
       exact⟨rfl,HB2.out⟩
     have c55':(op==55)=false:=by simpa using c55
     by_cases c248:op=248
     ·subst c248
      by_cases a54:ah=54
      ·subst a54
       obtain rfl:r=true:=by rw [HRT.out];rfl
       clear HRT HFJ
       go_wp2_with fail
       go_ret
       exact⟨rfl,HB2.out⟩
      have a54':(ah==54)=false:=by simpa using a54
      by_cases a55:ah=55
      ·subst a55
       obtain rfl:r=true:=by rw [HRT.out];rfl
       clear HRT HFJ
       go_wp2_with fail
       go_ret
       exact⟨rfl,HB2.out⟩
      have a55':(ah==55)=false:=by simpa using a55
      obtain rfl:r=endsB ah:=by rw [HRT.out];simp [mayF,a54,a55]
      clear HRT HFJ
      go_wp2_with fail
      refine (refEnds_any _ w2).mono ?_
      rintro e w3 ⟨rfl,rfl⟩
      go_wp2_with fail
      go_ret
      exact⟨rfl,HB2.out⟩
     have c248':(op==248)=false:=by simpa using c248
     by_cases c56:op=56
     ·subst c56
      obtain rfl:r=endsB ah:=by rw [HRT.out];rfl
      clear HRT HFJ
      go_wp2_with fail
      refine (refEnds_any _ w2).mono ?_
      rintro e w3 ⟨rfl,rfl⟩
      go_wp2_with fail
      go_ret
      exact⟨rfl,HB2.out⟩
     have c56':(op==56)=false:=by simpa using c56
     by_cases a0:ah=0
     ·subst a0
      obtain rfl:r=false:=by rw [HRT.out];simp [mayF,c54,c55,c248,c56]
      clear HRT HFJ
      go_wp2_with fail
      go_ret
      exact⟨rfl,HB2.out⟩
     have a0':(ah==0)=false:=by simpa using a0
     by_cases a54:ah=54
     ·subst a54
      obtain rfl:r=false:=by rw [HRT.out];simp [mayF,c54,c55,c248,c56]
      clear HRT HFJ
      go_wp2_with fail
      go_ret
      exact⟨rfl,HB2.out⟩
     have a54':(ah==54)=false:=by simpa using a54
     by_cases a55:ah=55
     ·subst a55
      obtain rfl:r=false:=by rw [HRT.out];simp [mayF,c54,c55,c248,c56]
      clear HRT HFJ
      go_wp2_with fail
      go_ret
      exact⟨rfl,HB2.out⟩
     have a55':(ah==55)=false:=by simpa using a55
     by_cases a56:ah=56
     ·subst a56
      obtain rfl:r=false:=by rw [HRT.out];simp [mayF,c54,c55,c248,c56]
      clear HRT HFJ
      go_wp2_with fail
      go_ret
      exact⟨rfl,HB2.out⟩
     have a56':(ah==56)=false:=by simpa using a56
     cases hE:endsB ah with
     | true =>
      obtain rfl:r=false:=by rw [HRT.out];simp [mayF,c54,c55,c248,c56,hE]
      clear HRT HFJ
      go_wp2_with fail
      refine (refEnds_any _ w2).mono ?_
      rintro e w3 ⟨rfl,rfl⟩
      rw [hE]
      go_wp2_with fail
      go_ret
      exact⟨rfl,HB2.out⟩
     | false =>
      by_cases c245:op=245
      ·subst c245
       by_cases b248:ah=248
       ·subst b248
        obtain rfl:r=!fs:=by rw [HRT.out];simp [mayF,hE]
        have HF:=hide (HFJ.out (by omega) _ HB2.out)
        clear HRT HFJ
        have HE:=hide hE
        clear hE
        go_wp2_with fail
        refine (refEnds_any _ w2).mono ?_
        rintro e w3 ⟨rfl,rfl⟩
        rw [HE.out]
        go_wp2_with fail
        refine HF.out.mono ?_
        rintro e w4 ⟨rfl,hb4⟩
        have HB4:=hide (HB2.out.trans (hb4.mono HB2.out.size))
        clear HF hb4
        go_wp2_with fail
        go_ret
        exact⟨rfl,HB4.out⟩
       have b248':(ah==248)=false:=by simpa using b248
       by_cases b245:ah=245
       ·subst b245
        obtain rfl:r=!fs:=by rw [HRT.out];simp [mayF,hE]
        have HF:=hide (HFJ.out (by omega) _ HB2.out)
        clear HRT HFJ
        have HE:=hide hE
        clear hE
        go_wp2_with fail
        refine (refEnds_any _ w2).mono ?_
        rintro e w3 ⟨rfl,rfl⟩
        rw [HE.out]
        go_wp2_with fail
        refine HF.out.mono ?_
        rintro e w4 ⟨rfl,hb4⟩
        have HB4:=hide (HB2.out.trans (hb4.mono HB2.out.size))
        clear HF hb4
        go_wp2_with fail
        go_ret
        exact⟨rfl,HB4.out⟩
       have b245':(ah==245)=false:=by simpa using b245
       obtain rfl:r=false:=by rw [HRT.out];simp [mayF,hE,b248,b245]
       clear HRT HFJ
       have HE:=hide hE
       clear hE
       go_wp2_with fail
       refine (refEnds_any _ w2).mono ?_
       rintro e w3 ⟨rfl,rfl⟩
       rw [HE.out]
       go_wp2_with fail
       go_ret
       exact⟨rfl,HB2.out⟩
      have c245':(op==245)=false:=by simpa using c245
      by_cases c59:op=59
      ·subst c59
       by_cases b248:ah=248
       ·subst b248
        obtain rfl:r=fs:=by rw [HRT.out];simp [mayF,hE]
        have HF:=hide (HFJ.out (by omega) _ HB2.out)
        clear HRT HFJ
        have HE:=hide hE
        clear hE
        go_wp2_with fail
        refine (refEnds_any _ w2).mono ?_
        rintro e w3 ⟨rfl,rfl⟩
        rw [HE.out]
        go_wp2_with fail
        refine HF.out.mono ?_
        rintro e w4 ⟨rfl,hb4⟩
        have HB4:=hide (HB2.out.trans (hb4.mono HB2.out.size))
        clear HF hb4
        go_wp2_with fail
        go_ret
        exact⟨rfl,HB4.out⟩
       have b248':(ah==248)=false:=by simpa using b248
       by_cases b59:ah=59
       ·subst b59
        obtain rfl:r=fs:=by rw [HRT.out];simp [mayF,hE]
        have HF:=hide (HFJ.out (by omega) _ HB2.out)
        clear HRT HFJ
        have HE:=hide hE
        clear hE
        go_wp2_with fail
        refine (refEnds_any _ w2).mono ?_
        rintro e w3 ⟨rfl,rfl⟩
        rw [HE.out]
        go_wp2_with fail
        refine HF.out.mono ?_
        rintro e w4 ⟨rfl,hb4⟩
        have HB4:=hide (HB2.out.trans (hb4.mono HB2.out.size))
        clear HF hb4
        go_wp2_with fail
        go_ret
        exact⟨rfl,HB4.out⟩
       have b59':(ah==59)=false:=by simpa using b59
       obtain rfl:r=false:=by rw [HRT.out];simp [mayF,hE,b248,b59]
       clear HRT HFJ
       have HE:=hide hE
       clear hE
       go_wp2_with fail
       refine (refEnds_any _ w2).mono ?_
       rintro e w3 ⟨rfl,rfl⟩
       rw [HE.out]
       go_wp2_with fail
       go_ret
       exact⟨rfl,HB2.out⟩
      have c59':(op==59)=false:=by simpa using c59
      by_cases b246:ah=246
      ·subst b246
       by_cases d249:op=249
       ·subst d249
        obtain rfl:r=true:=by rw [HRT.out];rfl
        clear HRT HFJ
        have HE:=hide hE
        clear hE
        go_wp2_with fail
        refine (refEnds_any _ w2).mono ?_
        rintro e w3 ⟨rfl,rfl⟩
        rw [HE.out]
        go_wp2_with fail
        go_ret
        exact⟨rfl,HB2.out⟩
       ·have d249':(op==249)=false:=by simpa using d249
        obtain rfl:r=(op==250):=by rw [HRT.out];simp [mayF,hE,c54,c55,c248,c56,c245,c59,d249]
        clear HRT HFJ
        have HE:=hide hE
        clear hE
        go_wp2_with fail
        refine (refEnds_any _ w2).mono ?_
        rintro e w3 ⟨rfl,rfl⟩
        rw [HE.out]
        go_wp2_with fail
        go_ret
        exact⟨rfl,HB2.out⟩
      have b246':(ah==246)=false:=by simpa using b246
      by_cases b247:ah=247
      ·subst b247
       by_cases d250:op=250
       ·subst d250
        obtain rfl:r=true:=by rw [HRT.out];rfl
        clear HRT HFJ
        have HE:=hide hE
        clear hE
        go_wp2_with fail
        refine (refEnds_any _ w2).mono ?_
        rintro e w3 ⟨rfl,rfl⟩
        rw [HE.out]
        go_wp2_with fail
        go_ret
        exact⟨rfl,HB2.out⟩
       ·have d250':(op==250)=false:=by simpa using d250
        obtain rfl:r=(op==251):=by rw [HRT.out];simp [mayF,hE,c54,c55,c248,c56,c245,c59,d250]
        clear HRT HFJ
        have HE:=hide hE
        clear hE
        go_wp2_with fail
        refine (refEnds_any _ w2).mono ?_
        rintro e w3 ⟨rfl,rfl⟩
        rw [HE.out]
        go_wp2_with fail
        go_ret
        exact⟨rfl,HB2.out⟩
      have b247':(ah==247)=false:=by simpa using b247
      obtain rfl:r=true:=by rw [HRT.out];simp [mayF,hE,c54,c55,c248,c56,c245,c59,a0,a54,a55,a56,b246,b247]
      clear HRT HFJ
      have HE:=hide hE
      clear hE
      go_wp2_with fail
      refine (refEnds_any _ w2).mono ?_
      rintro e w3 ⟨rfl,rfl⟩
      rw [HE.out]
      go_wp2_with fail
      go_ret
      exact⟨rfl,HB2.out⟩
    ·have hqq:(q==8)=false:=by simpa using hq8
     obtain rfl:ah=0:=by rw [hAE.out,if_neg hq8]
     clear hAE y1
     by_cases c54:op=54
     ·subst c54
      obtain rfl:r=true:=by rw [HRT.out];rfl
      clear HRT HFJ
      go_wp2_with fail
      go_ret
      exact⟨rfl,HB2.out⟩
     have c54':(op==54)=false:=by simpa using c54
     by_cases c55:op=55
     ·subst c55
      obtain rfl:r=false:=by rw [HRT.out];rfl
      clear HRT HFJ
      go_wp2_with fail
      go_ret
      exact⟨rfl,HB2.out⟩
     have c55':(op==55)=false:=by simpa using c55
     have hE:endsB 0=false:=rfl
     by_cases c248:op=248
     ·subst c248
      obtain rfl:r=false:=by rw [HRT.out];rfl
      clear HRT HFJ
      go_wp2_with fail
      refine (refEnds_any 0 w2).mono ?_
      rintro e w3 ⟨rfl,rfl⟩
      rw [hE]
      go_wp2_with fail
      go_ret
      exact⟨rfl,HB2.out⟩
     have c248':(op==248)=false:=by simpa using c248
     by_cases c56:op=56
     ·subst c56
      obtain rfl:r=false:=by rw [HRT.out];rfl
      clear HRT HFJ
      go_wp2_with fail
      refine (refEnds_any 0 w2).mono ?_
      rintro e w3 ⟨rfl,rfl⟩
      rw [hE]
      go_wp2_with fail
      go_ret
      exact⟨rfl,HB2.out⟩
     have c56':(op==56)=false:=by simpa using c56
     obtain rfl:r=false:=by rw [HRT.out];simp [mayF,c54,c55,c248,c56]
     clear HRT HFJ
     go_wp2_with fail
     go_ret
     exact⟨rfl,HB2.out⟩
theorem wrongA_eq (c:Int) (x:ArgT) (b:Int):wrongA c x b=if mayStandB c x=false then 42 else if x.1=1∧noneB x.2.1 b=true then 43 else if x.1=4∧enumB c x.2.1=false then 31 else if nulS x.2.2 then 13 else 0:=by
 unfold wrongA
 by_cases hm:mayStandB c x=false
 ·simp [hm]
 ·have hk:kindI c=x.1:=by simp [mayStandB] at hm;exact hm.2.1.symm
  unfold faultW
  rw [hk,if_neg hm,if_neg hm]
  by_cases h3:x.1=3
  ·simp [h3]
  ·have hs:x.2.2=ByteArray.empty:=by simp [mayStandB,h3] at hm;exact hm.2.2
   have hn:nulS x.2.2=false:=by rw [hs];rfl
   by_cases h1:x.1=1
   ·cases hb:noneB x.2.1 b <;> simp [h1,hn]
   ·by_cases h4:x.1=4
    ·cases hb:enumB c x.2.1 <;> simp [h4,hn]
    ·simp [h1,h3,h4,hn]
theorem nul_first {s:ByteArray} {k:Nat} (hk:k<s.size) (h:(s[k].toNat:Int)=0):nulS s=true:=by
 cases e:nulS s with
 | true=>rfl
 | false=>exact absurd (by rw [nth_strI s k hk];exact h) ((nulS_false.1 e) k hk)
theorem nul_not {s:ByteArray} (h:∀ j,(hj:j<s.size)→(s[j].toNat:Int)≠0):nulS s=false:=nulS_false.2 fun k hk=>by rw [nth_strI s k hk];exact h k hk
set_option maxHeartbeats 4000000 in
theorem refWrong4_any (c:Int) (x:ArgT) (b:Int) (w:World) (hok:ArgOk x) (b0:0≤b) (b1:b<4294967296) :
  Calls Tryz.prog 153 #[.int .u8 c,argV x,.int .u32 b] w fun e w'=>e=.returned (.int .i64 (wrongA c x b))∧Below w.heap.size w w':=by
 obtain⟨R,hR⟩:∃ R,R=wrongA c x b:=⟨_,rfl⟩
 rw [← hR]
 rw [wrongA_eq] at hR
 obtain⟨x1,x2,x3⟩:=x
 simp only at hR
 have HR:=hide hR
 clear hR
 obtain⟨g0,g1,g2,g3,g4⟩:=hok
 simp only at g0 g1 g2 g3 g4
 have hNo:=fun wx=>none_any x2 b wx g2 g3 b0 b1
 have hEn:=fun wx=>refEnum_any c x2 wx
 unfold argV
 simp only
 have hba:Below w.heap.size w (w.alloc (.cells #[.int .u8 x1,.int .u32 x2,.string x3] 105)):=(Below.refl _ w).alloc (Nat.le_refl _) _
 have kB:(w.alloc (.cells #[.int .u8 x1,.int .u32 x2,.string x3] 105)).heap[w.heap.size]?=some (.cells #[.int .u8 x1,.int .u32 x2,.string x3] 105 (0,0)):=alloc_new w _ _
 have hsz:w.heap.size<(w.alloc (.cells #[.int .u8 x1,.int .u32 x2,.string x3] 105)).heap.size:=by simp
 have hKd:=fun wx=>refKind_any c wx
 go_enter Tryz.func153,Tryz.ntmps153
 go_wp2_with fail
 generalize w.alloc (.cells #[.int .u8 x1,.int .u32 x2,.string x3] 105)=W at *
 have a0:=fun s:InC (Below W.heap.size W)=>s.cell (p:=⟨w.heap.size,0,none⟩) hsz ((one_block kB).1 0)
 have hK:=fun s:InC (Below W.heap.size W)=>Calls.inC s (hKd s.w)
 have hne:Nonempty (InC (Below W.heap.size W)):=⟨⟨W,Below.refl _ _⟩⟩
 have hbl:=below_drew W
 clear hKd g0 g1 g2 g3 b0 b1
 by_cases h0:c=0
 ·subst h0
  refine wp_region_class (C:=Below W.heap.size W) (by kernel_rfl) (by kernel_rfl) hbl ?_
  repeat (go_big_quiet_step (fail))
  refine wpQuiet_nil ?_
  rintro _ ⟨s,rfl⟩
  have hfin:=hba.trans (s.ok.mono (by omega))
  clear hne hK a0 hNo hEn
  go_wp2
  go_ret
  exact⟨by rw [HR.out,if_pos (by simp [mayStandB])];rfl,hfin⟩
 ·have h0':(c==0)=false:=by simpa using h0
  by_cases hk:x1=kindI c
  ·have hk':(x1 != kindI c)=false:=by simp [hk]
   refine wp_region_class (C:=Below W.heap.size W) (by kernel_rfl) (by kernel_rfl) hbl ?_
   repeat (go_big_quiet_step ((go_at_call 158;exact hK _)))
   refine wpQuiet_nil ?_
   rintro _ ⟨s,rfl⟩
   have hb1:=hba.trans (s.ok.mono (by omega))
   have kB1:=(s.ok.block _ hsz).trans kB
   have hs1:w.heap.size<s.w.heap.size:=Nat.lt_of_lt_of_le hsz s.ok.size
   clear hne hK a0 hba kB hsz hbl
   generalize s.w=W1 at *
   have c0:=(one_block kB1).1 0
   have c1:=(one_block kB1).1 1
   have c2:=(one_block kB1).1 2
   have HM:=hide (show mayStandB c (x1,x2,x3)=(if x1=3 then x2==0 else x3.size==0) by simp [mayStandB,h0,hk])
   have hemp:=empty_size x3
   clear hk hk' h0 h0' kB1
   by_cases h3:x1=3
   ·subst h3
    by_cases h2:x2=0
    ·subst h2
     go_wp2_with fail
     refine (hEn _).mono ?_
     rintro e w2 ⟨rfl,hb2⟩
     have k0:=hb2.cell (p:=⟨w.heap.size,0,none⟩) hs1
     rw [c0] at k0
     have k2:=hb2.cell (p:=⟨w.heap.size,2,none⟩) hs1
     rw [c2] at k2
     have hb:=hb1.trans (hb2.mono (by omega))
     clear c0 c1 c2 hb2 hb1 hNo hEn
     go_wp2
     go_loop [9] (fun i=>∃ k:Nat,k≤x3.size∧i=.int .i64 k∧Hid (∀ j,(hj:j<x3.size)→j<k→(x3[j].toNat:Int)≠0)) (fun i=>x3.size - (intOf i).toNat)
     case atStart=>exact⟨0,Nat.zero_le _,rfl,fun j hj h=>by omega⟩
     case round =>
      obtain⟨k,hkk,rfl,HJ⟩:=hrel
      by_cases hlt:k<x3.size
      ·have hki:(k:Int)<(x3.size:Int):=by omega
       have hk0:(0:Int)≤(k:Int):=by omega
       by_cases hn:(x3[k].toNat:Int)=0
       ·have hn':((x3[k].toNat:Int)==0)=true:=by simpa using hn
        go_wp2
        go_ret
        exact⟨by rw [HR.out,HM.out];simp [nul_first hlt hn],hb⟩
       ·have hn':((x3[k].toNat:Int)==0)=false:=by simpa using hn
        go_wp2
        go_round
        case rel=>exact⟨k+1,by omega,by go_num,fun j hj h=>if e:j=k then (by subst e;exact hn) else HJ.out j hj (by omega)⟩
        case measure=>simp [intOf];omega
      ·obtain rfl:k=x3.size:=by omega
       go_wp2
       go_ret
       exact⟨by rw [HR.out,HM.out];simp [nul_not fun j hj=>HJ.out j hj hj],hb⟩
    ·have h2':(x2 != 0)=true:=by simp [h2]
     go_wp2
     go_ret
     exact⟨by rw [HR.out,HM.out];simp [h2],hb1⟩
   ·have h3':(x1==3)=false:=by simpa using h3
    have h3n:(x1 != 3)=true:=by simp [h3]
    by_cases hz:x3.size=0
    ·obtain rfl:=size_zero hz
     have hm:mayStandB c (x1,x2,⟨#[]⟩)=true:=by rw [HM.out,if_neg h3];rfl
     by_cases h1:x1=1
     ·subst h1
      cases hnb:noneB x2 b
      ·rw [hnb] at hNo
       go_wp2_with (go_at_call 176;refine (hNo _).mono ?_;rintro e w' ⟨rfl,rfl⟩)
       refine (hEn _).mono ?_
       rintro e w2 ⟨rfl,hb2⟩
       have k0:=hb2.cell (p:=⟨w.heap.size,0,none⟩) hs1
       rw [c0] at k0
       have k2:=hb2.cell (p:=⟨w.heap.size,2,none⟩) hs1
       rw [c2] at k2
       have hb:=hb1.trans (hb2.mono (by omega))
       clear c0 c1 c2 hb2 hb1 hNo hEn
       go_wp2
       go_loop [9] (fun i=>i=.int .i64 0) (fun i=>0)
       case atStart=>rfl
       case round =>
        subst hrel
        go_wp2
        go_ret
        exact⟨by rw [HR.out];simp [hm,hnb,nulS_empty],hb⟩
      ·rw [hnb] at hNo
       go_wp2_with (go_at_call 176;refine (hNo _).mono ?_;rintro e w' ⟨rfl,rfl⟩)
       go_ret
       exact⟨by rw [HR.out];simp [hm,hnb],hb1⟩
     ·have h1':(x1==1)=false:=by simpa using h1
      by_cases h4:x1=4
      ·subst h4
       cases heb:enumB c x2
       ·rw [heb] at hEn
        go_wp2_with fail
        refine (hEn _).mono ?_
        rintro e w2 ⟨rfl,hb2⟩
        have kk:=hb2.cell (p:=⟨w.heap.size,0,none⟩) hs1
        rw [c0] at kk
        have hb:=hb1.trans (hb2.mono (by omega))
        clear c0 c1 c2 hb2
        go_wp2
        go_ret
        exact⟨by rw [HR.out];simp [hm,heb],hb⟩
       ·rw [heb] at hEn
        go_wp2_with fail
        refine (hEn _).mono ?_
        rintro e w2 ⟨rfl,hb2⟩
        have k0:=hb2.cell (p:=⟨w.heap.size,0,none⟩) hs1
        rw [c0] at k0
        have k2:=hb2.cell (p:=⟨w.heap.size,2,none⟩) hs1
        rw [c2] at k2
        have hb:=hb1.trans (hb2.mono (by omega))
        clear c0 c1 c2 hb2 hb1 hNo hEn
        go_wp2
        go_loop [9] (fun i=>i=.int .i64 0) (fun i=>0)
        case atStart=>rfl
        case round =>
         subst hrel
         go_wp2
         go_ret
         exact⟨by rw [HR.out];simp [hm,heb,nulS_empty],hb⟩
      ·have h4':(x1==4)=false:=by simpa using h4
       go_wp2_with fail
       refine (hEn _).mono ?_
       rintro e w2 ⟨rfl,hb2⟩
       have k0:=hb2.cell (p:=⟨w.heap.size,0,none⟩) hs1
       rw [c0] at k0
       have k2:=hb2.cell (p:=⟨w.heap.size,2,none⟩) hs1
       rw [c2] at k2
       have hb:=hb1.trans (hb2.mono (by omega))
       clear c0 c1 c2 hb2 hb1 hNo hEn
       go_wp2
       go_loop [9] (fun i=>i=.int .i64 0) (fun i=>0)
       case atStart=>rfl
       case round =>
        subst hrel
        go_wp2
        go_ret
        exact⟨by rw [HR.out];simp [hm,h1,h4,nulS_empty],hb⟩
    ·have hz':(x3.size==0)=false:=by simpa using hz
     go_wp2
     go_ret
     exact⟨by rw [HR.out,HM.out];simp [h3,hz],hb1⟩
  ·have hk':(x1 != kindI c)=true:=by simp [hk]
   refine wp_region_class (C:=Below W.heap.size W) (by kernel_rfl) (by kernel_rfl) hbl ?_
   repeat (go_big_quiet_step ((go_at_call 158;exact hK _)))
   refine wpQuiet_nil ?_
   rintro _ ⟨s,rfl⟩
   have hfin:=hba.trans (s.ok.mono (by omega))
   clear hne hK a0 hNo hEn
   go_wp2
   go_ret
   exact⟨by rw [HR.out,if_pos (by simp [mayStandB,hk])];rfl,hfin⟩

theorem refRoom_any (s:ByteArray) (w:World) (hs:s.size≤140737488351232) :
  Calls Tryz.prog 157 #[.string s] w fun e w'=>e=.returned (.int .i64 ((s.size / 4+1:Nat):Int))∧w=w':=by
 go_enter Tryz.func157,Tryz.ntmps157
 go_wp2
 go_ret
 exact⟨ret_int (by omega),rfl⟩
theorem words_le (l:List ArgT) (k:Nat):(wordsL (l.take k)).length≤(wordsL l).length:=by
 have h:wordsL l=wordsL (l.take k)++wordsL (l.drop k):=by
  unfold wordsL;rw [← List.flatMap_append,List.take_append_drop]
 rw [h];simp
set_option maxHeartbeats 2000000 in
theorem refRoom4_any (x:InstT) (o:Int) (f:Frm) (ax:Option Addr) (n cx:Nat) (w:World) (hv:ArgsV w ax x.2.2.2) (hok:InstOk x) (hl:x.2.2.2.length=n) (hB:(wordsL x.2.2.2).length≤4611686018427387904) :
  Calls Tryz.prog 117 #[instV x ax n cx,formV o f] w fun e w'=>e=.returned (.int .i64 ((1+(rawL f x).length:Nat):Int))∧Below w.heap.size w w':=by
 obtain⟨xo,xt,xr,xl⟩:=x
 obtain⟨nm,t,r,fx,rs,mo,pa⟩:=f
 obtain⟨_,_,_,_,_,_,hok,hn24⟩:=hok
 simp only at hv hl hB hok hn24
 rw [hl] at hn24
 unfold instV formV
 simp only
 have HLE:Hid (∀ k,(wordsL (xl.take k)).length≤(wordsL xl).length):=words_le xl
 have HB:Hid (((wordsL xl).length:Int)≤4611686018427387904):=by show _≤_;omega
 have HL:Hid (xl.length=n):=hl
 have HOK:Hid (ArgsOk xl):=hok
 have HT:Hid (∀ k,k<n→(wordsL (xl.take (k+1))).length=(wordsL (xl.take k)).length+(if (nthA xl k).1=3 then (nthA xl k).2.2.size / 4+1 else 1)):=fun k hk=>by
  rw [wordsL_take xl k (by omega),List.length_append,wordsA_len]
 have HR:Hid (((1+(rawL (nm,t,r,fx,rs,mo,pa) (xo,xt,xr,xl)).length:Nat):Int)=((1+(headW (nm,t,r,fx,rs,mo,pa) xt xr).length:Nat):Int)+((wordsL (xl.take n)).length:Int)):=by
  show _=_
  unfold rawL;rw [List.take_of_length_le (by omega)];simp;omega
 have hbel:Below w.heap.size w ((w.alloc (.cells #[.int .u16 xo,.int .u32 xt,.int .u32 xr,.slice ax n cx] 63)).alloc (.cells #[.int .u16 o,.string nm,.bool t,.bool r,.string fx,.string rs,.int .i64 mo,.int .u8 pa] 167)):=((Below.refl _ w).alloc (Nat.le_refl _) _).alloc (by simp) _
 have hv1:=hv.below hbel
 have kI:((w.alloc (.cells #[.int .u16 xo,.int .u32 xt,.int .u32 xr,.slice ax n cx] 63)).alloc (.cells #[.int .u16 o,.string nm,.bool t,.bool r,.string fx,.string rs,.int .i64 mo,.int .u8 pa] 167)).heap[w.heap.size]?=some (.cells #[.int .u16 xo,.int .u32 xt,.int .u32 xr,.slice ax n cx] 63 (0,0)):=(Below.heap_alloc _ _ _ (by simp)).trans (alloc_new w _ _)
 have kF:((w.alloc (.cells #[.int .u16 xo,.int .u32 xt,.int .u32 xr,.slice ax n cx] 63)).alloc (.cells #[.int .u16 o,.string nm,.bool t,.bool r,.string fx,.string rs,.int .i64 mo,.int .u8 pa] 167)).heap[w.heap.size+1]?=some (.cells #[.int .u16 o,.string nm,.bool t,.bool r,.string fx,.string rs,.int .i64 mo,.int .u8 pa] 167 (0,0)):=by simpa using alloc_new (w.alloc (.cells #[.int .u16 xo,.int .u32 xt,.int .u32 xr,.slice ax n cx] 63)) #[.int .u16 o,.string nm,.bool t,.bool r,.string fx,.string rs,.int .i64 mo,.int .u8 pa] 167
 have c3:=(one_block kI).1 3
 have d2:=(one_block kF).1 2
 have d3:=(one_block kF).1 3
 have HBEL:=hide hbel
 have HV:=hide hv1
 clear hv hl hB hok hbel kI kF hv1
 obtain⟨h0,hh0⟩:∃ h0:Int,Hid (h0=((1+(headW (nm,t,r,fx,rs,mo,pa) xt xr).length:Nat):Int)):=⟨_,rfl⟩
 have hlo:0≤h0:=by rw [hh0.out];omega
 have hhi:h0≤3:=by rw [hh0.out];unfold headW;cases t <;> cases r <;> simp
 rcases t with _ | _ <;> rcases r with _ | _ <;> (
  go_enter Tryz.func117,Tryz.ntmps117
  go_wp2
  generalize (w.alloc (.cells #[.int .u16 xo,.int .u32 xt,.int .u32 xr,.slice ax n cx] 63)).alloc (.cells #[.int .u16 o,.string nm,.bool _,.bool _,.string fx,.string rs,.int .i64 mo,.int .u8 pa] 167)=W at *
  go_loop [5,6] (fun u i=>∃ k:Nat,k≤n∧i=.int .i64 k∧u=.int .i64 (h0+((wordsL (xl.take k)).length:Int))) (fun _ i=>n - (intOf i).toNat)
  case atStart=>exact⟨0,Nat.zero_le _,rfl,by rw [hh0.out];simp [headW,wordsL]⟩
  case round =>
   obtain⟨k,hk,rfl,rfl⟩:=hrel
   by_cases hlt:k<n
   ·obtain⟨b1,o1,rfl,hb1,p1,p2,p3⟩:=HV.out k (by rw [HL.out];exact hlt)
    have hki:(k:Int)<(n:Int):=by omega
    have hk0:(0:Int)≤(k:Int):=by omega
    have hT:=HT.out k hlt
    have hle:=HLE.out (k+1)
    have hbb:=HB.out
    obtain⟨_,_,_,_,hsz⟩:=HOK.out k (by rw [HL.out];exact hlt)
    have HS:Hid _:=hT
    clear hT
    generalize nthA xl k=z at *
    obtain⟨z1,z2,z3⟩:=z
    simp only at *
    by_cases h3:z1=3
    ·subst h3
     have hRm:=fun wx=>refRoom_any z3 wx hsz
     go_wp2_with (go_at_call 157;refine (hRm _).mono ?_;rintro e w' ⟨rfl,rfl⟩)
     go_round
     case rel=>exact⟨k+1,by omega,by go_num,by have hS:=HS.out;simp only [if_true] at hS;refine congrArg (Value.int .i64) ?_;first | omega | (unfold wrap64;omega)⟩
     case measure=>simp [intOf];omega
    ·have h3':(z1==3)=false:=by simpa using h3
     go_wp2
     go_round
     case rel=>exact⟨k+1,by omega,by go_num,by have hS:=HS.out;rw [if_neg h3] at hS;refine congrArg (Value.int .i64) ?_;first | omega | (unfold wrap64;omega)⟩
     case measure=>simp [intOf];omega
   ·obtain rfl:k=n:=by omega
    go_wp2
    go_ret
    exact⟨by have hR:=HR.out;have h9:=hh0.out;refine congrArg (fun z=>Ending.returned (.int .i64 z)) ?_;omega,HBEL.out⟩)
theorem words_bound {f:Frm} {b:Int} {l:List ArgT} (hf:noText f=true∧shortF f=true) (hok:ArgsOk l) (h:∀ i,i<l.length→wrongA (letterI f (i:Int)) (nthA l i) b=0):∀ k,k≤l.length→(wordsL (l.take k)).length≤k+min k 1000 * 35184372087809
 | 0,_=>by simp [wordsL]
 | k+1,hk=>by
  have ih:=words_bound hf hok h k (by omega)
  rw [wordsL_take l k (by omega),List.length_append,wordsA_len]
  split
  ·rename_i h3
   have h1:=(wrongA_kind (h k (by omega))).2
   have h2:=text_fixed hf.1 (k:=k) (by rw [← h1];exact h3)
   have h4:=(hok k (by omega)).2.2.2.2
   have h5:f.2.2.2.1.size≤1000:=by
    have:=hf.2
    simp [shortF] at this
    exact this.1.1.1
   have e1:min k 1000=k:=by omega
   have e2:min (k+1) 1000=k+1:=by omega
   rw [e1] at ih;rw [e2,Nat.add_mul]
   omega
  ·have:min k 1000 * 35184372087809≤min (k+1) 1000 * 35184372087809:=Nat.mul_le_mul_right _ (by omega)
   omega
theorem words_few {f:Frm} {b:Int} {l:List ArgT} (hf:noText f=true∧shortF f=true) (hok:ArgsOk l) (hl:24 * l.length≤140737488351232) (h:∀ i,i<l.length→wrongA (letterI f (i:Int)) (nthA l i) b=0):(wordsL l).length≤4611686018427387904:=by
 have:=words_bound hf hok h l.length (Nat.le_refl _)
 rw [List.take_of_length_le (Nat.le_refl _)] at this
 have:min l.length 1000 * 35184372087809≤1000 * 35184372087809:=Nat.mul_le_mul_right _ (by omega)
 omega
theorem refT_sizes4:refT.all (fun p=>decide (p.2.2.2.2.1.size<100) && decide (p.2.2.2.2.2.1.size<100))=true:=by decide +kernel
theorem frm_small (n:Int):(lookF refT n).1.2.2.2.1.size<100∧(lookF refT n).1.2.2.2.2.1.size<100:=by
 by_cases h:(lookF refT n).2=true
 ·have:=(List.all_eq_true.1 refT_sizes4) _ (lookF_true h)
  simpa using this
 ·rw [(lookF_false (by simpa using h)).1];exact⟨by decide,by decide⟩
set_option maxHeartbeats 4000000 in
theorem refFault4_any (x:InstT) (b:Int) (ax:Option Addr) (n cx:Nat) (w:World) (hv:ArgsV w ax x.2.2.2) (hok:InstOk x) (hl:x.2.2.2.length=n) (b0:0≤b) (b1:b<4294967296) :
  Calls Tryz.prog 115 #[instV x ax n cx,.int .u32 b] w fun e w'=>e=.returned (.int .i64 (rawE x b))∧Below w.heap.size w w':=by
 have hOf:=fun wx=>refOf_any x.1 wx
 obtain⟨R,hR⟩:∃ R,R=rawE x b:=⟨_,rfl⟩
 rw [← hR]
 have hX:=hok
 obtain⟨xo,xt,xr,xl⟩:=x
 obtain⟨q0,q1,q2,q3,q4,q5,q6,q7⟩:=hok
 simp only at q0 q1 q2 q3 q4 q5 q6 q7 hv hl hOf
 unfold instV
 simp only
 have hba:Below w.heap.size w (w.alloc (.cells #[.int .u16 xo,.int .u32 xt,.int .u32 xr,.slice ax n cx] 63)):=(Below.refl _ w).alloc (Nat.le_refl _) _
 have kB:(w.alloc (.cells #[.int .u16 xo,.int .u32 xt,.int .u32 xr,.slice ax n cx] 63)).heap[w.heap.size]?=some (.cells #[.int .u16 xo,.int .u32 xt,.int .u32 xr,.slice ax n cx] 63 (0,0)):=alloc_new w _ _
 have hsz:w.heap.size<(w.alloc (.cells #[.int .u16 xo,.int .u32 xt,.int .u32 xr,.slice ax n cx] 63)).heap.size:=by simp
 have hv0:=hv.below hba
 go_enter Tryz.func115,Tryz.ntmps115
 go_wp2_with fail
 generalize w.alloc (.cells #[.int .u16 xo,.int .u32 xt,.int .u32 xr,.slice ax n cx] 63)=W at *
 refine (hOf _).mono ?_
 rintro e w1 ⟨rfl,hb1⟩
 clear hOf
 by_cases h0:(lookF refT xo).2=true
 ·have eV:ofV xo=formV xo (lookF refT xo).1:=by unfold ofV;rw [if_pos h0]
  rw [eV,h0]
  unfold rawE at hR
  rw [if_pos h0] at hR
  have hNT:=look_noText xo
  have hSm:=frm_small xo
  obtain⟨f,hf⟩:∃ f,f=(lookF refT xo).1:=⟨_,rfl⟩
  have hLt:=fun i (wx:World) (h1:i<9223372036854775808)=>refLetter_any xo i wx h1
  simp only [← hf] at hR hNT hSm hLt ⊢
  have HR:=hide hR
  have HNT:=hide hNT
  clear hR eV hf h0 hNT
  obtain⟨nm,t,r,fx,rs,mo,pa⟩:=f
  unfold formV
  simp only
  have hb2:Below w1.heap.size w1 (w1.alloc (.cells #[.int .u16 xo,.string nm,.bool t,.bool r,.string fx,.string rs,.int .i64 mo,.int .u8 pa] 167)):=(Below.refl _ _).alloc (Nat.le_refl _) _
  have kF:(w1.alloc (.cells #[.int .u16 xo,.string nm,.bool t,.bool r,.string fx,.string rs,.int .i64 mo,.int .u8 pa] 167)).heap[w1.heap.size]?=some (.cells #[.int .u16 xo,.string nm,.bool t,.bool r,.string fx,.string rs,.int .i64 mo,.int .u8 pa] 167 (0,0)):=alloc_new w1 _ _
  have hb02:=hb1.trans (hb2.mono hb1.size)
  have kI:=(hb02.block _ hsz).trans kB
  have hv2:=hv0.below hb02
  have hbel:=hba.trans (hb02.mono (by omega))
  have hs1:w.heap.size<w1.heap.size:=Nat.lt_of_lt_of_le hsz hb1.size
  have hs2:w1.heap.size<(w1.alloc (.cells #[.int .u16 xo,.string nm,.bool t,.bool r,.string fx,.string rs,.int .i64 mo,.int .u8 pa] 167)).heap.size:=by simp
  have hI1:=fun wx=>refId_any t xt b 40 wx q2 q3 b0 b1
  have hI2:=fun wx=>refId_any r xr b 41 wx q4 q5 b0 b1
  have kI1:=(hb1.block _ hsz).trans kB
  have i1:=(one_block kI1).1 1
  have i2:=(one_block kI1).1 2
  have HKF:=hide kF
  have HKI:=hide kI
  have HV2:=hide hv2
  have HBEL:=hide hbel
  have hWh:=fun (wx:World)=>refWhole_any xo (nm,t,r,fx,rs,mo,pa) (n:Int) wx (by omega) (by omega) hSm.1 hSm.2
  have hRm:=fun (wx:World) (hvx:ArgsV wx ax xl) (hB:(wordsL xl).length≤4611686018427387904)=>refRoom4_any (xo,xt,xr,xl) xo (nm,t,r,fx,rs,mo,pa) ax n cx wx hvx hX hl hB
  have hWr:=fun (k:Nat) (wx:World) (hk:k<xl.length) (c:Int)=>refWrong4_any c (nthA xl k) b wx (q6 k hk) b0 b1
  have HFEW:=hide (words_few HNT.out q6 q7 (b:=b))
  have HL:=hide hl
  have HN:Hid (24 * n≤140737488351232):=by show _≤_;omega
  unfold instV formV at hRm
  unfold formV at hWh
  simp only at hRm hWh
  have HRM:=hide hRm
  have HWR:=hide hWr
  have HWH:=hide hWh
  have HLT:=hide hLt
  clear hb1 hb2 hb02 hba kB hsz hv0 hv kF kI hv2 hbel kI1 hWh hRm hWr hl hX q0 q1 q2 q3 q4 q5 q6 q7 hSm hLt b0 b1
  have hR1:idE t xt b 40≠0→R=idE t xt b 40:=fun h=>by rw [HR.out];unfold faultI;simp only;rw [if_pos h]
  have hR2:idE t xt b 40=0→idE r xr b 41≠0→R=idE r xr b 41:=fun h1 h=>by rw [HR.out];unfold faultI;simp only;rw [if_neg (by omega),if_pos h]
  have hR3:idE t xt b 40=0→idE r xr b 41=0→R=(if wrongL (nm,t,r,fx,rs,mo,pa) b 0 xl≠0 then wrongL (nm,t,r,fx,rs,mo,pa) b 0 xl else if wholeN (nm,t,r,fx,rs,mo,pa) xl.length=false then 42 else if 65535<1+(rawL (nm,t,r,fx,rs,mo,pa) (xo,xt,xr,xl)).length then 25 else 0):=fun h1 h2=>by
   rw [HR.out];unfold faultI;simp only;rw [if_neg (by omega),if_neg (by omega)]
  have HR1:=hide hR1
  have HR2:=hide hR2
  have HR3:=hide hR3
  clear hR1 hR2 hR3
  go_wp2_with fail
  generalize w1.alloc (.cells #[.int .u16 xo,.string nm,.bool t,.bool r,.string fx,.string rs,.int .i64 mo,.int .u8 pa] 167)=W2 at *
  clear i1 i2
  have i2:=(one_block HKI.out).1 2
  have f3:=(one_block HKF.out).1 3
  refine (hI1 _).mono ?_
  rintro e w' ⟨rfl,rfl⟩
  clear hI1
  generalize idE t xt b 40=e1 at *
  by_cases he1:e1=0
  ·subst he1
   go_wp2_with fail
   refine (hI2 _).mono ?_
   rintro e w' ⟨rfl,rfl⟩
   clear hI2
   generalize idE r xr b 41=e2 at *
   by_cases he2:e2=0
   ·subst he2
    have H3:=hide (HR3.out (by trivial) (by trivial))
    clear HR1 HR2 HR3 i2 f3
    go_wp2_with fail
    go_loopw [7,8] (fun _ i wr=>∃ k:Nat,k≤n∧i=.int .i64 k∧Below W2.heap.size W2 wr∧Hid (∀ j,j<k→wrongA (letterI (nm,t,r,fx,rs,mo,pa) (j:Int)) (nthA xl j) b=0)) (fun _ i _=>n - (intOf i).toNat)
    case atStart=>exact⟨0,Nat.zero_le _,rfl,Below.refl _ _,fun j hj=>by omega⟩
    case round =>
     obtain⟨k,hk,rfl,hbr,HJ⟩:=hrel
     have kIr:=(hbr.block _ (by omega)).trans HKI.out
     have kFr:=(hbr.block _ hs2).trans HKF.out
     have hvr:=HV2.out.below hbr
     have hsr:w.heap.size<wr.heap.size:=by have:=hbr.size;omega
     have hsf:w1.heap.size<wr.heap.size:=by have:=hbr.size;omega
     have i3:=(one_block kIr).1 3
     by_cases hlt:k<n
     ·have hkl:k<xl.length:=by rw [HL.out];exact hlt
      obtain⟨g1,o1,rfl,hg1,p1,p2,p3⟩:=hvr k hkl
      have hki:(k:Int)<(n:Int):=by omega
      have hk0:(0:Int)≤(k:Int):=by omega
      have hkb:(k:Int)<140737488351232:=by have:=HN.out;omega
      have a0:=fun s:InC (Below wr.heap.size wr)=>s.cell (p:=⟨w.heap.size,0,none⟩) hsr ((one_block kIr).1 0)
      have a3:=fun s:InC (Below wr.heap.size wr)=>s.cell (p:=⟨w.heap.size,3,none⟩) hsr ((one_block kIr).1 3)
      have b1:=fun s:InC (Below wr.heap.size wr)=>s.cell (p:=⟨g1,o1+k * 3,none⟩) hg1 p1
      have b2:=fun s:InC (Below wr.heap.size wr)=>s.cell (p:=⟨g1,o1+k * 3+1,none⟩) hg1 p2
      have b3:=fun s:InC (Below wr.heap.size wr)=>s.cell (p:=⟨g1,o1+k * 3+2,none⟩) hg1 p3
      have hne:Nonempty (InC (Below wr.heap.size wr)):=⟨⟨wr,Below.refl _ _⟩⟩
      have hbl:=below_drew wr
      have hK:=fun s:InC (Below wr.heap.size wr)=>Calls.inC s (HLT.out (k:Int) s.w (by have:=HN.out;omega))
      have hW:=fun (c:Int) (s:InC (Below wr.heap.size wr))=>Calls.inC s (HWR.out k s.w hkl c)
      unfold argV at hW
      have HW1:=hide (wrongL_first (f:=(nm,t,r,fx,rs,mo,pa)) (b:=b) (l:=xl) (k:=0) (j:=k) hkl (fun i hi=>by rw [Nat.zero_add];exact HJ.out i hi))
      have HH:Hid (wrongA (letterI (nm,t,r,fx,rs,mo,pa) (k:Int)) (nthA xl k) b≠0→R=wrongA (letterI (nm,t,r,fx,rs,mo,pa) (k:Int)) (nthA xl k) b):=fun h=>by
       have e:=HW1.out (by rw [Nat.zero_add];exact h)
       rw [Nat.zero_add] at e
       rw [H3.out,e,if_pos h]
      obtain⟨E,hE⟩:∃ E,E=wrongA (letterI (nm,t,r,fx,rs,mo,pa) (k:Int)) (nthA xl k) b:=⟨_,rfl⟩
      have hW':=hW (letterI (nm,t,r,fx,rs,mo,pa) (k:Int))
      rw [← hE] at hW' HH
      have HE:Hid (E=0→wrongA (letterI (nm,t,r,fx,rs,mo,pa) (k:Int)) (nthA xl k) b=0):=fun h=>by rw [← hE];exact h
      clear hW hE HW1 H3 HWR HWH HRM HLT HFEW kFr kIr hvr p1 p2 p3 HV2 HKI HKF
      generalize letterI (nm,t,r,fx,rs,mo,pa) (k:Int)=c at hK hW'
      generalize nthA xl k=z at b1 b2 b3 hW'
      obtain⟨z1,z2,z3⟩:=z
      simp only at b1 b2 b3 hW'
      go_wp2_with fail
      refine wp_region_class (C:=Below wr.heap.size wr) (by kernel_rfl) (by kernel_rfl) hbl ?_
      repeat (go_big_quiet_step ((first | (go_at_call 154;exact hK _) | (go_at_call 153;exact hW' _))))
      refine wpQuiet_nil ?_
      rintro _ ⟨s,rfl⟩
      have hbs:=hbr.trans (s.ok.mono hbr.size)
      have hfin:=HBEL.out.trans (hbs.mono HBEL.out.size)
      clear hne hK hW' a0 a3 b1 b2 b3 hbr
      generalize s.w=W3 at *
      by_cases hE0:E=0
      ·subst hE0
       go_wp2_with fail
       go_roundw
       case rel=>exact⟨k+1,by omega,by have:=HN.out;go_num,hbs,fun j hj=>if e:j=k then (by subst e;exact HE.out rfl) else HJ.out j (by omega)⟩
       case measure=>have:=HN.out;simp [intOf];omega
      ·have hE':(E != 0)=true:=by simp [hE0]
       have e9:=HH.out hE0
       go_wp2_with fail
       go_ret
       exact⟨by rw [e9];rfl,hfin⟩
     ·obtain rfl:k=n:=by omega
      have hWL:wrongL (nm,t,r,fx,rs,mo,pa) b 0 xl=0:=wrongL_none fun i hi=>by rw [Nat.zero_add];exact HJ.out i (by rw [← HL.out];exact hi)
      have hfew:=HFEW.out (fun i hi=>HJ.out i (by rw [← HL.out];exact hi))
      have H4:=H3.out
      rw [if_neg (by omega),HL.out] at H4
      have HFW:=hide hfew
      have H5:=hide H4
      have hfr:=HBEL.out.trans (hbr.mono HBEL.out.size)
      obtain⟨d0,d1,d2,d3,d4,d5,d6,d7,df⟩:=frm_cells (n:=xo) (f:=(nm,t,r,fx,rs,mo,pa)) kFr
      simp only at d0 d1 d2 d3 d4 d5 d6 d7
      have hWh:=HWH.out
      have HVR:=hide hvr
      have HKF2:=hide kFr
      have HKI2:=hide kIr
      clear hWL hfew H4 H3 HLT HWR HFEW hvr hbr kFr kIr HV2 HKI HKF HJ df HWH
      go_wp2_with fail
      refine (hWh _).mono ?_
      rintro e w4 ⟨rfl,hb4⟩
      have kI4:=(hb4.block _ hsr).trans HKI2.out
      have kF4:=(hb4.block _ hsf).trans HKF2.out
      have hv4:=HVR.out.below hb4
      have hf4:=hfr.trans (hb4.mono hfr.size)
      clear hWh HKF2 HKI2 HVR hfr hb4 d0 d1 d2 d3 d4 d5 d6 d7 i3
      cases hwh:wholeN (nm,t,r,fx,rs,mo,pa) (k:Int)
      ·have e9:=H5.out
       rw [hwh,if_pos rfl] at e9
       go_wp2_with fail
       go_ret
       exact⟨by rw [e9];rfl,hf4⟩
      ·have e9:=H5.out
       rw [hwh,if_neg (by simp)] at e9
       have hRm:=HRM.out w4 hv4 HFW.out
       obtain⟨d0,d1,d2,d3,d4,d5,d6,d7,df⟩:=frm_cells (n:=xo) (f:=(nm,t,r,fx,rs,mo,pa)) kF4
       simp only at d0 d1 d2 d3 d4 d5 d6 d7
       have i0:=(one_block kI4).1 0
       have i1:=(one_block kI4).1 1
       have i2:=(one_block kI4).1 2
       have i3:=(one_block kI4).1 3
       have H9:=hide e9
       generalize hln:(rawL (nm,t,r,fx,rs,mo,pa) (xo,xt,xr,xl)).length=ln at *
       clear hln e9 kF4 kI4 hv4 HRM HFW H5 df
       go_wp2_with fail
       refine hRm.mono ?_
       rintro e w5 ⟨rfl,hb5⟩
       have hf5:=hf4.trans (hb5.mono hf4.size)
       clear hRm hb5 hf4 d0 d1 d2 d3 d4 d5 d6 d7 i0 i1 i2 i3
       by_cases hgt:65535<1+ln
       ·have e9:=H9.out
        rw [if_pos hgt] at e9
        have hd:decide ((65535:Int)<1+(ln:Int))=true:=decide_eq_true (by omega)
        clear hgt
        go_wp2_with fail
        go_ret
        exact⟨by rw [e9];rfl,hf5⟩
       ·have e9:=H9.out
        rw [if_neg hgt] at e9
        have hd:decide ((65535:Int)<1+(ln:Int))=false:=decide_eq_false (by omega)
        clear hgt
        go_wp2_with fail
        go_ret
        exact⟨by rw [e9];rfl,hf5⟩
   ·have he2':(e2 != 0)=true:=by simp [he2]
    have e9:=HR2.out (by trivial) he2
    clear HR1 HR2 HR3
    go_wp2_with fail
    go_ret
    exact⟨by rw [e9];rfl,HBEL.out⟩
  ·have he1':(e1 != 0)=true:=by simp [he1]
   have e9:=HR1.out he1
   clear HR1 HR2 HR3
   go_wp2_with fail
   go_ret
   exact⟨by rw [e9];rfl,HBEL.out⟩
 ·have h0':(lookF refT xo).2=false:=by simpa using h0
  have eV:ofV xo=formV 0 noFrm:=by unfold ofV;rw [if_neg h0]
  rw [eV,h0']
  unfold rawE at hR
  rw [if_neg h0] at hR
  subst hR
  have hbel:=hba.trans (hb1.mono (by omega))
  unfold formV noFrm
  simp only
  clear hb1 hba kB hv0 hv
  go_wp2_with fail
  go_ret
  exact⟨rfl,hbel.alloc hbel.size _⟩
end Go.Proofs.YtlcaedibmlidlaaGreat
