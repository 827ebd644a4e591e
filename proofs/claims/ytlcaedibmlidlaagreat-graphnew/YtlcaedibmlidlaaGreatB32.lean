/-
  Texts in one: Ref14All, KitSpoilInts, Law14Told, Law14One.
-/
import Derived.Test.YtlcaedibmlidlaaGreatB31
namespace Go.Proofs.YtlcaedibmlidlaaGreat
open Go.RowKit
set_option linter.unusedVariables false
set_option linter.unusedSimpArgs false
set_option maxRecDepth 10000
theorem BoolsInfo:(Tryz.prog.info? 4).map (fun i=>(i.zero,i.size,i.bytes))=some (some (.bool false),1,1):=by kernel_rfl
def blS (S:Nat→Bool) (n:Nat):List Value:=(List.range n).map fun i=>.bool (S i)
theorem blS_len (S:Nat→Bool) (n:Nat):(blS S n).length=n:=by simp [blS]
theorem blS_at (S:Nat→Bool) (n i:Nat) (h:i<n):(blS S n)[i]?=some (.bool (S i)):=by simp [blS,h]
def setS (S:Nat→Bool) (j:Nat):Nat→Bool:=fun i=>if i=j then true else S i
theorem blS_set (S:Nat→Bool) (n j:Nat) (h:j<n):(blS S n).set j (.bool true)=blS (setS S j) n:=by
 apply List.ext_getElem?
 intro i
 by_cases hi:i<n
 ·rw [List.getElem?_set,blS_at _ _ _ hi,blS_at _ _ _ hi,blS_len]
  by_cases e:j=i
  ·subst e;simp [h,setS]
  ·have e':¬ i=j:=fun x=>e x.symm
   simp [e,e',setS]
 ·rw [List.getElem?_eq_none (by rw [List.length_set,blS_len];omega),List.getElem?_eq_none (by rw [blS_len];omega)]
def cntS (S:Nat→Bool):Nat→Nat
 | 0=>0
 | n+1=>cntS S n+(if S n then 0 else 1)
theorem cntS_congr {S T:Nat→Bool}:∀ {n:Nat},(∀ i,i<n→S i=T i)→cntS S n=cntS T n
 | 0,_=>rfl
 | n+1,h=>by unfold cntS;rw [cntS_congr (fun i hi=>h i (by omega)),h n (by omega)]
theorem cntS_set {S:Nat→Bool} {j:Nat} (hj:S j=false):∀ {n:Nat},j<n→cntS (setS S j) n<cntS S n
 | 0,h=>by omega
 | n+1,h=>by
  unfold cntS
  by_cases e:j=n
  ·subst e
   have:cntS (setS S j) j=cntS S j:=cntS_congr fun i hi=>if_neg (by omega)
   rw [this,hj]
   simp [setS]
  ·have:=cntS_set hj (n:=n) (by omega)
   have e2:setS S j n=S n:=if_neg (fun x=>e x.symm)
   rw [e2];omega
def isF:Option Value→Bool
 | some (.bool false)=>true
 | _=>false
def cntW (B:Nat) (wr:World):Nat→Nat
 | 0=>0
 | n+1=>cntW B wr n+(if isF (wr.cell? ⟨B,n,none⟩) then 1 else 0)
structure AllS (w wr : World) (n : Nat) (S : Nat → Bool) : Prop where
  own : wr.ownsRow w.heap.size 4 1 (.slice (some ⟨w.heap.size, 0, none⟩) n n) n (blS S n)
  bel : Below w.heap.size w wr
theorem AllS.cell {w wr:World} {n:Nat} {S:Nat→Bool} (h:AllS w wr n S) {i:Nat} (hi:i<n):wr.cell? ⟨w.heap.size,i,none⟩=some (.bool (S i)):=by
 rw [h.own.cellAt i (by omega),blS_at S n i hi]
theorem AllS.cnt {w wr:World} {n:Nat} {S:Nat→Bool} (h:AllS w wr n S):cntW w.heap.size wr n=cntS S n:=by
 have key:∀ k,k≤n→cntW w.heap.size wr k=cntS S k:=by
  intro k
  induction k with
  | zero=>intro _;rfl
  | succ k ih =>
   intro hk
   unfold cntW cntS
   rw [ih (by omega),h.cell (by omega)]
   cases S k <;> simp [isF]
 exact key n (Nat.le_refl _)
theorem AllS.set {w wr:World} {n:Nat} {S:Nat→Bool} (h:AllS w wr n S) {j:Nat} (hj:j<n):AllS w (wr.setCell ⟨w.heap.size,j,none⟩ (.bool true)) n (setS S j):=by
 refine⟨?_,h.bel.setCell (by simp) _⟩
 rw [← blS_set S n j hj]
 exact own_setAt h.own j _
structure AllP (N : List (List Int)) (n : Nat) (S T : Nat → Bool) (b : Bool) : Prop where
  sound : ∀ i, i < n → T i = true → Reach N 0 (i : Int)
  mono : ∀ i, S i = true → T i = true
  same : b = false → T = S
  less : b = true → cntS T n < cntS S n
theorem AllP.set {N:List (List Int)} {n:Nat} {S T:Nat→Bool} {b:Bool} (h:AllP N n S T b) {i j:Nat} (hi:i<n) (hT:T i=true) (hj:(j:Int)∈rowN N i) (hjn:j<n) (hf:T j=false):AllP N n S (setS T j) true:=by
 refine⟨fun k hk hs=>?_,fun k hs=>?_,fun e=>(by cases e),fun _=>?_⟩
 ·unfold setS at hs
  split at hs
  ·rename_i e;subst e
   exact (h.sound i hi hT).step (by simpa using hj)
  ·exact h.sound k hk hs
 ·unfold setS
  split
  ·rfl
  ·exact h.mono k hs
 ·have h1:=cntS_set hf hjn
  cases b with
  | true=>have:=h.less rfl;omega
  | false=>have:=h.same rfl;subst this;exact h1
theorem all_whole {N:List (List Int)} (hE:Edges N.length N) (h0:0<N.length) {S:Nat→Bool} (hs:∀ i,i<N.length→S i=true→Reach N 0 (i:Int)) (h1:S 0=true) (hc:∀ i,i<N.length→S i=true→∀ y∈rowN N i,S y.toNat=true):blS S N.length=blS (fun i=>decide ((i:Int)∈(walkF N).1)) N.length:=by
 have hQ:=walkF_all N hE h0
 unfold blS
 apply List.map_congr_left
 intro i hi
 have hin:=List.mem_range.1 hi
 congr 1
 rw [Bool.eq_iff_iff,decide_eq_true_eq,hQ.mem]
 constructor
 ·exact hs i hin
 ·intro hr
  have:=hr.closed (c:=((List.range N.length).filter S).map Int.ofNat) (by simp only [List.mem_map,List.mem_filter,List.mem_range];exact⟨0,⟨h0,h1⟩,rfl⟩) (fun x hx y hy=>by
   simp only [List.mem_map,List.mem_filter,List.mem_range] at hx ⊢
   obtain⟨k,⟨hk,hk2⟩,rfl⟩:=hx
   have hy':y∈rowN N k:=by simpa using hy
   have hyE:=hE k y hy'
   exact⟨y.toNat,⟨by omega,hc k hk hk2 y hy'⟩,by simp;omega⟩)
  simp only [List.mem_map,List.mem_filter,List.mem_range] at this
  obtain⟨k,⟨_,hk2⟩,hk3⟩:=this
  have:k=i:=by simp at hk3;omega
  subst this
  exact hk2
def b2n:Value→Nat
 | .bool true=>1
 | _=>0
set_option maxHeartbeats 8000000 in
theorem refAll14_any (w:World) (B lo:Nat) (N:List (List Int)) (h:RfG w B lo N):Calls Tryz.prog 122 #[.pointer (some ⟨B,0,none⟩),.int .i64 (-1)] w fun e w'=>e=.returned (.slice (some ⟨w.heap.size,0,none⟩) N.length N.length)∧w'.ownsRow w.heap.size 4 1 (.slice (some ⟨w.heap.size,0,none⟩) N.length N.length) N.length (blS (fun i=>decide ((i:Int)∈(walkF N).1)) N.length)∧Below w.heap.size w w':=by
 obtain⟨j0,hj,hy0,hy1,hy2⟩:=info_parts BoolsInfo
 have HW:=hide (fun S=>all_whole (S:=S) h.edges h.some_)
 have HF:=hide h.few
 have H0:=hide h.some_
 have HED:=hide h.edges
 have HG:=hide h
 obtain⟨a,c,h1,hLV⟩:=h.open
 have HB:=hide (fun wx (hx:Below w.heap.size w wx)=>(hx.block _ (Array.getElem?_eq_some_iff.1 h1).1).trans h1)
 have HV:=hide hLV
 have HL:=hide (fun wx (hx:Below w.heap.size w wx)=>refLen14_any wx B lo N (h.below hx))
 have hL:=HL.out w (Below.refl _ _)
 have hni:(N.length:Int)≤4096:=by have:=h.few;omega
 have hn0:(0:Int)<(N.length:Int):=by have:=h.some_;omega
 have hz:((N.length:Int)==0)=false:=by
  have:¬ (N.length:Int)=0:=by omega
  simpa using this
 have HR:=hide h.rows
 generalize hRES:blS (fun i=>decide ((i:Int)∈(walkF N).1)) N.length=RES at *
 generalize hnn:N.length=n at *
 have HNN:=hide hnn
 clear h h1 hLV hnn hRES
 go_enter Tryz.func122,Tryz.ntmps122
 go_wp2_with fail
 refine hL.mono ?_
 rintro e w1 ⟨rfl,rfl⟩
 have hL2:=HL.out
 clear hL
 go_wp2_with (at_make;refine wpList_make_full _ rfl _ _ 108 rfl w.heap.size 4 j0 (.bool false) 1 Tryz.underlying108 hj hy0 hy1 _ _ _ _ n rfl rfl (by rfl) (by rfl) (by rw [hy2];omega) (by unfold maxLen;omega) (Nat.le_refl _) ?_)
 intro w2 hown2 hgr2
 have hb2:Below w.heap.size w w2:=(Below.refl _ w).grown hgr2 (Nat.le_refl _) (by simp)
 have hl2:=HL.out w2 hb2
 have hS2:AllS w w2 n (fun _=>false):=by
  refine⟨?_,hb2⟩
  have hc:(madeCells #[Value.bool false] (n * 1)).toList=blS (fun _=>false) n:=by
   rw [Nat.mul_one,toList_madeCells_one (.bool false) n]
   unfold blS
   apply List.ext_getElem (by simp)
   intro i h1 h2
   simp
  rw [← hc]
  exact by simpa using hown2
 have hS0:=hS2.set (j:=0) (by have:=H0.out;omega)
 have hc2:=hS2.cell (i:=0) (by have:=H0.out;omega)
 have hf2:=hS2.own.frozenAt 0
 have HS0:=hide hS0
 clear hown2 hgr2 hb2 hS2 hS0 hL2
 go_wp2_with fail
 refine hl2.mono ?_
 rintro e w3 ⟨rfl,rfl⟩
 clear hl2
 go_wp2_with fail
 generalize hW0:w2.setCell ⟨w.heap.size,0,none⟩ (.bool true)=W0 at *
 clear hW0 hc2 hf2
 go_loopw [6] (fun v wr=>∃ (S:Nat→Bool) (b:Bool),v=.bool b∧AllS w wr n S∧(∀ i,i<n→S i=true→Reach N 0 (i:Int))∧S 0=true∧(b=false→∀ i,i<n→S i=true→∀ y∈rowN N i,S y.toNat=true)) (fun v wr=>2 * cntW w.heap.size wr n+b2n v)
 case atStart=>exact⟨_,true,rfl,HS0.out,fun i hi hs=>(by
   unfold setS at hs
   split at hs
   ·rename_i e;subst e;exact Reach.refl _ _
   ·cases hs),rfl,fun e=>by cases e⟩
 case round =>
  obtain⟨S,b,rfl,hS,hsd,hs0,hcl⟩:=hrel
  cases b with
  | false =>
   have HRS:=hide (HW.out S hsd hs0 (hcl rfl))
   have HO:=hide hS
   clear hS hsd hs0 hcl HS0
   go_wp2_with fail
   go_ret
   refine⟨rfl,?_,HO.out.bel⟩
   rw [← HRS.out]
   exact HO.out.own
  | true =>
   have HM0:=hide hS.cnt
   have HP0:Hid (AllP N n S S false):=⟨hsd,fun _ h=>h,fun _=>rfl,fun e=>(by cases e)⟩
   have HS:=hide hS
   have HS0':=hide hs0
   clear hS hsd hs0 hcl HS0
   rename World=>wo
   go_wp2_with fail
   go_loopw [6,7] (fun v k wr=>∃ (T:Nat→Bool) (b:Bool) (q:Nat),q≤n∧v=.bool b∧k=.int .i64 q∧AllS w wr n T∧AllP N n S T b∧T 0=true∧(b=false→∀ i,i<q→S i=true→∀ y∈rowN N i,S y.toNat=true)) (fun _ k _=>n - (intOf k).toNat)
   case atStart=>exact⟨S,false,0,Nat.zero_le _,rfl,rfl,HS.out,HP0.out,HS0'.out,fun _ i hi=>by omega⟩
   case round =>
    obtain⟨T,b,q,hq,rfl,rfl,hT,hP,hT0,hcl⟩:=hrel
    have hl:=HL.out wr hT.bel
    by_cases hlt:q<n
    ·have hqi:(q:Int)<(n:Int):=by omega
     have hcq:=hT.cell hlt
     have HT:=hide hT
     have HP:=hide hP
     have HT0:=hide hT0
     have HCL:=hide hcl
     have HLT:=hide hlt
     generalize hTq:T q=tq at *
     have HTQ:=hide hTq
     have gB:=(oneCell (HB.out wr hT.bel)).1
     obtain⟨bb,off,aj,nj,cj,rfl,hbb,hc,hcl2,hcc,hvj⟩:=HV.out q (by rw [HNN.out];exact hlt)
     have hc':=(hT.bel.cell (p:=⟨bb,off+q,none⟩) hbb).trans hc
     have HVJ:=hide hvj
     have HNJ:=hide hcl2
     have hnj4:=HR.out q
     rw [hcl2] at hnj4
     have hnji:(nj:Int)≤4096:=by omega
     have HBB:=hide (fun wx (hx:Below w.heap.size w wx)=>(hx.cell (p:=⟨bb,off+q,none⟩) hbb).trans hc)
     clear hT hP hT0 hcl hlt hTq hq hbb hc hcl2 hcc hvj hnj4
     rename World=>wl
     cases tq with
     | false =>
      go_wp2_with fail
      refine hl.mono ?_
      rintro e w5 ⟨rfl,rfl⟩
      clear hl
      go_wp2_with fail
      refine⟨⟨T,b,q+1,HLT.out,rfl,by simp,HT.out,HP.out,HT0.out,fun hb i hi hs y hy=>?_⟩,measZ2 HLT.out⟩
      by_cases e:i=q
      ·subst e
       have:=HP.out.same hb
       rw [← this,HTQ.out] at hs
       cases hs
      ·exact HCL.out hb i (by omega) hs y hy
     | true =>
      go_wp2_with fail
      refine hl.mono ?_
      rintro e w5 ⟨rfl,rfl⟩
      clear hl
      go_wp2_with fail
      go_loopw [6,8] (fun v k wr=>∃ (T2:Nat→Bool) (b2:Bool) (m:Nat),m≤nj∧v=.bool b2∧k=.int .i64 m∧AllS w wr n T2∧AllP N n S T2 b2∧T2 0=true∧T2 q=true∧(b=true→b2=true)∧(b2=false→∀ y∈(rowN N q).take m,S y.toNat=true)) (fun _ k _=>nj - (intOf k).toNat)
      case atStart=>exact⟨T,b,0,Nat.zero_le _,rfl,rfl,HT.out,HP.out,HT0.out,HTQ.out,fun h=>h,fun _ y hy=>by simp at hy⟩
      case round =>
       obtain⟨T2,b2,m,hm,rfl,rfl,hT,hP,hT0,hTq,hbb2,hcm⟩:=hrel
       have gB:=(oneCell (HB.out wr hT.bel)).1
       have hcR:=HBB.out wr hT.bel
       by_cases hlt:m<nj
       ·have hmR:m<(rowN N q).length:=by rw [HNJ.out];exact hlt
        obtain⟨b3,o3,rfl,_,hcm3⟩:=(HVJ.out.below hT.bel) m hmR
        have hmem:=nth_memG (rowN N q) m hmR
        have hyE:=HED.out q _ hmem
        have hsn:=take_snoc (rowN N q) m hmR
        obtain⟨yn,hye⟩:=Int.eq_ofNat_of_zero_le hyE.1
        rw [hye] at hcm3 hmem hyE hsn
        have hyn:yn<n:=by omega
        have hyi:(yn:Int)<(n:Int):=hyE.2
        have hne:((yn:Int) != -1)=true:=by first | (simp;done) | (simp;omega)
        have hcy:=hT.cell hyn
        have hfy:=hT.own.frozenAt yn
        have hset:=hT.set hyn
        have hmi:(m:Int)<(nj:Int):=by omega
        have HX:=hide (And.intro hT (And.intro hP (And.intro hT0 (And.intro hTq (And.intro hbb2 hcm)))))
        have HST:=hide hset
        have HM:=hide hmem
        have HYN:=hide hyn
        have HSN:=hide hsn
        have HLM:=hide hlt
        generalize hty:T2 yn=ty at *
        have HTY:=hide hty
        clear hT hP hT0 hTq hbb2 hcm hset hmem hyn hsn hlt hmR hye hyE hty hm
        cases ty with
        | true =>
         go_wp2_with fail
         refine⟨⟨T2,b2,m+1,HLM.out,rfl,by simp,HX.out.1,HX.out.2.1,HX.out.2.2.1,HX.out.2.2.2.1,HX.out.2.2.2.2.1,fun hb y hy=>?_⟩,measZ2 HLM.out⟩
         rw [HSN.out] at hy
         rcases List.mem_append.1 hy with hy | hy
         ·exact HX.out.2.2.2.2.2 hb y hy
         ·simp at hy
          subst hy
          have:=HX.out.2.1.same hb
          rw [← this]
          simpa using HTY.out
        | false =>
         go_wp2_with fail
         refine⟨⟨_,true,m+1,HLM.out,rfl,by simp,HST.out,HX.out.2.1.set HLT.out HX.out.2.2.2.1 HM.out HYN.out HTY.out,?_,?_,fun _=>rfl,fun hb=>by cases hb⟩,measZ2 HLM.out⟩
         ·unfold setS;split
          ·rfl
          ·exact HX.out.2.2.1
         ·unfold setS;split
          ·rfl
          ·exact HX.out.2.2.2.1
       ·have e:nj=m:=by omega
        subst e
        have HX:=hide (And.intro hT (And.intro hP (And.intro hT0 (And.intro hbb2 hcm))))
        clear hT hP hT0 hTq hbb2 hcm hm
        go_wp2_with fail
        refine⟨⟨T2,b2,q+1,HLT.out,rfl,by simp,HX.out.1,HX.out.2.1,HX.out.2.2.1,fun hb i hi hs y hy=>?_⟩,measZ2 HLT.out⟩
        by_cases e:i=q
        ·subst e
         refine HX.out.2.2.2.2 hb y ?_
         rw [List.take_of_length_le (by rw [HNJ.out];exact Nat.le_refl _)]
         exact hy
        ·exact HCL.out (by cases b with | false=>rfl | true=>(have:=HX.out.2.2.2.1 rfl;rw [hb] at this;cases this)) i (by omega) hs y hy
    ·have e:n=q:=by omega
     subst e
     have HX:=hide (And.intro hT (And.intro hP (And.intro hT0 hcl)))
     clear hT hP hT0 hcl hq
     go_wp2_with fail
     refine hl.mono ?_
     rintro e w5 ⟨rfl,rfl⟩
     clear hl
     go_wp2_with fail
     refine⟨⟨T,b,rfl,HX.out.1,HX.out.2.1.sound,HX.out.2.2.1,fun hb i hi hs y hy=>?_⟩,?_⟩
     ·have:=HX.out.2.1.same hb
      rw [this] at hs ⊢
      exact HX.out.2.2.2 hb i hi hs y hy
     ·rw [HX.out.1.cnt,HM0.out]
      cases b with
      | false=>have:=HX.out.2.1.same rfl;subst this;simp [b2n]
      | true=>have:=HX.out.2.1.less rfl;simp [b2n];omega
set_option maxHeartbeats 2000000 in
theorem refReached14_any (i:Int) (w:World) (B lo:Nat) (N:List (List Int)) (h:RfG w B lo N):Calls Tryz.prog 75 #[.pointer (some ⟨B,0,none⟩),.int .i64 i] w fun e w'=>e=.returned (.bool (reachB N i))∧Below w.heap.size w w':=by
 have hL:=refLen14_any w B lo N h
 cases hn:nodeB N.length i with
 | false =>
  have HE:Hid (reachB N i=false):=by show _=_;unfold reachB;rw [hn];rfl
  have hcase:decide (i<0)=true∨(decide (i<0)=false∧decide ((N.length:Int)≤i)=true):=by
   unfold nodeB at hn
   have:=of_decide_eq_false hn
   by_cases h:i<0
   ·exact .inl (decide_eq_true h)
   ·exact .inr ⟨decide_eq_false h,decide_eq_true (by omega)⟩
  clear h hn
  rcases hcase with hc1 | ⟨hc1,hc2⟩
  ·clear hL
   go_enter Tryz.func75,Tryz.ntmps75
   go_wp2_with fail
   go_ret
   exact⟨by rw [HE.out];rfl,Below.refl _ _⟩
  ·go_enter Tryz.func75,Tryz.ntmps75
   go_wp2_with fail
   refine hL.mono ?_
   rintro e w1 ⟨rfl,rfl⟩
   go_wp2_with fail
   go_ret
   exact⟨by rw [HE.out];rfl,Below.refl _ _⟩
 | true =>
  obtain⟨k,hk,rfl⟩:=nodeB_true hn
  have HE:Hid (reachB N (k:Int)=decide ((k:Int)∈(walkF N).1)):=by show _=_;unfold reachB;rw [hn];simp
  have hki:(k:Int)<(N.length:Int):=by omega
  have hc1:decide ((k:Int)<0)=false:=decide_eq_false (by omega)
  have hc2:decide ((N.length:Int)≤(k:Int))=false:=decide_eq_false (by omega)
  have hA:=refAll14_any w B lo N h
  have HK:=hide hk
  clear h hn hk
  generalize N.length=n at *
  generalize (walkF N).1=zs at *
  generalize reachB N (k:Int)=rb at *
  go_enter Tryz.func75,Tryz.ntmps75
  go_wp2_with fail
  refine hL.mono ?_
  rintro e w1 ⟨rfl,rfl⟩
  clear hL
  go_wp2_with fail
  refine hA.mono ?_
  rintro e w2 ⟨rfl,ho,hb⟩
  have hc:=ho.cellAt k (by have:=HK.out;omega)
  rw [blS_at _ n k HK.out,← HE.out] at hc
  have HBB:=hide hb
  clear ho hb hA
  go_wp2_with fail
  go_ret
  exact⟨rfl,HBB.out⟩
theorem spoilI_nil (a:Option Addr) (cap:Nat) (w:World) :
  Calls Tryz.prog 59 #[.slice a 0 cap] w fun e w'=>e=.returned (.tuple #[])∧w=w':=by
 go_enter Tryz.func59,Tryz.ntmps59
 go_wp2
 refine wp_loop_rounds 1 ?_
 rw [rounds_succ]
 go_wp2
 go_end0
 exact⟨rfl,rfl⟩
set_option maxHeartbeats 400000 in
theorem spoilI_keep (g n cap B:Nat) (zs:List Int) (w:World) (hown:w.ownsRow B 3 1 (.slice (some ⟨g,0,none⟩) n cap) n (zs.map (Value.int .i64))) (hl:zs.length=n) (hn:8 * n≤140737488351232) :
  Calls Tryz.prog 59 #[.slice (some ⟨g,0,none⟩) n cap] w fun e w'=>e=.returned (.tuple #[])∧w.grownBy w' (some g)∧∃ cs:List Int,cs.length=n∧w'.ownsRow B 3 1 (.slice (some ⟨g,0,none⟩) n cap) n (cs.map (Value.int .i64)):=by
 go_enter Tryz.func59,Tryz.ntmps59
 go_wp2
 go_loopw [2] (fun i wr=>∃ (k:Nat) (cs:List Int),k≤n∧i=.int .i64 k∧cs.length=n∧wr.ownsRow B 3 1 (.slice (some ⟨g,0,none⟩) n cap) n (cs.map (Value.int .i64))∧w.grownBy wr (some g))
  (fun i _=>n - (intOf i).toNat)
 case atStart=>exact⟨0,zs,Nat.zero_le _,rfl,hl,hown,World.grownBy.refl _ _⟩
 case round =>
  obtain⟨k,cs,hk,rfl,hcl,hownr,hgr⟩:=hrel
  have HCL:Hid (cs.length=n):=hcl
  clear hcl hown hl
  by_cases hlt:k<n
  ·have hd:wr.cell? ⟨g,k,none⟩=some (.int .i64 (nth cs k)):=by
    obtain⟨b,off,e1,_,hc⟩:=View.ofRow hownr HCL.out k (by rw [HCL.out];exact hlt)
    simp at e1
    obtain⟨rfl,rfl⟩:=e1
    rw [Nat.zero_add] at hc
    exact hc
   have hf:wr.frozen? ⟨g,k,none⟩=false:=hownr.frozenAt _
   have hs:=hownr.stored k (.int .i64 (-7777))
   rw [← List.map_set] at hs
   obtain⟨hs1,hs2⟩:=hs
   generalize nth cs k=x at hd
   clear hownr
   go_wp2
   go_roundw
   case rel=>exact⟨k+1,cs.set k (-7777),by omega,by go_num,by rw [List.length_set];exact HCL.out,hs1,hgr.trans hs2⟩
   case measure=>simp [intOf];omega
  ·go_wp2
   go_end0
   exact⟨rfl,hgr,cs,HCL.out,hownr⟩
theorem spoilI_own (v:Value) (n B:Nat) (zs:List Int) (w:World) (hown:w.ownsRow B 3 1 v n (zs.map (Value.int .i64))) (hl:zs.length=n) (hn:8 * n≤140737488351232) :
  Calls Tryz.prog 59 #[v] w fun e w'=>e=.returned (.tuple #[])∧w.grownBy w' v.ownBlock∧∃ cs:List Int,cs.length=n∧w'.ownsRow B 3 1 v n (cs.map (Value.int .i64)):=by
 have hown0:=hown
 rcases hown0.2 with ⟨rfl,rfl⟩ | ⟨g,c,cur,rfl,_⟩
 ·refine (spoilI_nil none 0 w).mono ?_
  rintro e w' ⟨he,rfl⟩
  exact⟨he,World.grownBy.refl _ _,zs,hl,hown⟩
 ·exact (spoilI_keep g n c B zs w hown hl hn).mono fun _ _ h=>h
structure Both (w : World) (gp wp : Option Addr) (L : Nat) (nx ah : Int → List Int) (re : Int → Bool) (od : List Int) : Prop where
  nils : (gp = none ∧ wp = none) ∨ ((∃ p, gp = some p) ∧ ∃ q, wp = some q)
  few : L ≤ 4096
  nxl : ∀ i, (nx i).length ≤ 4096
  ahl : ∀ i, (ah i).length ≤ 4096
  odl : od.length ≤ 4096
  len : ∀ wx, Below w.heap.size w wx → Calls Tryz.prog 15 #[.pointer gp] wx fun e w' => e = .returned (.int .i64 L) ∧ wx = w'
  rlen : ∀ wx, Below w.heap.size w wx → Calls Tryz.prog 72 #[.pointer wp] wx fun e w' => e = .returned (.int .i64 L) ∧ wx = w'
  next : ∀ i wx, Below w.heap.size w wx → Calls Tryz.prog 17 #[.pointer gp, .int .i64 i] wx fun e w' => AnsI wx w' e (nx i)
  rnext : ∀ i wx, Below w.heap.size w wx → Calls Tryz.prog 73 #[.pointer wp, .int .i64 i] wx fun e w' => AnsI wx w' e (nx i)
  ahead : ∀ i wx, Below w.heap.size w wx → Calls Tryz.prog 29 #[.pointer gp, .int .i64 i] wx fun e w' => AnsI wx w' e (ah i)
  rahead : ∀ i wx, Below w.heap.size w wx → Calls Tryz.prog 74 #[.pointer wp, .int .i64 i] wx fun e w' => AnsI wx w' e (ah i)
  reached : ∀ i wx, Below w.heap.size w wx → Calls Tryz.prog 30 #[.pointer gp, .int .i64 i] wx fun e w' => e = .returned (.bool (re i)) ∧ wx = w'
  rreached : ∀ i wx, Below w.heap.size w wx → Calls Tryz.prog 75 #[.pointer wp, .int .i64 i] wx fun e w' => e = .returned (.bool (re i)) ∧ Below wx.heap.size wx w'
  order : ∀ wx, Below w.heap.size w wx → Calls Tryz.prog 31 #[.pointer gp] wx fun e w' => AnsI wx w' e od
  rorder : ∀ wx, Below w.heap.size w wx → Calls Tryz.prog 76 #[.pointer wp] wx fun e w' => AnsI wx w' e od
theorem refNext14_nil (i:Int) (w:World) (hi:Lit.wf (.int .i64 i)=true∨True):Calls Tryz.prog 73 #[.pointer none,.int .i64 i] w fun e w'=>AnsI w w' e []:=by
 have hL:=refLen14_nil w
 have hcase:decide (i<0)=true∨(decide (i<0)=false∧decide ((0:Int)≤i)=true):=by
  by_cases h:i<0
  ·exact .inl (decide_eq_true h)
  ·exact .inr ⟨decide_eq_false h,decide_eq_true (by omega)⟩
 rcases hcase with hc1 | ⟨hc1,hc2⟩
 ·clear hL
  go_enter Tryz.func73,Tryz.ntmps73
  go_wp2_with fail
  go_ret
  exact ansI_nil w
 ·go_enter Tryz.func73,Tryz.ntmps73
  go_wp2_with fail
  refine hL.mono ?_
  rintro e w1 ⟨rfl,rfl⟩
  go_wp2_with fail
  go_ret
  exact ansI_nil w
theorem refReached14_nil (i:Int) (w:World):Calls Tryz.prog 75 #[.pointer none,.int .i64 i] w fun e w'=>e=.returned (.bool false)∧Below w.heap.size w w':=by
 have hL:=refLen14_nil w
 have hcase:decide (i<0)=true∨(decide (i<0)=false∧decide ((0:Int)≤i)=true):=by
  by_cases h:i<0
  ·exact .inl (decide_eq_true h)
  ·exact .inr ⟨decide_eq_false h,decide_eq_true (by omega)⟩
 rcases hcase with hc1 | ⟨hc1,hc2⟩
 ·clear hL
  go_enter Tryz.func75,Tryz.ntmps75
  go_wp2_with fail
  go_ret
  exact⟨rfl,Below.refl _ _⟩
 ·go_enter Tryz.func75,Tryz.ntmps75
  go_wp2_with fail
  refine hL.mono ?_
  rintro e w1 ⟨rfl,rfl⟩
  go_wp2_with fail
  go_ret
  exact⟨rfl,Below.refl _ _⟩
theorem refAhead14_nil (i:Int) (w:World):Calls Tryz.prog 74 #[.pointer none,.int .i64 i] w fun e w'=>AnsI w w' e []:=by
 have hL:=refLen14_nil w
 go_enter Tryz.func74,Tryz.ntmps74
 go_wp2_with fail
 go_loopw [5,6] (fun v k wr=>v=.slice none 0 0∧k=.int .i64 0∧wr=w) (fun _ _ _=>0)
 case atStart=>exact⟨rfl,rfl,rfl⟩
 case round =>
  obtain⟨rfl,rfl,rfl⟩:=hrel
  go_wp2_with fail
  refine hL.mono ?_
  rintro e w1 ⟨rfl,rfl⟩
  go_wp2_with fail
  go_ret
  exact ansI_nil _
theorem refOrder14_nil (w:World):Calls Tryz.prog 76 #[.pointer none] w fun e w'=>AnsI w w' e []:=by
 have hL:=refLen14_nil (w.alloc (.cells #[.slice none 0 0,.slice none 0 0] 180))
 have hb:Below w.heap.size w (w.alloc (.cells #[.slice none 0 0,.slice none 0 0] 180)):=(Below.refl _ _).alloc (Nat.le_refl _) _
 have HB:=hide hb
 obtain⟨_,c0,_⟩:=twoCells (allocNew w (.cells #[.slice none 0 0,.slice none 0 0] 180) rfl)
 clear hb
 go_enter Tryz.func76,Tryz.ntmps76
 go_wp2_with fail
 refine hL.mono ?_
 rintro e w1 ⟨rfl,rfl⟩
 clear hL
 go_wp2_with fail
 go_loopw [4,5] (fun v k wr=>v=.slice none 0 0∧k=.int .i64 (-1)∧wr=(w.alloc (.cells #[.slice none 0 0,.slice none 0 0] 180))) (fun _ _ _=>0)
 case atStart=>exact⟨rfl,rfl,rfl⟩
 case round =>
  obtain⟨rfl,rfl,rfl⟩:=hrel
  go_wp2_with fail
  go_ret
  exact⟨_,rfl,World.ownsRow_nil _ _ _ _,HB.out⟩
theorem both_of2 (w:World) (lo lo2:Nat) (N:List (List Int)) (gp wp:Option Addr) (er:Int) (hg:er=0→∃ p,gp=some ⟨p,0,none⟩∧GrV w lo p (N.map onceF)) (hn:er≠0→gp=none) (hg2:er=0→∃ p,wp=some ⟨p,0,none⟩∧RfG w p lo2 (N.map onceF)) (hn2:er≠0→wp=none) :
  ∃ L nx ah re od,Both w gp wp L nx ah re od:=by
 by_cases e:er=0
 ·obtain⟨p,rfl,hG⟩:=hg e
  obtain⟨q,rfl,hR⟩:=hg2 e
  generalize N.map onceF=M at *
  have hQ:=walkF_all M hG.edges hG.some_
  refine⟨M.length,nextL M,aheadL M,reachB M,(walkF M).2.reverse,.inr ⟨⟨_,rfl⟩,_,rfl⟩,hG.few,fun i=>?_,fun i=>?_,?_,fun wx hb=>graphLen_any wx _ p M (hG.below hb),fun wx hb=>refLen14_any wx q lo2 M (hR.below hb),fun i wx hb=>graphNext_any i wx _ p M (hG.below hb),fun i wx hb=>refNext14_any i wx q lo2 M (hR.below hb),fun i wx hb=>graphAhead_any i wx _ p M (hG.below hb),fun i wx hb=>refAhead14_any i wx q lo2 M (hR.below hb),fun i wx hb=>graphReached_any i wx _ p M (hG.below hb),fun i wx hb=>refReached14_any i wx q lo2 M (hR.below hb),fun wx hb=>graphOrder_any wx _ p M (hG.below hb),fun wx hb=>refOrder14_any wx q lo2 M (hR.below hb)⟩
  ·unfold nextL;split
   ·exact hG.rows _
   ·simp
  ·unfold aheadL;split
   ·exact Nat.le_trans (aheadT_len _ _ _) hG.few
   ·simp
  ·rw [List.length_reverse,hQ.perm.length_eq];exact Nat.le_trans hQ.good.len hG.few
 ·rw [hn e,hn2 e]
  refine⟨0,fun _=>[],fun _=>[],fun _=>false,[],.inl ⟨rfl,rfl⟩,by omega,fun i=>by simp,fun i=>by simp,by simp,fun wx hb=>graphLen_nil wx,fun wx hb=>refLen14_nil wx,fun i wx hb=>?_,fun i wx hb=>refNext14_nil i wx (.inr trivial),fun i wx hb=>?_,fun i wx hb=>refAhead14_nil i wx,fun i wx hb=>graphReached_nil i wx,fun i wx hb=>refReached14_nil i wx,fun wx hb=>?_,fun wx hb=>refOrder14_nil wx⟩
  ·refine (graphNext_nil i wx).mono ?_
   rintro e w' ⟨rfl,rfl⟩
   exact ansI_nil _
  ·refine (graphAhead_nil i wx).mono ?_
   rintro e w' ⟨rfl,rfl⟩
   exact ansI_nil _
  ·refine (graphOrder_nil wx).mono ?_
   rintro e w' ⟨rfl,rfl⟩
   exact ansI_nil _
theorem growT {w wx w':World} (h:Below w.heap.size w wx) (hb:Below wx.heap.size wx w'):Below w.heap.size w w':=h.trans (hb.mono h.size)
theorem drewT {w wx:World} (h:Below w.heap.size w wx) (q:Nat):Below w.heap.size w (wx.drewN q):=by
 induction q generalizing wx with
 | zero=>exact h
 | succ q ih=>exact (ih h).drew
set_option maxHeartbeats 16000000 in
theorem told14_any (w:World) (gp wp:Option Addr) (L:Nat) (nx ah:Int→List Int) (re:Int→Bool) (od:List Int) (h:Both w gp wp L nx ah re od):Calls Tryz.prog 25 #[.pointer gp,.pointer wp] w fun e w'=>e=.returned (.bool true)∧Below w.heap.size w w':=by
 have HH:=hide h
 have hli:(L:Int)≤4096:=by have:=h.few;omega
 have hnil:=h.nils
 clear h
 have key:((∃ p,gp=some p)∧∃ q,wp=some q)∨(gp=none∧wp=none):=hnil.symm
 clear hnil
 have hl0:=HH.out.len w (Below.refl _ _)
 have hr0:=HH.out.rlen w (Below.refl _ _)
 rcases key with ⟨⟨p,rfl⟩,q,rfl⟩ | ⟨rfl,rfl⟩
 all_goals
  go_enter Tryz.func25,Tryz.ntmps25
  go_wp2_with fail
  refine hl0.mono ?_
  rintro e w1 ⟨rfl,rfl⟩
  clear hl0
  go_wp2_with fail
  refine hr0.mono ?_
  rintro e w1 ⟨rfl,rfl⟩
  clear hr0
  go_wp2_with fail
  go_loopw [5] (fun i wr=>∃ k:Nat,k≤L+2∧i=.int .i64 ((k:Int) - 1)∧Below w.heap.size w wr) (fun i _=>L+2 - ((intOf i)+1).toNat)
  case atStart=>exact⟨0,by omega,rfl,Below.refl _ _⟩
  case round =>
   obtain⟨k,hk,rfl,hB⟩:=hrel
   rename World=>u0
   have HB0:=hide hB
   have hr0:=HH.out.rlen u0 hB
   clear hB
   by_cases hlt:k<L+2
   ·have hle:((k:Int) - 1)≤(L:Int):=by omega
    have HLT:=hide hlt
    have hkb:(k:Int)≤5000:=by omega
    clear hlt hk
    have hld:decide (((k:Int) - 1)≤(L:Int))=true:=decide_eq_true hle
    have hkk:IntKind.i64.wrap ((k:Int) - 1+1)=(k:Int):=by rw [IntKind.wrap_i64] <;> omega
    generalize hii:((k:Int) - 1)=i at *
    have HII:=hide hii
    have hxl:=HH.out.nxl i
    have hyl:=HH.out.ahl i
    clear hii
    go_wp2_with fail
    refine hr0.mono ?_
    rintro e w1 ⟨rfl,rfl⟩
    clear hr0
    go_wp2_with fail
    refine (HH.out.next i u0 HB0.out).mono ?_
    rintro e u1 ⟨vx,rfl,hox,hb1⟩
    obtain⟨xa,xc,rfl,hvx,_⟩:=View.ofOwned hox
    have HB1:=hide (HB0.out.trans (hb1.mono HB0.out.size))
    go_wp2_with fail
    refine (HH.out.ahead i u1 HB1.out).mono ?_
    rintro e u2 ⟨vy,rfl,hoy,hb2⟩
    obtain⟨ya,yc,rfl,hvy,_⟩:=View.ofOwned hoy
    have HB2:=hide (HB1.out.trans (hb2.mono HB1.out.size))
    go_wp2_with fail
    refine (HH.out.rnext i u2 HB2.out).mono ?_
    rintro e u3 ⟨vz,rfl,hoz,hb3⟩
    obtain⟨za,zc,rfl,hvz,_⟩:=View.ofOwned hoz
    have HB3:=hide (HB2.out.trans (hb3.mono HB2.out.size))
    have HOX1:=hide hox
    have HVX:=hide (hvx.below (hb2.trans (hb3.mono hb2.size)))
    have HOX:=hide (own_below (own_below hox hb2) hb3)
    have HVY:=hide (hvy.below hb3)
    have HOY:=hide (own_below hoy hb3)
    have HVZ:=hide hvz
    have HS1:=hide hb1.size
    have HS2:=hide hb2.size
    have HS3:=hide hb3.size
    clear hox hoy hoz hvx hvy hvz hb1 hb2 hb3
    go_wp2_with fail
    refine (ints_true xa za _ xc zc (nx i) u3 HVX.out HVZ.out rfl (by have:=HH.out.nxl i;omega)).mono ?_
    rintro e w4 ⟨rfl,q1,rfl⟩
    have HQ1:=hide (drewT (Below.refl u3.heap.size u3) q1)
    have HB4:=hide (growT HB3.out HQ1.out)
    generalize u3.drewN q1=u4 at *
    go_wp2_with fail
    refine (HH.out.rahead i u4 HB4.out).mono ?_
    rintro e u5 ⟨vt,rfl,hot,hb5⟩
    obtain⟨ta,tc,rfl,hvt,_⟩:=View.ofOwned hot
    have HB5:=hide (HB4.out.trans (hb5.mono HB4.out.size))
    have hw35:=growT HQ1.out hb5
    have HVY5:=hide (HVY.out.below hw35)
    have HVT:=hide hvt
    have HW35:=hide hw35
    clear hot hvt hb5 hw35
    go_wp2_with fail
    refine (ints_true ya ta _ yc tc (ah i) u5 HVY5.out HVT.out rfl (by have:=HH.out.ahl i;omega)).mono ?_
    rintro e w6 ⟨rfl,q2,rfl⟩
    have HQ2:=hide (growT HW35.out (drewT (Below.refl u5.heap.size u5) q2))
    have HB6:=hide (growT HB5.out (drewT (Below.refl u5.heap.size u5) q2))
    generalize u5.drewN q2=u6 at *
    go_wp2_with fail
    refine (HH.out.reached i u6 HB6.out).mono ?_
    rintro e w7 ⟨rfl,rfl⟩
    go_wp2_with fail
    refine (HH.out.rreached i u6 HB6.out).mono ?_
    rintro e u7 ⟨rfl,hb7⟩
    have HQ3:=hide (growT HQ2.out hb7)
    have HB7:=hide (growT HB6.out hb7)
    clear hb7
    generalize re i=rb at *
    go_wp2_with fail
    have HOX7:=hide (own_below HOX.out HQ3.out)
    have HOY7:=hide (own_below HOY.out HQ3.out)
    refine (spoilI_own _ _ _ (nx i) u7 HOX7.out rfl (by have:=HH.out.nxl i;omega)).mono ?_
    rintro e u8 ⟨rfl,hg8,_⟩
    have HB8:=hide (HB7.out.grown hg8 HB7.out.size (fun j e=>by have:=(World.ownsRow.lt HOX7.out j e).1;have:=HB0.out.size;omega))
    have hap:∀ g,(Value.slice xa (nx i).length xc).ownBlock=some g→(Value.slice ya (ah i).length yc).ownBlock≠some g:=fun g e e2=>by
     have h1:=(World.ownsRow.lt HOX1.out g e).2
     have h2:=(World.ownsRow.lt HOY7.out g e2).1
     omega
    have HOY8:=hide (own_grown HOY7.out hg8 hap)
    clear hg8 hap
    go_wp2_with fail
    refine (spoilI_own _ _ _ (ah i) u8 HOY8.out rfl (by have:=HH.out.ahl i;omega)).mono ?_
    rintro e u9 ⟨rfl,hg9,_⟩
    have HB9:=hide (HB8.out.grown hg9 HB8.out.size (fun j e=>by have:=(World.ownsRow.lt HOY8.out j e).1;have:=HB1.out.size;omega))
    clear hg9
    go_wp2_with fail
    refine (HH.out.next i u9 HB9.out).mono ?_
    rintro e u10 ⟨vm,rfl,hom,hb10⟩
    obtain⟨ma,mc,rfl,hvm,_⟩:=View.ofOwned hom
    have HB10:=hide (HB9.out.trans (hb10.mono HB9.out.size))
    go_wp2_with fail
    refine (HH.out.rnext i u10 HB10.out).mono ?_
    rintro e u11 ⟨vn,rfl,hon,hb11⟩
    obtain⟨na,nc,rfl,hvn,_⟩:=View.ofOwned hon
    have HB11:=hide (HB10.out.trans (hb11.mono HB10.out.size))
    have HVM:=hide (hvm.below hb11)
    have HVN:=hide hvn
    clear hom hon hvm hvn hb10 hb11
    go_wp2_with fail
    refine (ints_true ma na _ mc nc (nx i) u11 HVM.out HVN.out rfl (by have:=HH.out.nxl i;omega)).mono ?_
    rintro e w12 ⟨rfl,q3,rfl⟩
    have HB12:=hide (growT HB11.out (drewT (Below.refl u11.heap.size u11) q3))
    generalize u11.drewN q3=u12 at *
    go_wp2_with fail
    refine (HH.out.ahead i u12 HB12.out).mono ?_
    rintro e u13 ⟨vr,rfl,hor,hb13⟩
    obtain⟨ra,rc,rfl,hvr,_⟩:=View.ofOwned hor
    have HB13:=hide (HB12.out.trans (hb13.mono HB12.out.size))
    go_wp2_with fail
    refine (HH.out.rahead i u13 HB13.out).mono ?_
    rintro e u14 ⟨vs,rfl,hos,hb14⟩
    obtain⟨sa,sc,rfl,hvs,_⟩:=View.ofOwned hos
    have HB14:=hide (HB13.out.trans (hb14.mono HB13.out.size))
    have HVR:=hide (hvr.below hb14)
    have HVS:=hide hvs
    clear hor hos hvr hvs hb13 hb14
    go_wp2_with fail
    refine (ints_true ra sa _ rc sc (ah i) u14 HVR.out HVS.out rfl (by have:=HH.out.ahl i;omega)).mono ?_
    rintro e w15 ⟨rfl,q4,rfl⟩
    have HB15:=hide (growT HB14.out (drewT (Below.refl u14.heap.size u14) q4))
    generalize u14.drewN q4=u15 at *
    go_wp2_with fail
    exact⟨⟨k+1,HLT.out,by have:=HII.out;congr 1;push_cast;omega,HB15.out⟩,by have:=HII.out;have:=HLT.out;simp [intOf];omega⟩
   ·have hle:¬ ((k:Int) - 1)≤(L:Int):=by omega
    have hld:decide (((k:Int) - 1)≤(L:Int))=false:=decide_eq_false hle
    generalize ((k:Int) - 1)=i at *
    clear hlt hk hle
    go_wp2_with fail
    refine hr0.mono ?_
    rintro e w1 ⟨rfl,rfl⟩
    clear hr0
    go_wp2_with fail
    refine (HH.out.order u0 HB0.out).mono ?_
    rintro e u1 ⟨vx,rfl,hox,hb1⟩
    obtain⟨xa,xc,rfl,hvx,_⟩:=View.ofOwned hox
    have HB1:=hide (HB0.out.trans (hb1.mono HB0.out.size))
    go_wp2_with fail
    refine (HH.out.rorder u1 HB1.out).mono ?_
    rintro e u2 ⟨vz,rfl,hoz,hb2⟩
    obtain⟨za,zc,rfl,hvz,_⟩:=View.ofOwned hoz
    have HB2:=hide (HB1.out.trans (hb2.mono HB1.out.size))
    have HVX:=hide (hvx.below hb2)
    have HOX:=hide (own_below hox hb2)
    have HVZ:=hide hvz
    have hodl:=HH.out.odl
    clear hox hoz hvx hvz hb1 hb2
    go_wp2_with fail
    refine (ints_true xa za _ xc zc od u2 HVX.out HVZ.out rfl (by omega)).mono ?_
    rintro e w3 ⟨rfl,q1,rfl⟩
    have HQ1:=hide (drewT (Below.refl u2.heap.size u2) q1)
    have HB3:=hide (growT HB2.out HQ1.out)
    generalize u2.drewN q1=u3 at *
    go_wp2_with fail
    have HOX3:=hide (own_below HOX.out HQ1.out)
    refine (spoilI_own _ _ _ od u3 HOX3.out rfl (by omega)).mono ?_
    rintro e u4 ⟨rfl,hg4,_⟩
    have HB4:=hide (HB3.out.grown hg4 HB3.out.size (fun j e=>by have:=(World.ownsRow.lt HOX3.out j e).1;have:=HB0.out.size;omega))
    clear hg4
    go_wp2_with fail
    refine (HH.out.order u4 HB4.out).mono ?_
    rintro e u5 ⟨vm,rfl,hom,hb5⟩
    obtain⟨ma,mc,rfl,hvm,_⟩:=View.ofOwned hom
    have HB5:=hide (HB4.out.trans (hb5.mono HB4.out.size))
    go_wp2_with fail
    refine (HH.out.rorder u5 HB5.out).mono ?_
    rintro e u6 ⟨vn,rfl,hon,hb6⟩
    obtain⟨na,nc,rfl,hvn,_⟩:=View.ofOwned hon
    have HB6:=hide (HB5.out.trans (hb6.mono HB5.out.size))
    have HVM:=hide (hvm.below hb6)
    have HVN:=hide hvn
    clear hom hon hvm hvn hb5 hb6
    go_wp2_with fail
    refine (ints_true ma na _ mc nc od u6 HVM.out HVN.out rfl (by omega)).mono ?_
    rintro e w7 ⟨rfl,q2,rfl⟩
    have HB7:=hide (growT HB6.out (drewT (Below.refl u6.heap.size u6) q2))
    generalize u6.drewN q2=u7 at *
    go_wp2_with fail
    go_ret
    exact⟨rfl,HB7.out⟩
theorem rn_parts {w w':World} {E1 E2:Int} {N:List (List Int)} {M:List (Int×Int×Int)} {e:Ending} (h:RnQ w w' E1 E2 N M e) :
  ∃ wp x c,e=.returned (.tuple #[.pointer wp,.slice x (if E1=0 then M else []).length c,.agg #[.int .i64 E1,.int .i64 E2]])∧Below w.heap.size w w'∧MgV w' x (if E1=0 then M else [])∧(E1=0→∃ p lo,wp=some ⟨p,0,none⟩∧RfG w' p lo N)∧(E1≠0→wp=none):=by
 obtain⟨hb,gv,mv,rfl,h⟩:=h
 rcases h with ⟨h1,rfl,rfl⟩ | ⟨h1,h2,p,lo,rfl,hG,x,c,rfl,hm⟩
 ·refine⟨none,none,0,by rw [if_neg h1];rfl,hb,fun k hk=>?_,fun e=>absurd e h1,fun _=>rfl⟩
  rw [if_neg h1] at hk;exact absurd hk (Nat.not_lt_zero k)
 ·exact⟨_,x,c,by rw [if_pos h1],hb,by rw [if_pos h1];exact hm,fun _=>⟨p,lo,rfl,hG⟩,fun e=>absurd h1 e⟩
theorem nw_parts {w w':World} {E1 E2:Int} {N:List (List Int)} {M:List (Int×Int×Int)} {e:Ending} (h:NewP w w' E1 E2 N M e) :
  ∃ gp x c,e=.returned (.tuple #[.pointer gp,.slice x (if E1=0 then M else []).length c,.agg #[.int .i64 E1,.int .i64 E2]])∧Below w.heap.size w w'∧MgV w' x (if E1=0 then M else [])∧(E1=0→∃ p,gp=some ⟨p,0,none⟩∧GrV w' w.heap.size p N)∧(E1≠0→gp=none):=by
 obtain⟨hb,gv,mv,rfl,h⟩:=h
 rcases h with ⟨h1,rfl,rfl⟩ | ⟨h1,h2,p,rfl,hG,hm⟩
 ·refine⟨none,none,0,by rw [if_neg h1];rfl,hb,fun k hk=>?_,fun e=>absurd e h1,fun _=>rfl⟩
  rw [if_neg h1] at hk;exact absurd hk (Nat.not_lt_zero k)
 ·obtain⟨x,c,rfl,hv⟩:=MgV.ofOwn hm
  exact⟨_,x,c,by rw [if_pos h1],hb,by rw [if_pos h1];exact hv,fun _=>⟨p,rfl,hG⟩,fun e=>absurd h1 e⟩
theorem MgV.below {w w':World} {x:Option Addr} {ms:List (Int×Int×Int)} (h:MgV w x ms) (hb:Below w.heap.size w w'):MgV w' x ms:=fun k hk=>by
 obtain⟨G,e,h1,h2,h3,h4⟩:=h k hk
 exact⟨G,e,Nat.lt_of_lt_of_le h1 hb.size,(hb.cell (p:=⟨G,k * 3,none⟩) h1).trans h2,(hb.cell (p:=⟨G,k * 3+1,none⟩) h1).trans h3,(hb.cell (p:=⟨G,k * 3+2,none⟩) h1).trans h4⟩
set_option maxHeartbeats 16000000 in
theorem one14_any (gen bnd:Int) (a:Option Addr) (n c:Nat) (l:List InstT) (fv:Value) (f:FuncT) (w:World) (hv:InstsV w a l) (hok:InstsOk l) (hl:l.length=n) (hn:40 * n≤140737488351232) (g0:0≤gen) (g1:gen<4294967296) (b0:0≤bnd) (b1:bnd<4294967296) (hf:FnR w fv f) :
  Calls Tryz.prog 7 #[modV gen bnd a n c,fv] w fun e w'=>e=.returned (.bool true)∧Below w.heap.size w w':=by
 have HRN:=hide fun wx (h:Below w.heap.size w wx)=>refNew14_any gen bnd a n c l fv f wx (hv.below h) hok hl hn g0 g1 b0 b1 (hf.below h)
 have HCP:=hide fun wx (h:Below w.heap.size w wx)=>copyModule_any gen bnd a n c l wx (hv.below h) hok hl hn
 have HNW:=hide fun wx ax (h:Below w.heap.size w wx) (h2:InstsV wx ax l)=>graphNew_any gen bnd ax n n l fv f wx h2 hok hl hn g0 g1 b0 b1 (hf.below h)
 have HKM:=hide fun wx ax (h:Below w.heap.size w wx) (h2:InstsV wx ax l)=>kitModule_any gen bnd gen bnd l l ax a n n n c wx h2 (hv.below h) hl hl hok hok (by omega) (by omega) true (by simp)
 obtain⟨xp,cp,xq,cq,rfl,hf1,hf2⟩:=hf.form
 obtain⟨E,hE⟩:∃ E,E=newE bnd l f:=⟨_,rfl⟩
 obtain⟨N,hN⟩:∃ E,E=newN l f:=⟨_,rfl⟩
 obtain⟨M,hM⟩:∃ E,E=newM l f:=⟨_,rfl⟩
 have HNW2:Hid (∀ wx ax,Below w.heap.size w wx→InstsV wx ax l→Calls Tryz.prog 13 #[modV gen bnd ax n n,.agg #[.int .u32 f.1,.int .i64 f.2.1,.slice xp f.2.2.1.length cp,.slice xq f.2.2.2.1.length cq,.int .i64 f.2.2.2.2]] wx fun e w'=>NewP wx w' E.1 E.2 (N.map onceF) M e):=fun wx ax h h2=>(HNW.out wx ax h h2).mono fun e w' hq=>newP_as hq (by rw [hE]) hN.symm hM.symm
 rw [← hE,← hN,← hM] at HRN
 have HLM:Hid (M.length=N.length):=by show _=_;rw [hM,hN];simp [newM,newN]
 clear hE hN hM HNW
 obtain⟨E1,E2⟩:=E
 obtain⟨fi,fa,fp,fb,fe⟩:=f
 simp only at *
 obtain⟨X,hX⟩:∃ X,(w.alloc (.cells #[.int .u32 gen,.int .u32 bnd,.slice a n c] 25)).alloc (.cells #[.int .u32 fi,.int .i64 fa,.slice xp fp.length cp,.slice xq fb.length cq,.int .i64 fe] 29)=X:=⟨_,rfl⟩
 have hbX:Below w.heap.size w X:=by rw [← hX];exact ((Below.refl _ w).alloc (Nat.le_refl _) _).alloc (by simp) _
 have k0:X.heap[w.heap.size]?=some (.cells #[.int .u32 gen,.int .u32 bnd,.slice a n c] 25 (0,0)):=by rw [← hX];exact allocOld (allocNew w _ rfl) _
 have k1:X.heap[w.heap.size+1]?=some (.cells #[.int .u32 fi,.int .i64 fa,.slice xp fp.length cp,.slice xq fb.length cq,.int .i64 fe] 29 (0,0)):=by rw [← hX];exact allocNew _ _ (by simp)
 have HBX:=hide hbX
 have K0:=hide k0
 have K1:=hide k1
 have hrn:=HRN.out X hbX
 obtain⟨m0,m1,m2⟩:=threeC k0
 obtain⟨n0,n1,n2,n3,n4⟩:=fiveCells k1
 unfold modV at *
 subst hX
 clear hv hok hl hn hf hf1 hf2 k0 k1 hbX HRN
 go_enter Tryz.func7,Tryz.ntmps7
 go_wp2_with fail
 generalize World.alloc (World.alloc w _) _=X at *
 generalize w.heap.size+1=B1 at *
 refine hrn.mono ?_
 rintro e w1 hq1
 obtain⟨wp,x1,c1,rfl,hb1,hm1,hR1,hR0⟩:=rn_parts hq1
 have HM1:=hide hm1
 have HR:=hide (And.intro hR1 hR0)
 have hb01:=HBX.out.trans (hb1.mono HBX.out.size)
 have HB1:=hide hb01
 have HS1:=hide (Below.refl w1.heap.size w1)
 generalize hMM:(if E1=0 then M else [])=MM at *
 have HMM:=hide hMM
 have ha1:Below w1.heap.size w1 (w1.alloc (.cells #[.int .i64 E1,.int .i64 E2] 33)):=(Below.refl _ w1).alloc (Nat.le_refl _) _
 have hb02:=hb01.trans (ha1.mono hb01.size)
 have HB2:=hide hb02
 have HA1:=hide ha1
 have k0:=allocOld ((hb1.block _ (Array.getElem?_eq_some_iff.1 K0.out).1).trans K0.out) (.cells #[.int .i64 E1,.int .i64 E2] 33)
 have k1:=allocOld ((hb1.block _ (Array.getElem?_eq_some_iff.1 K1.out).1).trans K1.out) (.cells #[.int .i64 E1,.int .i64 E2] 33)
 have k7:=allocNew w1 (.cells #[.int .i64 E1,.int .i64 E2] 33) rfl
 have L0:=hide k0
 have L1:=hide k1
 have L7:=hide k7
 have hcp:=HCP.out _ hb02
 obtain⟨m0,m1,m2⟩:=threeC k0
 clear hrn hq1 hm1 hR1 hR0 hb1 hb01 ha1 hb02 k0 k1 k7 K0 K1 HCP n0 n1 n2 n3 n4 hMM
 go_wp2_with fail
 generalize World.alloc w1 _=W1 at *
 refine hcp.mono ?_
 rintro e w2 ⟨g2,rfl,hg2,hV2,hb2⟩
 have hb03:=HB2.out.trans (hb2.mono HB2.out.size)
 have ha2:Below w2.heap.size w2 (w2.alloc (.cells #[.int .u32 gen,.int .u32 bnd,.slice (some ⟨g2,0,none⟩) n n] 25)):=(Below.refl _ w2).alloc (Nat.le_refl _) _
 have hb04:=hb03.trans (ha2.mono hb03.size)
 have HB4:=hide hb04
 have HC4:=hide (hb2.trans (ha2.mono hb2.size))
 have k0:=allocOld ((hb2.block _ (Array.getElem?_eq_some_iff.1 L0.out).1).trans L0.out) (.cells #[.int .u32 gen,.int .u32 bnd,.slice (some ⟨g2,0,none⟩) n n] 25)
 have k1:=allocOld ((hb2.block _ (Array.getElem?_eq_some_iff.1 L1.out).1).trans L1.out) (.cells #[.int .u32 gen,.int .u32 bnd,.slice (some ⟨g2,0,none⟩) n n] 25)
 have k7:=allocOld ((hb2.block _ (Array.getElem?_eq_some_iff.1 L7.out).1).trans L7.out) (.cells #[.int .u32 gen,.int .u32 bnd,.slice (some ⟨g2,0,none⟩) n n] 25)
 have k8:=allocNew w2 (.cells #[.int .u32 gen,.int .u32 bnd,.slice (some ⟨g2,0,none⟩) n n] 25) rfl
 have HV2:=hide (hV2.below ha2)
 have M0:=hide k0
 have M7:=hide k7
 have M8:=hide k8
 have hnw:=HNW2.out _ _ hb04 (hV2.below ha2)
 obtain⟨p0,p1,p2⟩:=threeC k8
 obtain⟨n0,n1,n2,n3,n4⟩:=fiveCells k1
 clear hcp hb2 hb03 ha2 hb04 k0 k1 k7 k8 L0 L1 L7 HNW2 hV2 hg2
 clear m0 m1 m2
 go_wp2_with fail
 generalize World.alloc w2 _=W2 at *
 refine hnw.mono ?_
 rintro e w3 hq3
 obtain⟨gp,x3,c3,rfl,hb3,hm3,hG1,hG0⟩:=nw_parts hq3
 have ha3:Below w3.heap.size w3 (w3.alloc (.cells #[.int .i64 E1,.int .i64 E2] 33)):=(Below.refl _ w3).alloc (Nat.le_refl _) _
 have hb34:=hb3.trans (ha3.mono hb3.size)
 have hm3':=hm3.below ha3
 rw [HMM.out] at hm3'
 rw [HMM.out]
 have HB5:=hide (HB4.out.trans (hb34.mono HB4.out.size))
 have h15:Below w1.heap.size w1 (w3.alloc (.cells #[.int .i64 E1,.int .i64 E2] 33)):=HA1.out.trans ((HC4.out.trans (hb34.mono HC4.out.size)).mono HA1.out.size)
 have HM1':=hide (HM1.out.below h15)
 have HMS:Hid (MM.length≤1048576):=by
  show _≤_
  rw [← HMM.out]
  by_cases e:E1=0
  ·rw [if_pos e]
   obtain⟨p,_,hG⟩:=hG1 e
   have:=hG.few
   rw [List.length_map] at this
   have:=HLM.out
   omega
  ·rw [if_neg e];exact Nat.zero_le _
 have HGG:Hid (∀ wx,Below w3.heap.size w3 wx→∃ L nx ah re od,Both wx gp wp L nx ah re od):=fun wx hx=>by
  by_cases e:E1=0
  ·obtain⟨p,hp,hG⟩:=hG1 e
   obtain⟨p2,lo2,hp2,hR⟩:=HR.out.1 e
   have h1x:Below w1.heap.size w1 wx:=(HA1.out.trans ((HC4.out.trans (hb3.mono HC4.out.size)).mono HA1.out.size)).trans (hx.mono (HA1.out.trans ((HC4.out.trans (hb3.mono HC4.out.size)).mono HA1.out.size)).size)
   exact both_of2 wx _ lo2 N gp wp 0 (fun _=>⟨p,hp,hG.below hx⟩) (fun h=>absurd rfl h) (fun _=>⟨p2,hp2,hR.below h1x⟩) (fun h=>absurd rfl h)
  ·exact both_of2 wx 0 0 N gp wp E1 (fun h=>absurd h e) (fun _=>hG0 e) (fun h=>absurd h e) (fun _=>HR.out.2 e)
 have k0:=allocOld ((hb3.block _ (Array.getElem?_eq_some_iff.1 M0.out).1).trans M0.out) (.cells #[.int .i64 E1,.int .i64 E2] 33)
 have k7:=allocOld ((hb3.block _ (Array.getElem?_eq_some_iff.1 M7.out).1).trans M7.out) (.cells #[.int .i64 E1,.int .i64 E2] 33)
 have k8:=allocOld ((hb3.block _ (Array.getElem?_eq_some_iff.1 M8.out).1).trans M8.out) (.cells #[.int .i64 E1,.int .i64 E2] 33)
 have k11:=allocNew w3 (.cells #[.int .i64 E1,.int .i64 E2] 33) rfl
 have hV3:=(HV2.out.below hb3).below ha3
 have HV3:=hide hV3
 have HA3:=hide ha3
 have P0:=hide k0
 have P8:=hide k8
 have hmer:=merges_same x3 x1 c3 c1 MM.length MM _ hm3' HM1'.out rfl HMS.out
 have s0:=(one_block k11).1 0
 have s1:=(one_block k11).1 1
 have s2:=(one_block k7).1 0
 have s3:=(one_block k7).1 1
 clear hnw hq3 hm3 hm3' hG1 hG0 hb3 hb34 ha3 k0 k7 k8 k11 M0 M7 M8 HR HV2 hV3 h15 HM1 HM1' HMS p0 p1 p2 n0 n1 n2 n3 n4 HMM
 generalize MM.length=mm at *
 go_wp2_with fail
 generalize World.alloc w3 _=W3 at *
 refine hmer.mono ?_
 rintro e w4 ⟨rfl,hb4⟩
 have hx4:=HA3.out.trans (hb4.mono HA3.out.size)
 obtain⟨Ln,nx,ah,re,od,hBo⟩:=HGG.out w4 hx4
 have htd:=told14_any w4 gp wp Ln nx ah re od hBo
 have HB6:=hide (HB5.out.trans (hb4.mono HB5.out.size))
 have HB46:=hide hb4
 clear hmer hx4 hBo HGG hb4 s0 s1 s2 s3
 go_wp2_with fail
 refine htd.mono ?_
 rintro e w5 ⟨rfl,hb5⟩
 have h35:=HB46.out.trans (hb5.mono HB46.out.size)
 have hmo:=HKM.out w5 _ (HB6.out.trans (hb5.mono HB6.out.size)) (HV3.out.below h35)
 have HB7:=hide (HB6.out.trans (hb5.mono HB6.out.size))
 obtain⟨m0,m1,m2⟩:=threeC ((h35.block _ (Array.getElem?_eq_some_iff.1 P0.out).1).trans P0.out)
 obtain⟨p0,p1,p2⟩:=threeC ((h35.block _ (Array.getElem?_eq_some_iff.1 P8.out).1).trans P8.out)
 clear htd hb5 h35 HKM
 go_wp2_with fail
 refine hmo.mono ?_
 rintro e w6 ⟨rfl,hb6⟩
 have HB8:=hide (HB7.out.trans (hb6.mono HB7.out.size))
 clear hmo hb6 m0 m1 m2 p0 p1 p2
 go_wp2_with fail
 go_ret
 exact⟨rfl,HB8.out⟩
end Go.Proofs.YtlcaedibmlidlaaGreat
