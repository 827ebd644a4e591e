/-
  Texts in one: Ref13Lift, Law13Rows, Bulk, ArgWLists, LawArithLifts.
-/
import Derived.Test.YtonhnflilfjkbaaGreatB08
import Derived.BigFrame
import Derived.Test.YtonhnflilfjkbaaGreatRows
import Derived.SizedLaws
import Derived.Deep.Matrix
namespace Go.Proofs.YtonhnflilfjkbaaGreat
open Go.RowKit Go.Maps
set_option linter.unusedVariables false
set_option linter.unusedSimpArgs false
set_option maxRecDepth 10000
theorem wpList_appW {w:World} {ops:Array Oper} {rest:List Oper} {o:Oper} {a:Act} {Q:Exit→Act→World→Prop} (hgd:o.guard=none) (s x:Operand) (ho:o.op=.call { callee:=.builtin .append,args:=#[s,x],argTypes:=#[24,24] })
  (lo:Nat) (v:Value) (zs:List Int) (y:Int) (hs:a.eval s=v) (B:Nat) (hx:a.eval x=.slice (some ⟨B,0,none⟩) 1 1) (hB:w.heap[B]?=some (.cells #[.int .u32 y] 34 (0,0))) (hown:w.ownsRow lo 34 1 v zs.length (zs.map (Value.int .u32))) (hn:zs.length<17592186044415) (hlo:lo≤w.heap.size)
  (h:∀ g cap w',w'.ownsRow lo 34 1 (.slice (some ⟨g,0,none⟩) (zs.length+1) cap) (zs++[y]).length ((zs++[y]).map (Value.int .u32))→w.grownBy w' v.ownBlock→(v.ownBlock=some g∨g=w.heap.size)→wpList Tryz.prog ops Q rest (a.put o.dst (.slice (some ⟨g,0,none⟩) (zs.length+1) cap)) w'):wpList Tryz.prog ops Q (o :: rest) a w:=by
 obtain⟨i0,hi,hz0,hz1,hz2⟩:=info_parts CopyWords.info
 refine wpList_append_lies w hgd s x 24 ho lo 34 i0 (.int .u32 0) 1 4 Tryz.underlying24 hi hz0 hz1 hz2 rfl (by decide) v zs.length (zs.map (Value.int .u32)) hs hown ⟨B,0,none⟩ 1 1 [.int .u32 y] hx rfl (World.news_of_block (cs:=#[.int .u32 y]) (t:=34) (fr:=(0,0)) hB) (by intro u hu;simp at hu;subst hu;rfl) (by decide) (by unfold maxLen;omega) (by omega) hlo w.heap.size rfl ?_
 intro g cap w' h1 h2 h3 _
 exact h g cap w' (by simpa using h1) h2 h3
structure TwoR (w : World) (lo : Nat) (v1 v2 : Value) (xs ys : List Int) : Prop where
  own1 : w.ownsRow lo 34 1 v1 xs.length (xs.map (Value.int .u32))
  own2 : w.ownsRow lo 34 1 v2 ys.length (ys.map (Value.int .u32))
  apart : ∀ g, v1.ownBlock = some g → v2.ownBlock = some g → False
theorem ownBlock_lt {w:World} {lo e size n g:Nat} {v:Value} {xs:List Value} (h:w.ownsRow lo e size v n xs) (hg:v.ownBlock=some g):lo≤g∧g<w.heap.size:=by
 rcases h.2 with ⟨rfl,_⟩ | ⟨g',cap',cur,rfl,h2,h3,_⟩
 ·simp [Value.ownBlock] at hg
 ·simp [Value.ownBlock] at hg;subst hg;exact⟨h2,(Array.getElem?_eq_some_iff.1 h3).1⟩
theorem TwoR.nil (w:World) (lo:Nat):TwoR w lo (.slice none 0 0) (.slice none 0 0) [] []:=⟨World.ownsRow_nil _ _ _ _,World.ownsRow_nil _ _ _ _,fun g h=>by simp [Value.ownBlock] at h⟩
theorem TwoR.below {w w':World} {lo:Nat} {v1 v2:Value} {xs ys:List Int} (h:TwoR w lo v1 v2 xs ys) (hb:Below w.heap.size w w'):TwoR w' lo v1 v2 xs ys:=⟨own_below h.own1 hb,own_below h.own2 hb,h.apart⟩
theorem TwoR.app1 {w w':World} {lo g cap n:Nat} {v1 v2:Value} {xs ys:List Int} {x:Int} (h:TwoR w lo v1 v2 xs ys) (ho:w'.ownsRow lo 34 1 (.slice (some ⟨g,0,none⟩) n cap) (xs++[x]).length ((xs++[x]).map (Value.int .u32))) (hg:w.grownBy w' v1.ownBlock) (hor:v1.ownBlock=some g∨g=w.heap.size):TwoR w' lo (.slice (some ⟨g,0,none⟩) n cap) v2 (xs++[x]) ys:=by
 refine⟨ho,h.own2.kept hg ?_,fun g' e1 e2=>?_⟩
 ·cases e:v2.ownBlock with
  | none=>exact .inl rfl
  | some g2=>exact .inr fun e1=>h.apart g2 e1.symm e
 ·simp [Value.ownBlock] at e1
  subst e1
  rcases hor with h1 | h1
  ·exact h.apart _ h1 e2
  ·have:=(ownBlock_lt h.own2 e2).2;omega
theorem TwoR.app2 {w w':World} {lo g cap n:Nat} {v1 v2:Value} {xs ys:List Int} {y:Int} (h:TwoR w lo v1 v2 xs ys) (ho:w'.ownsRow lo 34 1 (.slice (some ⟨g,0,none⟩) n cap) (ys++[y]).length ((ys++[y]).map (Value.int .u32))) (hg:w.grownBy w' v2.ownBlock) (hor:v2.ownBlock=some g∨g=w.heap.size):TwoR w' lo v1 (.slice (some ⟨g,0,none⟩) n cap) xs (ys++[y]):=by
 refine⟨h.own1.kept hg ?_,ho,fun g' e1 e2=>?_⟩
 ·cases e:v1.ownBlock with
  | none=>exact .inl rfl
  | some g2=>exact .inr fun e1=>h.apart g2 e e1.symm
 ·simp [Value.ownBlock] at e2
  subst e2
  rcases hor with h1 | h1
  ·exact h.apart _ e1 h1
  ·have:=(ownBlock_lt h.own1 e1).2;omega
theorem TwoR.grow1 {w w':World} {lo:Nat} {v1 v2:Value} {xs ys:List Int} (h:TwoR w lo v1 v2 xs ys) (hlo:lo≤w.heap.size) (hg:w.grownBy w' v1.ownBlock):Below lo w w':=(Below.refl _ w).grown hg hlo (fun k hk=>(ownBlock_lt h.own1 hk).1)
theorem TwoR.grow2 {w w':World} {lo:Nat} {v1 v2:Value} {xs ys:List Int} (h:TwoR w lo v1 v2 xs ys) (hlo:lo≤w.heap.size) (hg:w.grownBy w' v2.ownBlock):Below lo w w':=(Below.refl _ w).grown hg hlo (fun k hk=>(ownBlock_lt h.own2 hk).1)
def dcV (op:Int) (n:Nat) (zs:List Int):Int:=if n=1 then unV op (nth zs 0) else if n=2 then (if prB op=true then prX op (nth zs 0) (nth zs 1) else binV op (nth zs 0) (nth zs 1)) else fiV op zs
def dcL (op:Int) (n:Nat) (ls:List (List Int)) (q:Nat):List Int:=(List.range q).map fun k=>dcV op n (colL ls k)
def dsL (op:Int) (n:Nat) (ls:List (List Int)) (q:Nat):List Int:=if n=2∧prB op=true then (List.range q).map fun k=>prY op (nth (colL ls k) 0) (nth (colL ls k) 1) else []
def cntL (zs:List Int):Nat→Nat
 | 0=>0
 | k+1=>cntL zs k+if nth zs k=0 then 0 else 1
theorem cntL_le (zs:List Int):∀ k,cntL zs k≤k
 | 0=>Nat.le_refl _
 | k+1=>by have:=cntL_le zs k;rw [cntL];split <;> omega
theorem dcL_succ (op:Int) (n:Nat) (ls:List (List Int)) (q:Nat):dcL op n ls (q+1)=dcL op n ls q++[dcV op n (colL ls q)]:=by simp [dcL,List.range_succ]
theorem dcL_len (op:Int) (n:Nat) (ls:List (List Int)) (q:Nat):(dcL op n ls q).length=q:=by simp [dcL]
theorem dsL_len (op:Int) (n:Nat) (ls:List (List Int)) (q:Nat):(dsL op n ls q).length≤q:=by unfold dsL;split <;> simp
theorem cnt_any (zs:List Int):∀ k,k≤zs.length→(0<cntL zs k↔∃ j,j<k∧nth zs j≠0)
 | 0,_=>by simp [cntL]
 | k+1,h=>by
  have ih:=cnt_any zs k (by omega)
  rw [cntL]
  by_cases e:nth zs k=0
  ·rw [if_pos e,Nat.add_zero,ih]
   constructor
   ·rintro⟨j,h1,h2⟩;exact⟨j,by omega,h2⟩
   ·rintro⟨j,h1,h2⟩
    by_cases ej:j=k
    ·subst ej;exact absurd e h2
    ·exact⟨j,by omega,h2⟩
  ·rw [if_neg e]
   constructor
   ·intro _;exact⟨k,by omega,e⟩
   ·intro _;omega
theorem cnt_all (zs:List Int):∀ k,k≤zs.length→(cntL zs k=k↔∀ j,j<k→nth zs j≠0)
 | 0,_=>by simp [cntL]
 | k+1,h=>by
  have ih:=cnt_all zs k (by omega)
  have:=cntL_le zs k
  rw [cntL]
  by_cases e:nth zs k=0
  ·rw [if_pos e]
   constructor
   ·intro h1;omega
   ·intro h1;exact absurd e (h1 k (by omega))
  ·rw [if_neg e]
   constructor
   ·intro h1 j hj
    by_cases ej:j=k
    ·subst ej;exact e
    ·exact ih.1 (by omega) j (by omega)
   ·intro h1
    rw [ih.2 fun j hj=>h1 j (by omega)]
theorem any_cnt (zs:List Int):anyB true zs=decide (0<cntL zs zs.length):=by
 have h:=cnt_any zs zs.length (Nat.le_refl _)
 rw [Bool.eq_iff_iff,decide_eq_true_eq,h]
 unfold anyB
 rw [List.any_eq_true]
 constructor
 ·rintro⟨z,hz,e⟩
  obtain⟨j,hj,rfl⟩:=List.mem_iff_getElem.1 hz
  exact⟨j,hj,by simpa [nth,List.getD,hj] using e⟩
 ·rintro⟨j,hj,e⟩
  exact⟨zs[j],List.getElem_mem hj,by simpa [nth,List.getD,hj] using e⟩
theorem all_cnt (zs:List Int):(!anyB false zs)=decide (cntL zs zs.length=zs.length):=by
 have h:=cnt_all zs zs.length (Nat.le_refl _)
 rw [Bool.eq_iff_iff,decide_eq_true_eq,h]
 unfold anyB
 rw [Bool.not_eq_true',List.any_eq_false]
 constructor
 ·intro h1 j hj e
  exact h1 zs[j] (List.getElem_mem hj) (by simpa [nth,List.getD,hj] using e)
 ·intro h1 z hz e
  obtain⟨j,hj,rfl⟩:=List.mem_iff_getElem.1 hz
  exact h1 j hj (by simpa [nth,List.getD,hj] using e)
theorem dc_whole (op:Int) (n:Nat) (ls:List (List Int)) (hl:ls.length=n) (har:(n:Int)=arV op) (h0:arV op≠0) (hr:¬ (op=154∨op=155)) :
  dcL op n ls (nthL ls 0).length++dsL op n ls (nthL ls 0).length=lfL op ls:=by
 unfold lfL
 rw [if_neg hr]
 by_cases hp:prB op=true
 ·have h2:n=2:=by have:=ar_pr op hp;omega
  subst h2
  rw [if_pos hp]
  have c0:∀ k,nth (colL ls k) 0=nth (nthL ls 0) k:=fun k=>colL_at ls k 0 (by omega)
  have c1:∀ k,nth (colL ls k) 1=nth (nthL ls 1) k:=fun k=>colL_at ls k 1 (by omega)
  simp [dcL,dsL,dcV,hp,pairL,c0,c1]
 ·rw [if_neg hp]
  have hpf:prB op=false:=by simpa using hp
  have hs:=ar_some op h0 hr hpf
  have e:dsL op n ls (nthL ls 0).length=[]:=by unfold dsL;rw [if_neg (by simp [hpf])]
  rw [e,List.append_nil]
  unfold dcL eachL
  congr 1
  funext k
  unfold dcV wdV
  rcases hs with h | h | h
  ·have:=ar_bin op h
   have h2:n=2:=by omega
   subst h2
   simp [h,hpf]
  ·have:=ar_un op h
   have h2:n=1:=by omega
   subst h2
   simp [h,un_bin op h]
  ·have hm:op=169∨op=201∨op=202∨op=203:=by simpa [moB] using h
   have hb:binB op=false:=by rcases hm with h | h | h | h <;> subst h <;> decide +kernel
   have hu:unB op=false:=by rcases hm with h | h | h | h <;> subst h <;> decide +kernel
   have ha:3≤arV op:=by rcases hm with h | h | h | h <;> subst h <;> decide +kernel
   rw [if_neg (by omega),if_neg (by omega),hb,hu]
   simp only [Bool.false_eq_true,if_false]
   unfold fiV
   rw [if_pos ⟨h,by rw [colL_len,hl];exact har⟩]
theorem bel4 {w wk w4 w5:World} {o:_} (hbg:Below w.heap.size w wk) (hb4:Below wk.heap.size wk w4) (h5:Below w.heap.size (w4.alloc o) w5):Below w.heap.size w w5 :=
 ((hbg.trans (hb4.mono hbg.size)).alloc (hbg.trans (hb4.mono hbg.size)).size o).trans h5
theorem mul64 (z:Nat) (h:z≤140737488351232):IntKind.i64.wrap ((z:Int)+1)=(z:Int)+1:=by rw [IntKind.wrap_i64];omega
set_option maxHeartbeats 8000000 in
theorem refLift13_any (op:Int) (a:Option Addr) (n c:Nat) (ls:List (List Int)) (w:World) (h0:0≤op) (h1:op<65536) (hv:ListsV w a ls) (hok:ListsOk ls) (hl:ls.length=n) (hn:24 * n≤140737488351232) (hu:∀ j,j<ls.length→(nthL ls j).length≤1048576) :
  Calls Tryz.prog 4 #[.int .u16 op,.slice a n c] w fun e w'=>Below w.heap.size w w'∧((lfB op ls=false∧e=.returned (.tuple #[.slice none 0 0,.int .i64 2]))∨(lfB op ls=true∧∃ v,e=.returned (.tuple #[v,.int .i64 0])∧w'.ownsRow w.heap.size 34 1 v (lfL op ls).length ((lfL op ls).map (Value.int .u32)))):=by
 have hA:=fun w=>refArity_any op w h0 h1
 by_cases e0:arV op=0
 ·have HF:lfB op ls=false:=by unfold lfB;rw [e0];rfl
  rw [e0] at hA
  rw [HF]
  clear hv hok e0 HF hu
  go_enter Tryz.func4,Tryz.ntmps4
  go_wp2_with fail
  refine (hA _).mono ?_
  rintro e w1 ⟨rfl,hb1⟩
  go_wp2
  go_ret2
  exact⟨hb1,.inl ⟨trivial,rfl⟩⟩
 by_cases e1:(n:Int)=arV op
 ·have HAR:=hide e1
  have HZ:=hide e0
  rw [← e1] at hA e0
  clear e1
  have h0n:0<n:=by omega
  have d0i:((n:Int)==0)=false:=by simp;omega
  have d0n:(n==0)=false:=by simp;omega
  have d1i:((n:Int)=0)=False:=by simp;omega
  have d1n:(n=0)=False:=by simp;omega
  have HU:=hide hu
  have HL:=hide hl
  have HN:=hide hn
  have HOK:=hide hok
  obtain⟨b,off,a0,m,c0,rfl,hb,hc0,hcl0,hv0⟩:=hv 0 (by omega)
  rw [Nat.add_zero] at hc0
  have HV0:=hide hv0
  clear hv0
  have HV:=hide hv
  have hmu:m≤1048576:=by rw [← hcl0];exact hu 0 (by omega)
  have HCL0:=hide hcl0
  clear hv hok hu hl hcl0
  go_enter Tryz.func4,Tryz.ntmps4
  go_wp2_with fail
  refine (hA _).mono ?_
  rintro e w1 ⟨rfl,hb1⟩
  go_wp2_with fail
  refine (hA _).mono ?_
  rintro e w2 ⟨rfl,hb2⟩
  have hbw:=hb1.trans (hb2.mono hb1.size)
  clear hb1 hb2 hA
  go_wp2
  go_loopw [6] (fun i wr=>∃ k:Nat,k≤n∧i=.int .i64 k∧Below w.heap.size w wr∧levTo ls k=true) (fun i _=>n - (intOf i).toNat)
  case atStart=>exact⟨0,Nat.zero_le _,rfl,hbw,rfl⟩
  case round =>
   obtain⟨k,hk,rfl,hbr,ha⟩:=hrel
   clear hbw
   have hc0r:=(hbr.cell (p:=⟨b,off,none⟩) hb).trans hc0
   have h0i:(0:Int)<(n:Int):=by omega
   by_cases hlt:k<n
   ·have hkl:k<ls.length:=by rw [HL.out];exact hlt
    obtain⟨b',off',aj,nj,cj,e1,hb',hc,hcl,hvj⟩:=HV.out k hkl
    simp only [Option.some.injEq,Addr.mk.injEq,and_true] at e1
    obtain⟨rfl,rfl⟩:=e1
    have hcr:=(hbr.cell (p:=⟨b,off+k,none⟩) hb').trans hc
    have hki:(k:Int)<(n:Int):=by omega
    have hkm:(k:Int)<140737488351232:=by have:=HN.out;omega
    have HLT:=hide hlt
    have HBR:=hide hbr
    have HE:Hid (levTo ls (k+1)=decide (nj=m)):=by show (levTo ls k && decide ((nthL ls k).length=(nthL ls 0).length))=_;rw [ha,hcl,HCL0.out];rfl
    have HD:Hid (levTo ls (k+1)=false→levB ls=false):=fun h=>by
     cases hq:levB ls
     ·rfl
     ·have:=levTo_down ls (ls.length - (k+1)) (k+1) (by rw [show k+1+(ls.length - (k+1))=ls.length by omega];exact hq)
      rw [h] at this;cases this
    clear ha hk hlt hkl hvj hcl hc hb' hbr
    by_cases hj:nj=m
    ·subst hj
     have HR:Hid (levTo ls (k+1)=true):=by show _=true;rw [HE.out];simp
     go_wp2
     go_quiet (fail)
     go_wp2
     exact⟨⟨k+1,HLT.out,by simp,bel_drewN HBR.out _,HR.out⟩,measZ HLT.out⟩
    ·have HR:Hid (levB ls=false):=HD.out (by rw [HE.out];simp [hj])
     have hjb:((nj:Int) != (m:Int))=true:=by simp;omega
     clear hj HE HD
     go_wp2
     go_quiet (fail)
     go_wp2
     go_ret2
     exact⟨bel_drewN HBR.out _,.inl ⟨by unfold lfB;rw [HR.out];simp,rfl⟩⟩
   ·have e:n=k:=by omega
    subst e
    have hlev:levB ls=true:=by show levTo ls ls.length=true;rw [HL.out];exact ha
    have HF:lfB op ls=true:=by unfold lfB;rw [hlev,HL.out];simp [HZ.out,HAR.out]
    have HFF:=hide HF
    clear HF ha hk hlt
    have HLEV:=hide (lev_len hlev)
    have HN4:=hide (show n≤4 by have:=ar_most op;have:=HAR.out;omega)
    clear hlev
    generalize wr=W0 at *
    have HBW:=hide hbr
    clear hbr hc0r
    go_wp2
    go_loopw [7,8,9,10] (fun cv v1 v2 i wr=>∃ q:Nat,q≤m∧i=.int .i64 q∧cv=.int .i64 (cntL (nthL ls 0) q)∧Below w.heap.size w wr∧TwoR wr w.heap.size v1 v2 (dcL op n ls q) (dsL op n ls q)) (fun _ _ _ i _=>m - (intOf i).toNat)
    case atStart=>exact⟨0,Nat.zero_le _,rfl,rfl,HBW.out,by have e:dsL op n ls 0=[]:=(by unfold dsL;split <;> simp);rw [e];exact TwoR.nil _ _⟩
    case round =>
     obtain⟨q,hq,rfl,rfl,hbr,hT⟩:=hrel
     clear HBW
     have hc0r:=(hbr.cell (p:=⟨b,off,none⟩) hb).trans hc0
     have hcle:=cntL_le (nthL ls 0) q
     by_cases hlt:q<m
     ·obtain⟨b0,o0,rfl,hb0,hcx⟩:=HV0.out q (by rw [HCL0.out];exact hlt)
      have hcxr:=(hbr.cell (p:=⟨b0,o0+q,none⟩) hb0).trans hcx
      have hqi:(q:Int)<(m:Int):=by omega
      have h0i:(0:Int)<(n:Int):=by omega
      have HLT:=hide hlt
      have HT:=hide hT
      have HBR:=hide hbr
      have hwc:IntKind.i64.wrap ((cntL (nthL ls 0) q:Int)+1)=(cntL (nthL ls 0) q:Int)+1:=mul64 _ (by omega)
      have hcs:cntL (nthL ls 0) (q+1)=cntL (nthL ls 0) q+if nth (nthL ls 0) q=0 then 0 else 1:=rfl
      have HCA:Hid (nth (nthL ls 0) q=0→(cntL (nthL ls 0) q:Int)=(cntL (nthL ls 0) (q+1):Int)):=fun h=>by rw [hcs,if_pos h,Nat.add_zero]
      have HCB:Hid (¬ nth (nthL ls 0) q=0→(cntL (nthL ls 0) q:Int)+1=(cntL (nthL ls 0) (q+1):Int)):=fun h=>by rw [hcs,if_neg h];omega
      clear hlt hq hT hbr hcs hcle hcx
      generalize (cntL (nthL ls 0) q:Int)=C at *
      generalize hDD:(cntL (nthL ls 0) (q+1):Int)=D at *
      have HDD:=hide hDD
      clear hDD
      generalize nth (nthL ls 0) q=x at *
      generalize wr=wo at *
      by_cases hx:x=0
      case' pos =>
       have HC:=hide (HCA.out hx)
       subst hx
      case' neg =>
       have HC:=hide (HCB.out hx)
       have hxn:(x != 0)=true:=by simpa using hx
      all_goals
       clear HCA HCB
       go_wp2
       go_loopw [11,12] (fun vw i wk=>∃ k:Nat,k≤n∧i=.int .i64 k∧Below wo.heap.size wo wk∧wk.ownsRow wo.heap.size 34 1 vw ((colL ls q).take k).length (((colL ls q).take k).map (Value.int .u32))) (fun _ i _=>n - (intOf i).toNat)
       case atStart=>exact⟨0,Nat.zero_le _,rfl,Below.refl _ _,by rw [List.take_zero];exact World.ownsRow_nil _ _ _ _⟩
       case round =>
        obtain⟨k,hk,rfl,hbk,hown⟩:=hrel
        generalize wr=wk at *
        by_cases hlk:k<n
        ·obtain⟨b',off',aj,nj,cj,e1,hb',hcj,hclj,hvj⟩:=HV.out k (by rw [HL.out];exact hlk)
         simp only [Option.some.injEq,Addr.mk.injEq,and_true] at e1
         obtain⟨rfl,rfl⟩:=e1
         have hnj:nj=m:=hclj.symm.trans ((HLEV.out k (by rw [HL.out];exact hlk)).trans HCL0.out)
         subst hnj
         obtain⟨b2,off2,rfl,hb2,hc2⟩:=hvj q (by rw [hclj];exact HLT.out)
         have hbg:Below w.heap.size w wk:=HBR.out.trans (hbk.mono HBR.out.size)
         have hcr:=(hbg.cell (p:=⟨b,off+k,none⟩) hb').trans hcj
         have hcy:=(hbg.cell (p:=⟨b2,off2+q,none⟩) hb2).trans hc2
         have hki:(k:Int)<(n:Int):=by omega
         have hkm:(k:Int)<140737488351232:=by have:=HN.out;omega
         have HLK:=hide hlk
         have hlen:((colL ls q).take k).length=k:=by rw [List.length_take,colL_len,HL.out];omega
         have htk:(colL ls q).take (k+1)=(colL ls q).take k++[nth (nthL ls k) q]:=by rw [← colL_at ls q k (by rw [HL.out];exact hlk)];exact take_snoc (colL ls q) k (by rw [colL_len,HL.out];exact hlk)
         generalize nth (nthL ls k) q=y at *
         have HTK:=hide htk
         have HO2:=hide (own_below hown ((Below.refl _ wk).alloc (Nat.le_refl _) (.cells #[.int .u32 y] 34)))
         have HBK:=hide (hbk.alloc hbk.size (.cells #[.int .u32 y] 34))
         have HLEN:=hide hlen
         have HSZ:=hide hbk.size
         have HLO:=hide (fun g (hg:Value.ownBlock _=some g)=>(ownBlock_lt hown hg).1)
         clear hown hbk htk hlen hbg hvj hclj hlk hk hcj hc2 hb2 hb'
         generalize (colL ls q).take k=zs at *
         go_wp2_with (at_builtin;refine wpList_appW rfl (.tmp 71) (.tmp 79) rfl wo.heap.size _ zs y rfl wk.heap.size rfl (heap_alloc_new _ _) HO2.out (by have:=HLEN.out;have:=HN4.out;have:=HLK.out;omega) (by have:=HSZ.out;simp;omega) ?_)
         intro g cap w5 hown5 hgr5 hor5
         have HB5:=hide (HBK.out.grown hgr5 (by have:=HSZ.out;simp;omega) (fun g hg=>HLO.out g hg))
         have HO5:=hide hown5
         clear hown5 hgr5 hor5
         go_wp2
         exact⟨⟨k+1,HLK.out,by simp,HB5.out,by rw [HTK.out];simpa using HO5.out⟩,measZ HLK.out⟩
        ·have e:n=k:=by omega
         subst e
         rw [List.take_of_length_le (by rw [colL_len,HL.out];omega)] at hown
         have hlc:(colL ls q).length=n:=by rw [colL_len,HL.out]
         rw [hlc] at hown
         obtain⟨gw,cw,rfl,_,hgw,_,_,hcw⟩:=own_form hown h0n
         have hwi:Within 4294967296 (colL ls q):=col_in HOK.out (fun j hj=>(HLEV.out j hj).trans HCL0.out) HLT.out
         have hbg:Below w.heap.size w wk:=HBR.out.trans (hbk.mono HBR.out.size)
         have HTK:=hide (HT.out.below hbk)
         have hvw:View .u32 wk (some ⟨gw,0,none⟩) (colL ls q):=View.ofRow hown hlc
         have x0:=hcw 0 (by omega)
         rw [List.getElem?_map,List.getElem?_eq_getElem (by omega),Option.map_some] at x0
         have ex0:(colL ls q)[0]=nth (colL ls q) 0:=by simp [nth,List.getD,hlc,h0n]
         rw [ex0] at x0
         have i0:=hwi.at (k:=0) (by omega)
         have HBG:=hide hbg
         have hlo:w.heap.size≤wk.heap.size:=hbg.size
         clear hbg hbk hk hlk
         by_cases n1:n=1
         ·have n1i:((n:Int)==1)=true:=by simp;omega
          have n1n:(n==1)=true:=by simp;omega
          have hU:=refUnary_any op (nth (colL ls q) 0) wk i0.1 i0.2
          have hdc:dcV op n (colL ls q)=unV op (nth (colL ls q) 0):=by unfold dcV;rw [if_pos n1]
          have HDS:Hid (dsL op n ls q=[]∧dsL op n ls (q+1)=[]):=⟨by unfold dsL;rw [if_neg (by omega)],by unfold dsL;rw [if_neg (by omega)]⟩
          have HDC:=hide ((dcL_succ op n ls q).trans (by rw [hdc]))
          have HDL:=hide (dcL_len op n ls q)
          generalize unV op (nth (colL ls q) 0)=X at *
          generalize nth (colL ls q) 0=y at *
          clear hown hcw hwi hvw hdc n1
          go_wp2_with fail
          refine hU.mono ?_
          rintro e w4 ⟨rfl,hb4⟩
          have HT4:=hide (HTK.out.below (hb4.alloc hb4.size (.cells #[.int .u32 X] 34)))
          have HSZ4:=hide (Nat.le_trans hlo hb4.size)
          have HB4:=hide hb4
          clear hb4
          go_wp2_with (at_builtin;refine wpList_appW rfl (.tmp 92) (.tmp 94) rfl w.heap.size _ (dcL op n ls q) X rfl _ rfl (heap_alloc_new _ _) HT4.out.own1 (by rw [HDL.out];have:=HLT.out;omega) (by have:=HSZ4.out;simp;omega) ?_)
          intro g cap w5 hown5 hgr5 hor5
          have HT5:=hide (HT4.out.app1 (by simpa using hown5) hgr5 (by simpa using hor5))
          have HB5:=hide (bel4 HBG.out HB4.out (HT4.out.grow1 (by have:=HSZ4.out;simp;omega) hgr5))
          clear hown5 hgr5 hor5
          go_wp2
          exact⟨⟨q+1,HLT.out,by simp,by rw [HC.out,HDD.out],HB5.out,by rw [HDC.out,HDS.out.2];have h:=HT5.out;rw [HDS.out.1] at h;exact h⟩,measZ HLT.out⟩
         by_cases n2:n=2
         ·have n1i:((n:Int)==1)=false:=by simp;omega
          have n1n:(n==1)=false:=by simp;omega
          have n2i:((n:Int)==2)=true:=by simp;omega
          have n2n:(n==2)=true:=by simp;omega
          have h1i:(1:Int)<(n:Int):=by omega
          have x1:=hcw 1 (by omega)
          rw [List.getElem?_map,List.getElem?_eq_getElem (by omega),Option.map_some] at x1
          have ex1:(colL ls q)[1]'(by omega)=nth (colL ls q) 1:=by simp [nth,List.getD,hlc,n2]
          rw [ex1] at x1
          have i1:=hwi.at (k:=1) (by omega)
          have hP:=fun d=>refPair_any op (nth (colL ls q) 0) (nth (colL ls q) 1) (wk.drewN d) i0.1 i0.2 i1.1 i1.2
          have hBn:=fun W=>refBinary_any op (nth (colL ls q) 0) (nth (colL ls q) 1) W h0 h1 i0.1 i0.2 i1.1 i1.2
          have HDL:=hide (dcL_len op n ls q)
          have HDY:=hide (dsL_len op n ls q)
          cases hp:prB op
          ·have hdc:dcV op n (colL ls q)=binV op (nth (colL ls q) 0) (nth (colL ls q) 1):=by unfold dcV;rw [if_neg n1,if_pos n2,hp];rfl
           have HDS:Hid (dsL op n ls q=[]∧dsL op n ls (q+1)=[]):=⟨by unfold dsL;rw [hp];simp,by unfold dsL;rw [hp];simp⟩
           have HDC:=hide ((dcL_succ op n ls q).trans (by rw [hdc]))
           simp only [hp] at hP
           clear hown hcw hwi hvw hdc ex0 ex1 i0 i1 hp n1 n2
           generalize binV op (nth (colL ls q) 0) (nth (colL ls q) 1)=X at *
           generalize binB op=F at *
           generalize prX op (nth (colL ls q) 0) (nth (colL ls q) 1)=P1 at *
           generalize prY op (nth (colL ls q) 0) (nth (colL ls q) 1)=P2 at *
           generalize nth (colL ls q) 0=y0 at *
           generalize nth (colL ls q) 1=y1 at *
           go_wp2_with fail
           go_quiet ((go_at_call 11;exact Calls.quiet_of_same ((hP _).mono fun _ _ h=>⟨h.1,h.2.symm⟩)))
           go_wp2
           have xd0:(wk.drewN nq).drew.cell? ⟨gw,0,none⟩=some (.int .u32 y0):=x0
           have xd1:(wk.drewN nq).drew.cell? ⟨gw,1,none⟩=some (.int .u32 y1):=x1
           go_region_with (go_at_call 12;refine (hBn _).mono ?_;rintro e w4 ⟨rfl,hb4⟩)
           all_goals
            have hb5:=((bel_drewN (Below.refl wk.heap.size wk) nq).drew).trans hb4
            have HT4:=hide (HTK.out.below (hb5.alloc hb5.size (.cells #[.int .u32 X] 34)))
            have HSZ4:=hide (Nat.le_trans hlo hb5.size)
            have HB4:=hide hb5
            clear hb4 hb5
            go_wp2_with (at_builtin;refine wpList_appW rfl (.tmp 131) (.tmp 133) rfl w.heap.size _ (dcL op n ls q) X rfl _ rfl (heap_alloc_new _ _) HT4.out.own1 (by rw [HDL.out];have:=HLT.out;omega) (by have:=HSZ4.out;simp;omega) ?_)
            intro g cap w5 hown5 hgr5 hor5
            have HT5:=hide (HT4.out.app1 (by simpa using hown5) hgr5 (by simpa using hor5))
            have HB5:=hide (bel4 HBG.out HB4.out (HT4.out.grow1 (by have:=HSZ4.out;simp;omega) hgr5))
            clear hown5 hgr5 hor5
            go_wp2
            exact⟨⟨q+1,HLT.out,by simp,by rw [HC.out,HDD.out],HB5.out,by rw [HDC.out,HDS.out.2];have h:=HT5.out;rw [HDS.out.1] at h;exact h⟩,measZ HLT.out⟩
          ·have hdc:dcV op n (colL ls q)=prX op (nth (colL ls q) 0) (nth (colL ls q) 1):=by unfold dcV;rw [if_neg n1,if_pos n2,hp];rfl
           have HDS:Hid (dsL op n ls (q+1)=dsL op n ls q++[prY op (nth (colL ls q) 0) (nth (colL ls q) 1)]):=by
            show _=_
            unfold dsL;rw [if_pos ⟨n2,hp⟩,if_pos ⟨n2,hp⟩];simp [List.range_succ]
           have HDC:=hide ((dcL_succ op n ls q).trans (by rw [hdc]))
           simp only [hp] at hP
           clear hown hcw hwi hvw hdc ex0 ex1 i0 i1 hp hBn n1 n2
           generalize prX op (nth (colL ls q) 0) (nth (colL ls q) 1)=X at *
           generalize prY op (nth (colL ls q) 0) (nth (colL ls q) 1)=Y at *
           generalize nth (colL ls q) 0=y0 at *
           generalize nth (colL ls q) 1=y1 at *
           have HTd:=hide (fun d=>HTK.out.below ((bel_drewN (Below.refl wk.heap.size wk) d).alloc (Nat.le_refl _) (.cells #[.int .u32 X] 34)))
           go_wp2_with fail
           go_quiet ((go_at_call 11;exact Calls.quiet_of_same ((hP _).mono fun _ _ h=>⟨h.1,h.2.symm⟩)))
           go_wp2_with (at_builtin;refine wpList_appW rfl (.tmp 112) (.tmp 114) rfl w.heap.size _ (dcL op n ls q) X rfl _ rfl (heap_alloc_new _ _) (HTd.out _).own1 (by rw [HDL.out];have:=HLT.out;omega) (by simp;omega) ?_)
           intro g cap w5 hown5 hgr5 hor5
           have HT5:=hide ((HTd.out _).app1 (by simpa using hown5) hgr5 (by simpa using hor5))
           have HB5:=hide (bel4 HBG.out (bel_drewN (Below.refl wk.heap.size wk) _) ((HTd.out _).grow1 (by simp;omega) hgr5))
           have HT6:=hide (HT5.out.below ((Below.refl _ w5).alloc (Nat.le_refl _) (.cells #[.int .u32 Y] 34)))
           have HB6:=hide (HB5.out.alloc HB5.out.size (.cells #[.int .u32 Y] 34))
           have HSZ5:=hide HB5.out.size
           clear hown5 hgr5 hor5
           go_wp2_with (at_builtin;refine wpList_appW rfl (.tmp 116) (.tmp 118) rfl w.heap.size _ (dsL op n ls q) Y rfl _ rfl (heap_alloc_new _ _) HT6.out.own2 (by have:=HDY.out;have:=HLT.out;omega) (by have:=HSZ5.out;simp;omega) ?_)
           intro g2 cap2 w7 hown7 hgr7 hor7
           have HT7:=hide (HT6.out.app2 (by simpa using hown7) hgr7 (by simpa using hor7))
           have HB7:=hide (HB6.out.trans (HT6.out.grow2 (by have:=HSZ5.out;simp;omega) hgr7))
           clear hown7 hgr7 hor7
           go_wp2
           exact⟨⟨q+1,HLT.out,by simp,by rw [HC.out,HDD.out],HB7.out,by rw [HDC.out,HDS.out];exact HT7.out⟩,measZ HLT.out⟩
         ·have n1i:((n:Int)==1)=false:=by simp;omega
          have n2i:((n:Int)==2)=false:=by simp;omega
          have n1n:(n==1)=false:=by simp;omega
          have n2n:(n==2)=false:=by simp;omega
          have hU:=refField_any op (some ⟨gw,0,none⟩) n cw (colL ls q) wk h0 h1 hvw hwi hlc
          have hdc:dcV op n (colL ls q)=fiV op (colL ls q):=by unfold dcV;rw [if_neg n1,if_neg n2]
          have HDS:Hid (dsL op n ls q=[]∧dsL op n ls (q+1)=[]):=⟨by unfold dsL;rw [if_neg (fun h=>n2 h.1)],by unfold dsL;rw [if_neg (fun h=>n2 h.1)]⟩
          have HDC:=hide ((dcL_succ op n ls q).trans (by rw [hdc]))
          have HDL:=hide (dcL_len op n ls q)
          generalize fiV op (colL ls q)=X at *
          generalize fiB op (colL ls q)=F at *
          clear hown hcw hwi hvw hdc x0 ex0 i0
          go_wp2_with fail
          refine hU.mono ?_
          rintro e w4 ⟨rfl,hb4⟩
          have HT4:=hide (HTK.out.below (hb4.alloc hb4.size (.cells #[.int .u32 X] 34)))
          have HSZ4:=hide (Nat.le_trans hlo hb4.size)
          have HB4:=hide hb4
          clear hb4
          go_wp2_with (at_builtin;refine wpList_appW rfl (.tmp 141) (.tmp 143) rfl w.heap.size _ (dcL op n ls q) X rfl _ rfl (heap_alloc_new _ _) HT4.out.own1 (by rw [HDL.out];have:=HLT.out;omega) (by have:=HSZ4.out;simp;omega) ?_)
          intro g cap w5 hown5 hgr5 hor5
          have HT5:=hide (HT4.out.app1 (by simpa using hown5) hgr5 (by simpa using hor5))
          have HB5:=hide (bel4 HBG.out HB4.out (HT4.out.grow1 (by have:=HSZ4.out;simp;omega) hgr5))
          clear hown5 hgr5 hor5
          go_wp2
          exact⟨⟨q+1,HLT.out,by simp,by rw [HC.out,HDD.out],HB5.out,by rw [HDC.out,HDS.out.2];have h:=HT5.out;rw [HDS.out.1] at h;exact h⟩,measZ HLT.out⟩
     ·have e:m=q:=by omega
      subst e
      have h0i:(0:Int)<(n:Int):=by omega
      have HCN:Hid (anyB true (nthL ls 0)=decide (0<cntL (nthL ls 0) m)∧(!anyB false (nthL ls 0))=decide (cntL (nthL ls 0) m=m)):=by
       have x1:=any_cnt (nthL ls 0)
       have x2:=all_cnt (nthL ls 0)
       rw [HCL0.out] at x1 x2
       exact⟨x1,x2⟩
      have hTr:=fun x W=>refTruth_any x W
      have HT:=hide hT
      have HBR:=hide hbr
      have hlo:=hbr.size
      clear hT hbr hlt hq
      by_cases o1:op=154
      ·have HFL:Hid (lfL op ls=[rowV op (nthL ls 0)]∧rowV op (nthL ls 0)=b2i (decide (0<cntL (nthL ls 0) m))):=⟨by unfold lfL;rw [if_pos (.inl o1)],by unfold rowV;rw [if_pos o1,HCN.out.1]⟩
       have o1b:(op==154)=true:=by simp;exact o1
       clear o1
       generalize cntL (nthL ls 0) m=C at *
       go_wp2_with fail
       refine (hTr _ _).mono ?_
       rintro e w5 ⟨rfl,rfl⟩
       go_wp2
       go_ret2
       refine⟨HBR.out.alloc hlo _,.inr ⟨HFF.out,_,rfl,?_⟩⟩
       rw [HFL.out.1,HFL.out.2]
       have h:=own_one13 wr w.heap.size 34 (.int .u32 (b2i (decide (0<C)))) hlo
       simpa using h
      ·have o1b:(op==154)=false:=by simp;exact o1
       by_cases o2:op=155
       ·have o2b:(op==155)=true:=by simp;exact o2
        have HFL:Hid (lfL op ls=[rowV op (nthL ls 0)]∧rowV op (nthL ls 0)=b2i (decide (cntL (nthL ls 0) m=m))):=⟨by unfold lfL;rw [if_pos (.inr o2)],by unfold rowV;rw [if_neg o1,HCN.out.2]⟩
        clear o1 o2
        generalize cntL (nthL ls 0) m=C at *
        go_wp2_with fail
        refine (hTr _ _).mono ?_
        rintro e w5 ⟨rfl,rfl⟩
        go_wp2
        go_ret2
        refine⟨HBR.out.alloc hlo _,.inr ⟨HFF.out,_,rfl,?_⟩⟩
        rw [HFL.out.1,HFL.out.2]
        have h:=own_one13 wr w.heap.size 34 (.int .u32 (b2i (decide (C=m)))) hlo
        have hbq:((C:Int)==(m:Int))=decide (C=m):=by rw [beq_dec];exact decide_eq_decide.2 (by omega)
        rw [hbq]
        exact h
       ·have o2b:(op==155)=false:=by simp;exact o2
        have HW:=hide (dc_whole op n ls HL.out HAR.out HZ.out (by rintro (h | h);exact o1 h;exact o2 h))
        rw [HCL0.out] at HW
        obtain⟨i0,hi,hz0,hz1,hz2⟩:=info_parts CopyWords.info
        have hT:=HT.out
        obtain⟨a2,c2,rfl,hv2,hl2⟩:=View.ofOwned hT.own2
        have HO1:=hide hT.own1
        have HD1:=hide (dcL_len op n ls m)
        have HD2:=hide (dsL_len op n ls m)
        have HOB:=hide (fun g (hg:Value.ownBlock _=some g)=>(ownBlock_lt hT.own1 hg).1)
        have HV2:=hide hv2
        clear hT HT hv2 hl2 o1 o2 HCN
        generalize dcL op n ls m=xs at *
        generalize dsL op n ls m=ys at *
        go_wp2_with (at_builtin;refine wpList_append_view _ rfl (.tmp 161) (.tmp 162) 24 rfl w.heap.size 34 i0 (.int .u32 0) 4 .u32 Tryz.underlying24 hi hz0 hz1 hz2 (by decide) _ xs.length xs rfl HO1.out a2 ys.length c2 ys rfl HV2.out rfl (by have:=HD1.out;have:=HD2.out;unfold maxLen;omega) (by have:=HD1.out;have:=HD2.out;omega) hlo ?_)
        intro v' w5 hown5 hgr5
        have HB5:=hide (HBR.out.grown hgr5 hlo (fun g hg=>HOB.out g hg))
        have HO5:Hid (w5.ownsRow w.heap.size 34 1 v' (lfL op ls).length ((lfL op ls).map (Value.int .u32))):=by show World.ownsRow _ _ _ _ _ _ _;rw [← HW.out];simpa using hown5
        clear hown5 hgr5
        go_wp2
        go_ret2
        exact⟨HB5.out,.inr ⟨HFF.out,_,rfl,HO5.out⟩⟩
 ·have HF:lfB op ls=false:=by unfold lfB;rw [hl,decide_eq_false e1];simp
  rw [HF]
  generalize arV op=N at *
  clear hv hok HF hu
  have d2:((n:Int) != N)=true:=by simp;exact e1
  have d3:(N==0)=false:=by simp;exact e0
  go_enter Tryz.func4,Tryz.ntmps4
  go_wp2_with fail
  refine (hA _).mono ?_
  rintro e w1 ⟨rfl,hb1⟩
  go_wp2_with fail
  refine (hA _).mono ?_
  rintro e w2 ⟨rfl,hb2⟩
  go_wp2
  go_ret2
  exact⟨hb1.trans (hb2.mono hb1.size),.inl ⟨trivial,rfl⟩⟩
structure CopR (w : World) (B n k m : Nat) (gs : Nat → Nat) (ls : List (List Int)) : Prop where
  blk : ∃ cs : Array Value, w.heap[B]? = some (.cells cs 24 (0, 0)) ∧ cs.size = n
  cells : ∀ j, j < m → w.cell? ⟨B, j, none⟩ = some (.slice (some ⟨gs j, 0, none⟩) (nthL ls j).length (nthL ls j).length)
  rows : ∀ j, k ≤ j → j < m → w.ownsRow (B + 1) 34 1 (.slice (some ⟨gs j, 0, none⟩) (nthL ls j).length (nthL ls j).length) (nthL ls j).length ((nthL ls j).map (Value.int .u32))
  ord : ∀ i j, i < j → j < m → gs i < gs j
  past : ∀ j, j < m → B < gs j ∧ gs j < w.heap.size
theorem CopR.view {w:World} {B n:Nat} {gs:Nat→Nat} {ls:List (List Int)} (h:CopR w B n 0 n gs ls) (hl:ls.length=n):ListsV w (some ⟨B,0,none⟩) ls:=by
 intro j hj
 obtain⟨cs,h1,h2⟩:=h.blk
 exact⟨B,0,some ⟨gs j,0,none⟩,_,_,rfl,(Array.getElem?_eq_some_iff.1 h1).1,by rw [Nat.zero_add];exact h.cells j (by omega),rfl,View.ofRow (h.rows j (Nat.zero_le _) (by omega)) rfl⟩
theorem CopR.below {w w':World} {B n k m N:Nat} {gs:Nat→Nat} {ls:List (List Int)} (h:CopR w B n k m gs ls) (hb:Below w.heap.size w w'):CopR w' B n k m gs ls:=by
 obtain⟨cs,h1,h2⟩:=h.blk
 have hB:=(Array.getElem?_eq_some_iff.1 h1).1
 exact⟨⟨cs,(hb.block B hB).trans h1,h2⟩,fun j hj=>(hb.cell (p:=⟨B,j,none⟩) hB).trans (h.cells j hj),fun j h3 h4=>own_below (h.rows j h3 h4) hb,h.ord,fun j hj=>⟨(h.past j hj).1,Nat.lt_of_lt_of_le (h.past j hj).2 hb.size⟩⟩
theorem CopR.spoil {w w':World} {B n k m:Nat} {gs:Nat→Nat} {ls:List (List Int)} (h:CopR w B n k m gs ls) (hk:k<m) (hg:w.grownBy w' (some (gs k))) (hs:w.heap.size≤w'.heap.size):CopR w' B n (k+1) m gs ls:=by
 obtain⟨cs,h1,h2⟩:=h.blk
 have hB:=(Array.getElem?_eq_some_iff.1 h1).1
 have hp:=h.past k hk
 have hb:Below (B+1) w w':=(Below.refl _ w).grown hg hB (fun g e=>by cases e;exact hp.1)
 exact⟨⟨cs,(hb.block B (Nat.lt_succ_self _)).trans h1,h2⟩,fun j hj=>(hb.cell (p:=⟨B,j,none⟩) (Nat.lt_succ_self _)).trans (h.cells j hj),fun j h3 h4=>(h.rows j (by omega) h4).kept hg (.inr (by simp [Value.ownBlock];have:=h.ord k j (by omega) h4;omega)),h.ord,fun j hj=>⟨(h.past j hj).1,Nat.lt_of_lt_of_le (h.past j hj).2 hs⟩⟩
theorem CopR.push {w w4:World} {B n k L:Nat} {gs:Nat→Nat} {ls:List (List Int)} (h:CopR w B n 0 k gs ls) (hk:k<n) (hb:Below w.heap.size w w4) (hL:(nthL ls k).length=L) (ho:w4.ownsRow w.heap.size 34 1 (.slice (some ⟨w.heap.size,0,none⟩) L L) L ((nthL ls k).map (Value.int .u32))) :
  CopR (w4.setCell ⟨B,k,none⟩ (.slice (some ⟨w.heap.size,0,none⟩) L L)) B n 0 (k+1) (fun j=>if j=k then w.heap.size else gs j) ls:=by
 subst hL
 obtain⟨cs,h1,h2⟩:=h.blk
 have hB:=(Array.getElem?_eq_some_iff.1 h1).1
 have h3:=(hb.block B hB).trans h1
 have hw:(w4.setCell ⟨B,k,none⟩ (.slice (some ⟨w.heap.size,0,none⟩) (nthL ls k).length (nthL ls k).length)).heap[B]?=some (.cells (cs.setIfInBounds k (.slice (some ⟨w.heap.size,0,none⟩) (nthL ls k).length (nthL ls k).length)) 24 (0,0)):=by
  simp [World.setCell,Array.getElem?_modify,h3]
 have hold:∀ j,w.cell? ⟨B,j,none⟩=cs[j]?:=fun j=>by simp [World.cell?,h1]
 have hnew:∀ j,(w4.setCell ⟨B,k,none⟩ (.slice (some ⟨w.heap.size,0,none⟩) (nthL ls k).length (nthL ls k).length)).cell? ⟨B,j,none⟩=(cs.setIfInBounds k (.slice (some ⟨w.heap.size,0,none⟩) (nthL ls k).length (nthL ls k).length))[j]?:=fun j=>by simp only [World.cell?,hw];rfl
 have hsz:w.heap.size<w4.heap.size∨(nthL ls k).length=0∧False∨w.heap.size<w4.heap.size:=by
  left
  exact (ownBlock_lt ho (by simp [Value.ownBlock])).2
 have hsz':w.heap.size<w4.heap.size:=by rcases hsz with h | ⟨_,h⟩ | h;exact h;exact absurd h id;exact h
 refine⟨⟨_,hw,by simp [h2]⟩,fun j hj=>?_,fun j _ hj=>?_,fun i j hij hj=>?_,fun j hj=>?_⟩
 ·rw [hnew]
  by_cases e:j=k
  ·subst e;rw [if_pos rfl,Array.getElem?_setIfInBounds_self_of_lt (by omega)]
  ·rw [if_neg e,Array.getElem?_setIfInBounds_ne (by omega),← hold];exact h.cells j (by omega)
 ·by_cases e:j=k
  ·subst e;rw [if_pos rfl];exact ownsRow_setCell_below (own_base ho (by omega)) (a:=⟨B,j,none⟩) (by simp) _
  ·rw [if_neg e];exact ownsRow_setCell_below (own_below (h.rows j (Nat.zero_le _) (by omega)) hb) (a:=⟨B,k,none⟩) (by simp) _
 ·by_cases e:j=k
  ·subst e;rw [if_neg (by omega),if_pos rfl];exact (h.past i hij).2
  ·rw [if_neg (by omega),if_neg e];exact h.ord i j hij (by omega)
 ·have hs:(w4.setCell ⟨B,k,none⟩ (.slice (some ⟨w.heap.size,0,none⟩) (nthL ls k).length (nthL ls k).length)).heap.size=w4.heap.size:=by simp
  rw [hs]
  by_cases e:j=k
  ·rw [if_pos e];exact⟨hB,hsz'⟩
  ·rw [if_neg e];have:=h.past j (by omega);exact⟨this.1,by omega⟩
end Go.Proofs.YtonhnflilfjkbaaGreat
namespace Go.Proofs.YtonhnflilfjkbaaGreat
theorem bulk_one {H:Type}:∀ d:DataW H,0<Rows.uptoBulk d
 | .lit l=>by cases l <;> simp [Rows.uptoBulk]
 | .nil=>by simp [Rows.uptoBulk]
 | .ptr _=>by simp [Rows.uptoBulk]
 | .slice _ _=>by simp [Rows.uptoBulk]
 | .agg _=>by simp [Rows.uptoBulk]
 | .iface _ _=>by simp [Rows.uptoBulk]
 | .map _=>by simp [Rows.uptoBulk]
 | .held _=>by simp [Rows.uptoBulk]
theorem bulk_all {H:Type}:∀ l:List (DataW H),l.length≤Rows.uptoBulkAll l
 | []=>by simp [Rows.uptoBulkAll]
 | d :: l=>by
  have h1:=bulk_one d
  have h2:=bulk_all l
  simp only [Rows.uptoBulkAll,List.length_cons];omega
theorem bulk_part {H:Type} {d:DataW H}:∀ {l:List (DataW H)},d∈l→Rows.uptoBulk d≤Rows.uptoBulkAll l
 | [],h=>by cases h
 | x :: l,h=>by
  simp only [Rows.uptoBulkAll]
  rcases List.mem_cons.1 h with e | h
  ·subst e;omega
  ·have:=bulk_part h;omega
end Go.Proofs.YtonhnflilfjkbaaGreat
namespace Go.Proofs.YtonhnflilfjkbaaGreat
open Go.ChangeShapes Go.WideShapes Go.ChangeAt Go.RowKit
set_option linter.unusedVariables false
set_option linter.unusedSimpArgs false
theorem ArgWLists.cellsL:Tryz.prog.cellsOf 24=1:=by kernel_rfl
theorem ArgWLists.cellsI:Tryz.prog.cellsOf 34=1:=by kernel_rfl
set_option maxHeartbeats 1000000 in
theorem open_wlists {H:Type} {enc:TypeId×Value→H} {w:World} {base fuel:Nat} {held:Bool} {a:Option Addr} {len cap:Nat} {d:DataW H} {ps:List MemPlace} {l:List (DataW H)}
  (hf:DataW.trod enc Tryz.prog w base (fun _=>true) held fuel 23 [.slice a len cap]=some (d,ps)) (hd:d∈l) (hk:Rows.uptoSmall H l=true) :
  ∃ N:List (List Int),N.length=len∧ListsV w a N∧(∀ j,j<N.length→Within 4294967296 (nthL N j))∧len≤1048576∧(∀ j,j<N.length→(nthL N j).length≤1048576):=by
 have hs:Rows.uptoBulkAll l≤1048576:=of_decide_eq_true hk
 have hb:=bulk_part hd
 rcases Go.Deep.open_int_rows Tryz.underlying23 Tryz.underlying24 Tryz.underlying34 ArgWLists.cellsL ArgWLists.cellsI hf with ⟨hcs,_⟩ | ⟨x,l',c,A,L,C,Z,hcs,_,hl,hm,hx,hall⟩
 ·simp at hcs
  obtain⟨rfl,rfl,rfl⟩:=hcs
  exact⟨[],rfl,fun j hj=>by simp at hj,fun j hj=>by simp at hj,by omega,fun j hj=>by simp at hj⟩
 ·simp at hcs
  obtain⟨rfl,rfl,rfl⟩:=hcs
  simp only [Prod.mk.injEq] at hx
  obtain⟨rfl,rfl⟩:=hx
  simp only [Rows.uptoBulk] at hb
  have h1:=bulk_all ((List.range len).map fun r=>Go.Deep.intRow (H:=H) .u32 (A r) (L r) (Z r))
  simp only [List.length_map,List.length_range] at h1
  have hrow:∀ r,r<len→L r≤1048576:=fun r hr=>by
   obtain⟨_,h2,_,h4,_,h6,_⟩:=hall r (by omega)
   have hp:=bulk_part (l:=(List.range len).map fun r=>Go.Deep.intRow (H:=H) .u32 (A r) (L r) (Z r)) (List.mem_map.2 ⟨r,List.mem_range.2 hr,rfl⟩)
   have hp2:Rows.uptoBulk (Go.Deep.intRow (H:=H) .u32 (A r) (L r) (Z r))≤1048576:=by omega
   clear hp hb h1 hs
   cases hA:A r with
   | none=>rw [h6 hA] at h2;omega
   | some a' =>
    rw [hA] at hp2
    simp only [Go.Deep.intRow,Rows.uptoBulk] at hp2
    have h2':=bulk_all (lits (H:=H) .u32 ((Z r).take (L r)))
    simp only [lits,List.length_map,List.length_take] at h2'
    simp only [lits] at hp2
    omega
  have hR:∀ j,j<len→nthL ((List.range len).map fun r=>(Z r).take (L r)) j=(Z j).take (L j):=fun j hj=>by simp [nthL,List.getD,hj]
  refine⟨(List.range len).map fun r=>(Z r).take (L r),by simp,fun j hj=>?_,fun j hj=>?_,by omega,fun j hj=>?_⟩
  ·have hj':j<len:=by simpa using hj
   obtain⟨h1,h2,h3,h4,_,h6,h7⟩:=hall j (by omega)
   obtain⟨xb,xo,xs⟩:=x
   have hsp:xs=none:=by simpa [Addr.add] using World.cell?_spot (hall 0 (by omega)).1
   subst hsp
   have h1':w.cell? ⟨xb,xo+j,none⟩=some (.slice (A j) (L j) (C j)):=by rw [← Addr.add_lit];exact h1
   rw [hR j hj']
   refine⟨xb,xo,A j,L j,C j,rfl,World.block_lt_of_cell? _ _ h1',h1',by rw [List.length_take];omega,?_⟩
   cases hA:A j with
   | none =>
    have:L j=0:=by have:=h6 hA;omega
    rw [this];exact view_nil
   | some a'=>exact Go.Proofs.YtonhnflilfjkbaaGreat.view_take (fun i hi=>(h7 a' hA).2 i (by omega)) (by omega)
  ·have hj':j<len:=by simpa using hj
   rw [hR j hj']
   obtain⟨_,_,_,_,h5,_,_⟩:=hall j (by omega)
   exact within_take fun z hz=>by
    have:=h5 z hz
    simp [Lit.wf,show IntKind.u32.min=0 from rfl,show IntKind.u32.max=4294967295 from rfl] at this
    omega
  ·have hj':j<len:=by simpa using hj
   rw [hR j hj',List.length_take]
   have:=hrow j hj'
   omega
end Go.Proofs.YtonhnflilfjkbaaGreat
namespace Go.Proofs.YtonhnflilfjkbaaGreat
open Go.RowKit Go.Maps
set_option linter.unusedVariables false
set_option linter.unusedSimpArgs false
set_option maxRecDepth 10000
theorem Lists13.info:(Tryz.prog.info? 24).map (fun i=>(i.zero,i.size,i.bytes))=some (some (.slice none 0 0),1,24):=by kernel_rfl
def lfA (op:Int) (ls:List (List Int)):List Int:=if lfB op ls=true then lfL op ls else []
def lfE (op:Int) (ls:List (List Int)):Int:=if lfB op ls=true then 0 else 2
theorem liftA_any (op:Int) (a:Option Addr) (n c:Nat) (ls:List (List Int)) (w:World) (h0:0≤op) (h1:op<65536) (hv:ListsV w a ls) (hok:ListsOk ls) (hl:ls.length=n) (hn:24 * n≤140737488351232) :
  Calls Tryz.prog 6 #[.int .u16 op,.slice a n c] w fun e w'=>Below w.heap.size w w'∧∃ v,e=.returned (.tuple #[v,.int .i64 (lfE op ls)])∧w'.ownsRow w.heap.size 34 1 v (lfA op ls).length ((lfA op ls).map (Value.int .u32)):=by
 refine (lift_any op a n c ls w h0 h1 hv hok hl hn).mono ?_
 rintro e w' ⟨hb,⟨hF,rfl⟩ | ⟨hF,g,rfl,ho⟩⟩
 ·exact⟨hb,_,by unfold lfE;rw [hF];rfl,by unfold lfA;rw [hF];exact World.ownsRow_nil _ _ _ _⟩
 ·exact⟨hb,_,by unfold lfE;rw [hF];rfl,by unfold lfA;rw [hF];exact ho⟩
theorem refLiftA_any (op:Int) (a:Option Addr) (n c:Nat) (ls:List (List Int)) (w:World) (h0:0≤op) (h1:op<65536) (hv:ListsV w a ls) (hok:ListsOk ls) (hl:ls.length=n) (hn:24 * n≤140737488351232) (hu:∀ j,j<ls.length→(nthL ls j).length≤1048576) :
  Calls Tryz.prog 4 #[.int .u16 op,.slice a n c] w fun e w'=>Below w.heap.size w w'∧∃ v,e=.returned (.tuple #[v,.int .i64 (lfE op ls)])∧w'.ownsRow w.heap.size 34 1 v (lfA op ls).length ((lfA op ls).map (Value.int .u32)):=by
 refine (refLift13_any op a n c ls w h0 h1 hv hok hl hn hu).mono ?_
 rintro e w' ⟨hb,⟨hF,rfl⟩ | ⟨hF,v,rfl,ho⟩⟩
 ·exact⟨hb,_,by unfold lfE;rw [hF];rfl,by unfold lfA;rw [hF];exact World.ownsRow_nil _ _ _ _⟩
 ·exact⟨hb,_,by unfold lfE;rw [hF];rfl,by unfold lfA;rw [hF];exact ho⟩
theorem lfL_most (op:Int) (ls:List (List Int)):(lfL op ls).length≤2 * (nthL ls 0).length+1:=by
 unfold lfL
 split
 ·simp
 ·split
  ·rw [lfL_pair_len];omega
  ·rw [eachL_len];omega
theorem lfA_most (op:Int) (ls:List (List Int)) (h:∀ q,q<ls.length→(nthL ls q).length≤1048576):(lfA op ls).length≤2097153:=by
 have h0:(nthL ls 0).length≤1048576:=by
  by_cases e:0<ls.length
  ·exact h 0 e
  ·have:ls=[]:=List.eq_nil_of_length_eq_zero (by omega)
   subst this;simp [nthL]
 have:=lfL_most op ls
 unfold lfA
 split
 ·omega
 ·simp
set_option maxHeartbeats 4000000 in
theorem arithLifts_true (W:World) (op:Int) (hop:(Lit.int .u16 op).wf=true) (a:Option Addr) (len cap:Nat) (ls:List (List Int)) (hl:ls.length=len) (hv:ListsV W a ls) (hw:∀ q,q<ls.length→Within 4294967296 (nthL ls q)) (hr:len≤1048576) (hu:∀ q,q<ls.length→(nthL ls q).length≤1048576) :
  Calls Tryz.prog 3 #[.int .u16 op,.slice a len cap] W fun e w'=>e=.returned (.bool true)∧Below W.heap.size W w':=by
 have ho':0≤op∧op<65536:=by simp [Lit.wf,show IntKind.u16.min=0 from rfl,show IntKind.u16.max=65535 from rfl] at hop;omega
 have hok:ListsOk ls:=fun j hj=>⟨hw j hj,by have:=hu j hj;omega⟩
 obtain⟨i0,hi,hz0,hz1,hz2⟩:=info_parts Lists13.info
 have hRf:=refLiftA_any op a len cap ls W ho'.1 ho'.2 hv hok hl (by omega) hu
 have hLf:=fun (b:Nat) (w:World) (hb:ListsV w (some ⟨b,0,none⟩) ls)=>liftA_any op (some ⟨b,0,none⟩) len len ls w ho'.1 ho'.2 hb hok hl (by omega)
 have HAM:=hide (lfA_most op ls hu)
 have HR:=hide hr
 have HU:=hide hu
 have HL:=hide hl
 have HV:=hide hv
 clear hop hw hok hv hu hl
 generalize lfA op ls=A at *
 generalize lfE op ls=E at *
 go_enter Tryz.func3,Tryz.ntmps3
 go_wp2_with fail
 refine hRf.mono ?_
 rintro e w1 ⟨hb1,v1,rfl,ho1⟩
 go_wp2_with (at_make;refine wpList_make_full _ rfl _ _ 23 rfl w1.heap.size 24 i0 (.slice none 0 0) 1 Tryz.underlying23 hi hz0 hz1 _ _ _ _ len rfl rfl (by omega) (by omega) (by rw [hz2];omega) (by unfold maxLen;omega) (Nat.le_refl _) ?_)
 intro w2 hown2 hgrow2
 have hb2:Below w1.heap.size w1 w2:=(Below.refl _ w1).grown hgrow2 (Nat.le_refl _) (by simp)
 have hblk:∃ cs:Array Value,w2.heap[w1.heap.size]?=some (.cells cs 24 (0,0))∧cs.size=len:=by
  rcases hown2.2 with ⟨h,_⟩ | ⟨g,cap',cur,e1,_,h3,_,_,h6,_⟩
  ·simp at h
  ·simp at e1;obtain⟨rfl,rfl⟩:=e1;exact⟨cur,h3,by simpa using h6⟩
 have ho2:=own_below ho1 hb2
 have hC0:CopR w2 w1.heap.size len 0 0 (fun _=>0) ls:=⟨hblk,fun j h=>absurd h (Nat.not_lt_zero _),fun j _ h=>absurd h (Nat.not_lt_zero _),fun i j _ h=>absurd h (Nat.not_lt_zero _),fun j h=>absurd h (Nat.not_lt_zero _)⟩
 have HB1:=hide hb1
 have HB2:=hide hb2
 have HO1:=hide (fun (wx:World) (h:Below w1.heap.size w1 wx)=>own_below ho1 h)
 have HOB:=hide (fun g (hg:Value.ownBlock v1=some g)=>(ownBlock_lt ho1 hg))
 have HSZ:=hide hb1.size
 clear hown2 hgrow2 hblk ho2 ho1 hRf hb2 hb1
 generalize w1.heap.size=B at *
 go_wp2
 go_loopw [8] (fun i wr=>∃ (k:Nat) (gs:Nat→Nat),k≤len∧i=.int .i64 k∧CopR wr B len 0 k gs ls∧Below B w1 wr) (fun i _=>len - (intOf i).toNat)
 case atStart=>exact⟨0,_,Nat.zero_le _,rfl,hC0,HB2.out⟩
 case round =>
  obtain⟨k,gs,hk,rfl,hC,hbr⟩:=hrel
  clear hC0 HB2
  have hbW:Below W.heap.size W wr:=HB1.out.trans (hbr.mono HSZ.out)
  by_cases hlt:k<len
  ·obtain⟨b,off,aj,nj,cj,rfl,hb',hcj,hclj,hvj⟩:=HV.out k (by rw [HL.out];exact hlt)
   have hcr:=(hbW.cell (p:=⟨b,off+k,none⟩) hb').trans hcj
   have hnj:nj≤1048576:=by rw [← hclj];exact HU.out k (by rw [HL.out];exact hlt)
   have hCp:=copyWords_any aj nj cj (nthL ls k) wr (hvj.below hbW) hclj (by omega)
   have hki:(k:Int)<(len:Int):=by omega
   have hkm:(k:Int)<140737488351232:=by have:=HR.out;omega
   have HC:=hide hC
   have HLT:=hide hlt
   have HBR:=hide hbr
   have HCL:=hide hclj
   have HSB:Hid (B≤wr.heap.size):=by obtain⟨cs,h1,_⟩:=hC.blk;exact Nat.le_of_lt (Array.getElem?_eq_some_iff.1 h1).1
   clear hC hbr hlt hk hvj hclj hcj hbW hb'
   go_wp2_with fail
   refine hCp.mono ?_
   rintro e w4 ⟨rfl,hown4,hb4⟩
   have hC4:=CopR.below (N:=0) HC.out hb4
   obtain⟨cs,h1,h2⟩:=hC4.blk
   have hcB:w4.cell? ⟨B,k,none⟩=some (cs[k]'(by have:=HLT.out;omega)):=by
    have:=HLT.out
    simp [World.cell?,h1,show k<cs.size by omega]
   have hfB:w4.frozen? ⟨B,k,none⟩=false:=by simp [World.frozen?,h1]
   have HP:=hide (CopR.push HC.out HLT.out hb4 HCL.out hown4)
   have HBP:Hid (Below B w1 (w4.setCell ⟨B,k,none⟩ (.slice (some ⟨wr.heap.size,0,none⟩) nj nj))):=(HBR.out.trans (hb4.mono HSB.out)).setCell (Nat.le_refl _) _
   generalize cs[k]'(by have:=HLT.out;omega)=cv at *
   clear hC4 h1 h2 hown4 hb4
   go_wp2
   exact⟨⟨k+1,_,HLT.out,by simp,HP.out,HBP.out⟩,measZ HLT.out⟩
  ·have e:len=k:=by omega
   subst e
   have hLc:=hLf B wr (hC.view HL.out)
   have HC:=hide hC
   have HBR:=hide hbr
   have HSB:Hid (B≤wr.heap.size):=by obtain⟨cs,h1,_⟩:=hC.blk;exact Nat.le_of_lt (Array.getElem?_eq_some_iff.1 h1).1
   clear hC hbr hlt hk hbW hLf
   go_wp2_with fail
   refine hLc.mono ?_
   rintro e w5 ⟨hb5,v2,rfl,hown5⟩
   have HC5:=hide (CopR.below (N:=0) HC.out hb5)
   have HB5:=hide (HBR.out.trans (hb5.mono HSB.out))
   have HP5:=hide HC.out.past
   have HO5:=hide hown5
   clear hown5 hb5 HC
   generalize wr.heap.size=N at *
   go_wp2
   go_loopw [11] (fun i wr=>∃ k:Nat,k≤len∧i=.int .i64 k∧CopR wr B len k len gs ls∧Below B w1 wr∧wr.ownsRow N 34 1 v2 A.length (A.map (Value.int .u32))) (fun i _=>len - (intOf i).toNat)
   case atStart=>exact⟨0,Nat.zero_le _,rfl,HC5.out,HB5.out,HO5.out⟩
   case round =>
    obtain⟨k,hk,rfl,hC,hbr,ho⟩:=hrel
    clear HC5 HB5 HO5
    generalize wr=wk at *
    have hbW:Below W.heap.size W wk:=HB1.out.trans (hbr.mono HSZ.out)
    by_cases hlt:k<len
    ·obtain⟨b,off,aj,nj,cj,rfl,hb',hcj,hclj,hvj⟩:=HV.out k (by rw [HL.out];exact hlt)
     have hcr:=(hbW.cell (p:=⟨b,off+k,none⟩) hb').trans hcj
     have hnj:nj≤1048576:=by rw [← hclj];exact HU.out k (by rw [HL.out];exact hlt)
     have hcc:=hC.cells k hlt
     have hrow:=hC.rows k (Nat.le_refl _) hlt
     rw [hclj] at hcc hrow
     have hQ:=fun qq=>quiet_words (ca:=nj) (cb:=cj) (w:=wk) (View.ofRow hrow hclj) (hvj.below hbW) hclj (by omega) qq
     have hS:=fun d=>spoil_some (gs k) nj nj (B+1) (nthL ls k) (wk.drewN d) (own_below hrow (bel_drewN (Below.refl _ wk) d)) hclj (by omega)
     have hki:(k:Int)<(len:Int):=by omega
     have hkm:(k:Int)<140737488351232:=by have:=HR.out;omega
     have HC:=hide hC
     have HLT:=hide hlt
     have HBR:=hide hbr
     have HO:=hide ho
     clear hC hbr hlt hk hvj hclj hcj hbW hb' hrow ho
     go_wp2
     go_quiet ((go_at_call 7;exact hQ _))
     go_wp2_with fail
     refine (hS _).mono ?_
     rintro e w6 ⟨rfl,hg6⟩
     have hp:=HP5.out k HLT.out
     have hCd:=CopR.below (N:=0) HC.out (bel_drewN (Below.refl _ wk) nq)
     have hb6:Below (B+1) (wk.drewN nq) w6:=(Below.refl _ _).grown hg6 (by have:=(hCd.past k HLT.out);omega) (fun g e=>by cases e;exact hp.1)
     have HC6:=hide (hCd.spoil HLT.out hg6 hb6.size)
     have HB6:=hide ((bel_drewN HBR.out nq).trans (hb6.mono (Nat.le_succ _)))
     have HO6:=hide ((own_below HO.out (bel_drewN (Below.refl _ wk) nq)).kept hg6 (by
      cases e:v2.ownBlock with
      | none=>exact .inl rfl
      | some g2=>exact .inr (by have:=(ownBlock_lt HO.out e).1;intro h;cases h;omega)))
     clear hg6 hb6 hCd hp
     go_wp2
     exact⟨⟨k+1,HLT.out,by simp,HC6.out,HB6.out,HO6.out⟩,measZ HLT.out⟩
    ·have ho1:=HO1.out wk hbr
     obtain⟨a1,c1,rfl,hv1,hl1⟩:=View.ofOwned ho1
     obtain⟨a2,c2,rfl,hv2,hl2⟩:=View.ofOwned ho
     have hWd:=words_true a2 a1 A.length c2 c1 A wk hv2 hv1 rfl (by have:=HAM.out;omega)
     have HBW:=hide hbW
     clear hC hbr ho hk ho1 hv1 hv2 hl1 hl2 hbW
     go_wp2_with fail
     refine hWd.mono ?_
     rintro e w7 ⟨rfl,d,rfl⟩
     go_wp2
     go_ret
     exact⟨by simp,bel_drewN HBW.out d⟩
end Go.Proofs.YtonhnflilfjkbaaGreat
