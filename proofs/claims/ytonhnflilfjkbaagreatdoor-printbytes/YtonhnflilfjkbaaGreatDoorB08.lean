/-
  Texts in one: CodeRargs, RowI, FrameSmall, WordsTurned, FrameHeadFault, FrameReadHead, FrameApart, FrameParts.
-/
import Derived.Test.YtonhnflilfjkbaaGreatDoorB07
namespace Go.Proofs.YtonhnflilfjkbaaGreatDoor
open Go.RowKit
set_option linter.unusedVariables false
set_option linter.unusedSimpArgs false
set_option maxRecDepth 10000
theorem flat_arg:∀ (l:List ArgT) (k j:Nat),k<l.length→j<3→(l.flatMap argC)[k * 3+j]?=(argC (nthA l k))[j]?
 | x :: l,0,j,_,hj=>by
  rw [List.flatMap_cons,Nat.zero_mul,Nat.zero_add,List.getElem?_append_left (by simp [argC];omega)];rfl
 | x :: l,k+1,j,hk,hj=>by
  rw [List.flatMap_cons,List.getElem?_append_right (by simp [argC];omega)]
  have:=flat_arg l k j (by simpa using hk) hj
  rw [show (k+1) * 3+j - (argC x).length=k * 3+j by simp [argC];omega]
  exact this
theorem flat_push (l:List ArgT) (x:ArgT):(l++[x]).flatMap argC=l.flatMap argC++argC x:=by simp
theorem argsV_own {w:World} {B T n cap:Nat} {a:Option Addr} {l:List ArgT} (h:w.ownsRow B T 3 (.slice a n cap) n (l.flatMap argC)) (hl:l.length=n):ArgsV w a l:=by
 intro j hj
 rcases h.2 with ⟨hv,hn⟩ | ⟨g,cap',cur,hv,_,hg,_⟩
 ·omega
 ·cases hv
  have c0:=h.cellAt (j * 3+0) (by omega)
  have c1:=h.cellAt (j * 3+1) (by omega)
  have c2:=h.cellAt (j * 3+2) (by omega)
  rw [flat_arg l j 0 hj (by omega)] at c0
  rw [flat_arg l j 1 hj (by omega)] at c1
  rw [flat_arg l j 2 hj (by omega)] at c2
  exact⟨g,0,rfl,(Array.getElem?_eq_some_iff.1 hg).1,by rw [Nat.zero_add];exact c0,by rw [Nat.zero_add];exact c1,by rw [Nat.zero_add];exact c2⟩
theorem argI_kind {c:Int} {zs:List Int} {b:Int} (h:(argI c zs b).2.2=0):c≠0∧(argI c zs b).1.1=kindI c∧1≤(argI c zs b).2.1∧(argI c zs b).2.1≤zs.length:=by
 unfold argI at h ⊢
 by_cases h0:c=0∨zs.length=0
 ·rw [if_pos h0] at h;cases h
 ·rw [if_neg h0] at h ⊢
  by_cases h3:kindI c=3
  ·rw [if_pos h3] at h ⊢
   have:=textI_range zs
   exact⟨fun e=>h0 (.inl e),h3.symm,this.2.2.1 h,this.2.1⟩
  ·rw [if_neg h3] at h ⊢
   split at h
   ·cases h
   ·rename_i h1
    rw [if_neg h1]
    split at h
    ·cases h
    ·rename_i h4
     rw [if_neg h4]
     exact⟨fun e=>h0 (.inl e),rfl,by simp,by simp;omega⟩
def lenV:Value→Nat
 | .slice _ n _=>n
 | _=>0
theorem Rargs.info:(Tryz.prog.info? 61).map (fun i=>(i.zero,i.size,i.bytes))=some (some (.agg #[.int .u8 0,.int .u32 0,.string ⟨#[]⟩]),3,24):=by kernel_rfl
theorem alloc_newAt (w:World) (o:Obj) {n:Nat} (h:w.heap.size=n):(w.alloc o).heap[n]?=some o:=by subst h;exact heap_alloc_new w o
theorem grown_own {w w':World} {B e size n g:Nat} {v:Value} {xs:List Value} (h:w.ownsRow B e size v n xs) (hg:w.grownBy w' (some g)) (hB:g<B):w'.ownsRow B e size v n xs:=by
 refine⟨h.1,?_⟩
 rcases h.2 with hn | ⟨g',cap,cur,rfl,hb,hgg,rest⟩
 ·exact .inl hn
 ·exact .inr ⟨g',cap,cur,rfl,hb,(hg.block g' (Array.getElem?_eq_some_iff.1 hgg).1 (fun e=>by cases e;omega)).trans hgg,rest⟩
set_option maxHeartbeats 2000000 in
theorem rargs_any (w:World) (R:Nat) (o:Int) (f:Frm) (b:Int) (gr ga n cw p:Nat) (zs:List Int) (K:Nat) (h:RdS w R o f b gr ga n cw p zs) (hf:lookF refT o=(f,true)) (hn:n≤65535) (hK:n - p<K) :
  Calls Tryz.prog 144 #[.pointer (some ⟨R,0,none⟩)] w fun e w'=>w.grownBy w' (some gr)∧∃ a m c,e=.returned (.tuple #[.slice a m c,.int .i64 (argsI f b K (zs.drop p) []).2])∧(argsI f b K (zs.drop p) []).1.length=m ∧
   w'.ownsRow w.heap.size 61 3 (.slice a m c) m ((argsI f b K (zs.drop p) []).1.flatMap argC):=by
 obtain⟨i0,hi,hz0,hz1,hz2⟩:=info_parts Rargs.info
 have HI:Hid (Tryz.prog.info? 61=some i0∧i0.zero=some (.agg #[.int .u8 0,.int .u32 0,.string ⟨#[]⟩])∧i0.size=3∧i0.bytes=24):=⟨hi,hz0,hz1,hz2⟩
 clear hi hz0 hz1 hz2
 have hlt:=h.lt
 have hga:0<n→ga<w.heap.size:=fun hn0=>h.ga hn0
 have HLEN:Hid (zs.length=n):=h.rd.len
 have hL:=fun (k:Nat) (hk:k<140737488351232) w=>grammarLetter_any o k w (by omega)
 rw [hf] at hL
 have hLK:=fun (k:Nat)=>letter_kind o k
 rw [hf] at hLK
 have hWh:=fun (a:Option Addr) (m cap:Nat) (l:List ArgT) wx (hB:R<wx.heap.size) (h0:wx.cell? ⟨R,0,none⟩=some (.int .u16 o)) (hv:ArgsV wx a l) (hl:l.length=m) (hm:24 * m≤140737488351232)=>formWhole_any R o a m cap l wx hB h0 hv hl hm
 rw [hf] at hWh
 have HWH:Hid _:=hWh
 obtain⟨Rr,hRr⟩:∃ r,r=argsI f b K (zs.drop p) []:=⟨_,rfl⟩
 rw [← hRr]
 have HP:Hid (RdS w R o f b gr ga n cw p zs):=h
 clear hf hWh h
 go_enter Tryz.func144,Tryz.ntmps144
 go_wp2
 go_loopw [4] (fun v wr=>∃ (acc:List ArgT) (q k:Nat),wr.ownsRow w.heap.size 61 3 v acc.length (acc.flatMap argC)∧RdS wr R o f b gr ga n cw q zs∧w.grownBy wr (some gr)∧acc.length≤q∧n - q<k∧Rr=argsI f b k (zs.drop q) acc ∧
   ∀ i,i<acc.length→letterI f (i:Int)≠0∧(nthA acc i).1=kindI (letterI f (i:Int))) (fun v _=>n - lenV v)
 case atStart=>exact⟨[],p,K,World.ownsRow_nil _ _ _ _,HP.out,World.grownBy.refl _ _,Nat.zero_le _,hK,hRr,fun i hi=>by simp at hi⟩
 case round =>
  obtain⟨acc,q,k,hown,hS,hg,hal,hqk,hR,hall⟩:=hrel
  clear hRr HP
  have HR:Hid (Rr=argsI f b k (zs.drop q) acc):=hR
  have HALL:Hid (∀ i,i<acc.length→letterI f (i:Int)≠0∧(nthA acc i).1=kindI (letterI f (i:Int))):=hall
  obtain⟨a',cap',rfl⟩:∃ a cap,u4=.slice a acc.length cap:=by
   rcases hown.2 with ⟨rfl,h0⟩ | ⟨g,cap,cur,rfl,_⟩
   ·exact⟨none,0,by rw [h0]⟩
   ·exact⟨_,_,rfl⟩
  have hle:=hS.rd.le
  have c9:=hS.cells.2.2.2.2
  have hLf:=left_any hS.rd
  have hgs:=hg.size
  clear hR hall
  go_wp2_with fail
  refine hLf.mono ?_
  rintro e w1 ⟨rfl,dd,hd⟩
  have hb1:Below wr.heap.size wr w1:=by rw [hd];exact bel_drewN (Below.refl _ _) dd
  have hS1:=hS.below hb1
  have hown1:=own_below hown hb1
  have hg1:=grown_then hg (hb1.mono hgs)
  have s1:=hb1.size
  clear hLf hd hS hown hg hb1 c9
  by_cases hq:q<n
  ·have hq':(q:Int)<(n:Int):=by omega
   have w0:=hS1.cells.1
   have hdl:(zs.drop q).length≠0:=by rw [List.length_drop,HLEN.out];omega
   obtain⟨k,rfl⟩:∃ k',k=k'+1:=⟨k - 1,by omega⟩
   have hRu:=HR.out
   rw [argsI,if_neg hdl] at hRu
   have hkd:=hLK acc.length
   have hLl:=hL acc.length (by omega)
   have hAr:=fun wx (hx:RdS wx R o f b gr ga n cw q zs)=>rarg_any wx R o f b gr ga n cw q zs (letterI f (acc.length:Int)) hx hq hkd
   have hkA:=argI_kind (c:=letterI f (acc.length:Int)) (zs:=zs.drop q) (b:=b)
   rw [List.length_drop,HLEN.out] at hkA
   have hdd:∀ m,(zs.drop q).drop m=zs.drop (q+m):=fun m=>by rw [List.drop_drop]
   rw [hdd] at hRu
   generalize argI (letterI f (acc.length:Int)) (zs.drop q) b=A at hRu hAr hkA
   have HRU:Hid _:=hRu
   have HKA:Hid _:=hkA
   clear hRu hkA hdd hdl HR hkd hL hLK
   generalize hcc:letterI f (acc.length:Int)=cc at hLl hAr HKA
   have HCC:Hid (letterI f (acc.length:Int)=cc):=hcc
   clear hcc
   go_wp2_with fail
   refine (hLl _).mono ?_
   rintro e w2 ⟨rfl,hb2⟩
   have hS2:=hS1.below hb2
   have hown2:=own_below hown1 hb2
   have hg2:=grown_then hg1 (hb2.mono (by omega))
   have s2:=hb2.size
   have hA2:=hAr w2 hS2
   clear hS1 hown1 hg1 hb2 hAr hLl w0
   go_wp2_with fail
   refine hA2.mono ?_
   rintro e w3 ⟨y,rfl,hg3,hy3⟩
   have hown3:=grown_own hown2 hg3 hlt.2
   have hgw3:w.grownBy w3 (some gr):=hg2.trans hg3
   have s3:=hg3.size
   clear hA2 hown2 hg2 hS2
   obtain⟨y1,y2,y3⟩:=y
   unfold argV
   obtain⟨A1,A2,r⟩:=A
   simp only at hy3
   have hb4:Below w3.heap.size w3 (w3.alloc (.cells #[.int .u8 y1,.int .u32 y2,.string y3] 61)):=(Below.refl _ _).alloc (Nat.le_refl _) _
   have kY:=alloc_new w3 #[.int .u8 y1,.int .u32 y2,.string y3] 61
   have hown4:=own_below hown3 hb4
   have hgw4:=grown_then hgw3 (hb4.mono (by omega))
   by_cases hr:r=0
   ·subst hr
    obtain⟨hy,hS3⟩:=hy3 rfl
    have hS4:=hS3.below hb4
    obtain⟨q0,q1,q2,qf⟩:=three_cells kY
    have hRu:Rr=argsI f b k (zs.drop (q+A2.toNat)) (acc++[A1]):=by have:=HRU.out;simpa using this
    obtain⟨ka1,ka2,ka3,ka4⟩:=HKA.out rfl
    simp only at ka2 ka3 ka4
    have HRR:Hid _:=hRu
    have HKK:Hid (cc≠0∧A1.1=kindI cc):=⟨ka1,ka2⟩
    have HY:Hid ((y1,y2,y3)=A1):=hy
    have HS4:Hid _:=hS4
    have HG4:Hid _:=hgw4
    have HO4:Hid _:=hown4
    have s4:=hb4.size
    clear hRu ka1 ka2 hy hS3 hS4 hgw4 hown4 hown3 hgw3 hy3 HRU HKA hb4 kY hg3
    have hsz4:(w3.alloc (.cells #[.int .u8 y1,.int .u32 y2,.string y3] 61)).heap.size=w3.heap.size+1:=by simp
    have N1:Hid (((w3.alloc (.cells #[.int .u8 y1,.int .u32 y2,.string y3] 61)).alloc (.cells #[.int .u8 y1,.int .u32 y2,.string y3] 61)).ownsRow w.heap.size 61 3 (.slice a' acc.length cap') acc.length (acc.flatMap argC)):=own_below (e:=61) (size:=3) (v:=.slice a' acc.length cap') (n:=acc.length) (B:=w.heap.size) (xs:=acc.flatMap argC) HO4.out ((Below.refl _ _).alloc (Nat.le_refl _) _)
    have N2:Hid (∀ (j:Nat) (u:Value),[Value.int .u8 y1,.int .u32 y2,.string y3][j]?=some u→((w3.alloc (.cells #[.int .u8 y1,.int .u32 y2,.string y3] 61)).alloc (.cells #[.int .u8 y1,.int .u32 y2,.string y3] 61)).cell? ((⟨w3.heap.size+1,0,none⟩:Addr).add j)=some u):=World.news_of_block (cs:=#[.int .u8 y1,.int .u32 y2,.string y3]) (t:=61) (fr:=(0,0)) (alloc_newAt _ _ (by simp))
    have N3:Hid (∀ u:Value,u∈[Value.int .u8 y1,.int .u32 y2,.string y3]→u.oneCell'=true):=by intro u hu;simp at hu;rcases hu with rfl | rfl | rfl <;> rfl
    have N4:acc.length+1≤maxLen:=by unfold maxLen;omega
    have N5:(acc.length+1) * 24≤140737488355328:=by omega
    have N6:Hid (w.heap.size≤((w3.alloc (.cells #[.int .u8 y1,.int .u32 y2,.string y3] 61)).alloc (.cells #[.int .u8 y1,.int .u32 y2,.string y3] 61)).heap.size):=by show _≤_;rw [World.size_alloc,World.size_alloc];omega
    go_wp2_with (at_builtin;refine wpList_append_own _ rfl (.tmp 30) (.tmp 32) 36 rfl w.heap.size 61 i0 (.agg #[.int .u8 0,.int .u32 0,.string ⟨#[]⟩]) 3 24 Tryz.underlying36 HI.out.1 HI.out.2.1 HI.out.2.2.1 HI.out.2.2.2 rfl (by decide) _ acc.length (acc.flatMap argC) rfl N1.out ⟨w3.heap.size+1,0,none⟩ 1 1 [.int .u8 y1,.int .u32 y2,.string y3] rfl rfl N2.out N3.out N4 N5 N6.out ?_)
    intro v5 w5 hown5 hgr5 _
    have hb5:w.grownBy ((w3.alloc (.cells #[.int .u8 y1,.int .u32 y2,.string y3] 61)).alloc (.cells #[.int .u8 y1,.int .u32 y2,.string y3] 61)) (some gr):=grown_then HG4.out ((Below.refl _ _).alloc (by simp;omega) _)
    have hRow:∀ g,(Value.slice a' acc.length cap').ownBlock=some g→w.heap.size≤g:=fun g e=>(N1.out.lt g e).1
    have hbel:Below w.heap.size ((w3.alloc (.cells #[.int .u8 y1,.int .u32 y2,.string y3] 61)).alloc (.cells #[.int .u8 y1,.int .u32 y2,.string y3] 61)) w5:=(Below.refl _ _).grown hgr5 N6.out hRow
    have hg6:=grown_then hb5 hbel
    have hS6:=(HS4.out.below ((Below.refl _ _).alloc (Nat.le_refl _) (.cells #[.int .u8 y1,.int .u32 y2,.string y3] 61))).keep hbel hlt.1 hlt.2 hga
    obtain⟨a6,cap6,rfl⟩:∃ a cap,v5=.slice a (acc.length+1) cap:=by
     rcases hown5.2 with ⟨_,h0⟩ | ⟨g,cap,cur,rfl,_⟩
     ·omega
     ·exact⟨_,_,rfl⟩
    have hown6:w5.ownsRow w.heap.size 61 3 (.slice a6 (acc.length+1) cap6) (acc++[A1]).length ((acc++[A1]).flatMap argC):=by
     rw [flat_push,← HY.out,List.length_append];exact hown5
    clear hown5 hgr5 hb5 hRow hbel q0 q1 q2 qf N1 N2 N3 N6 HS4 HG4 HO4
    go_wp2
    go_roundw
    case rel =>
     refine⟨acc++[A1],q+A2.toNat,k,hown6,hS6,hg6,by rw [List.length_append,List.length_singleton];omega,by omega,HRR.out,fun i hi=>?_⟩
     rw [List.length_append,List.length_singleton] at hi
     by_cases hil:i<acc.length
     ·rw [nthA_lo _ _ _ hil];exact HALL.out i hil
     ·obtain rfl:i=acc.length:=by omega
      rw [nthA_hi,HCC.out];exact HKK.out
    case measure=>simp [lenV];omega
   ·have hRu:Rr=([],r):=by have:=HRU.out;simp [hr] at this;exact this
    subst hRu
    clear hy3 HRU HKA
    go_wp2
    refine bodyPost_ret (v:=.tuple #[.slice none 0 0,.int .i64 r]) ?_ rfl ⟨hgw4,none,0,0,rfl,rfl,World.ownsRow_nil _ _ _ _⟩
    simp [results,Tryz.results144,go_sem]
  ·obtain rfl:q=n:=by omega
   have hdl:(zs.drop q).length=0:=by rw [List.length_drop,HLEN.out];omega
   obtain⟨k,rfl⟩:∃ k',k=k'+1:=⟨k - 1,by omega⟩
   have hRu:=HR.out
   rw [argsI,if_pos hdl] at hRu
   have hV:=argsV_own hown1 rfl
   have hfw:=fits_whole (f:=f) (l:=acc) HALL.out
   have hW:=HWH.out a' acc.length cap' acc w1 (by omega) hS1.cells.1 hV rfl (by omega)
   rw [hfw] at hW
   clear hfw HR HALL hdl
   go_wp2_with fail
   refine hW.mono ?_
   rintro e w2 ⟨rfl,hb2⟩
   have hown2:=own_below hown1 hb2
   have hg2:=grown_then hg1 (hb2.mono (by omega))
   clear hW hown1 hg1 hb2 hV
   cases hwh:wholeN f acc.length
   ·rw [hwh] at hRu
    have hRu':Rr=([],42):=by simpa using hRu
    subst hRu'
    clear hRu
    go_wp2
    refine bodyPost_ret (v:=.tuple #[.slice none 0 0,.int .i64 42]) ?_ rfl ⟨hg2,none,0,0,rfl,rfl,World.ownsRow_nil _ _ _ _⟩
    simp [results,Tryz.results144,go_sem]
   ·rw [hwh] at hRu
    have hRu':Rr=(acc,0):=by simpa using hRu
    subst hRu'
    clear hRu
    go_wp2
    refine bodyPost_ret (v:=.tuple #[.slice a' acc.length cap',.int .i64 0]) ?_ rfl ⟨hg2,a',acc.length,cap',rfl,rfl,hown2⟩
    simp [results,Tryz.results144,go_sem]
def OwnI (w:World) (lo:Nat) (a:Option Addr) (k:Nat) (rs:List InstT):Prop :=
 ∀ j,k≤j→j<rs.length→∃ b off aj cj nj,a=some ⟨b,off,none⟩∧lo≤b∧b<w.heap.size∧w.cell? ⟨b,off+j * 4,none⟩=some (.int .u16 (nthI rs j).1)∧w.cell? ⟨b,off+j * 4+1,none⟩=some (.int .u32 (nthI rs j).2.1)∧w.cell? ⟨b,off+j * 4+2,none⟩=some (.int .u32 (nthI rs j).2.2.1)∧w.cell? ⟨b,off+j * 4+3,none⟩=some (.slice aj nj cj)∧(nthI rs j).2.2.2.length=nj ∧
  w.ownsRow lo 61 3 (.slice aj nj cj) nj ((nthI rs j).2.2.2.flatMap argC)∧Value.ownBlock (.slice aj nj cj)≠some b ∧
  ∀ i,k≤i→i<rs.length→i≠j→∀ ai ci ni g,w.cell? ⟨b,off+i * 4+3,none⟩=some (.slice ai ni ci)→Value.ownBlock (.slice ai ni ci)=some g→Value.ownBlock (.slice aj nj cj)≠some g
theorem ownI_nil {w:World} {lo k:Nat} {a:Option Addr}:OwnI w lo a k []:=fun j _ hj=>by simp at hj
theorem OwnI.kept {w w':World} {lo lo' k:Nat} {a:Option Addr} {rs:List InstT} {ob:Option Nat} (h:OwnI w lo a k rs) (hg:w.grownBy w' ob) (hob:∀ g,ob=some g→g<lo) (hlo:lo'≤lo):OwnI w' lo' a k rs:=by
 intro j hj hjl
 obtain⟨b,off,aj,cj,nj,e1,hlo1,hb1,c1,d1,d2,c2,c3,c4,c5,c6⟩:=h j hj hjl
 have hne:some b≠ob:=fun e=>by have:=hob b e.symm;omega
 have cell:∀ o,w'.cell? ⟨b,o,none⟩=w.cell? ⟨b,o,none⟩:=fun o=>World.cell?_of_block (hg.block b hb1 hne)
 have c4':=own_grown c4 hg (fun g e e2=>by have:=(c4.lt g e2).1;have:=hob g e;omega)
 refine⟨b,off,aj,cj,nj,e1,Nat.le_trans hlo hlo1,Nat.lt_of_lt_of_le hb1 hg.size,(cell _).trans c1,(cell _).trans d1,(cell _).trans d2,(cell _).trans c2,c3,⟨c4'.1,?_⟩,c5,fun i hi hil hij ai ci ni g hci=>by rw [cell] at hci;exact c6 i hi hil hij ai ci ni g hci⟩
 rcases c4'.2 with h0 | ⟨g,cap,cur,e,hb,rest⟩
 ·exact .inl h0
 ·exact .inr ⟨g,cap,cur,e,Nat.le_trans hlo hb,rest⟩
theorem OwnI.view {w:World} {lo:Nat} {a:Option Addr} {rs:List InstT} (h:OwnI w lo a 0 rs):InstsV w a rs:=by
 intro j hj
 obtain⟨b,off,aj,cj,nj,e,_,hb,c1,d1,d2,c2,c3,c4,_⟩:=h j (Nat.zero_le _) hj
 refine⟨b,off,aj,cj,nj,e,hb,c1,d1,d2,c2,c3,argsV_own c4 c3,?_⟩
 rcases c4.2 with ⟨e1,e2⟩ | ⟨g,c',cur,e1,_,_,e4,_⟩
 ·omega
 ·cases e1;exact e4
structure RowI (w : World) (lo : Nat) (ob : Option Nat) (rs : List InstT) (cs : List Value) : Prop where
  len : cs.length = rs.length * 4
  each : ∀ j, j < rs.length → ∃ aj cj nj, cs[j * 4]? = some (.int .u16 (nthI rs j).1) ∧ cs[j * 4 + 1]? = some (.int .u32 (nthI rs j).2.1) ∧ cs[j * 4 + 2]? = some (.int .u32 (nthI rs j).2.2.1) ∧ cs[j * 4 + 3]? = some (.slice aj nj cj) ∧ (nthI rs j).2.2.2.length = nj ∧
    w.ownsRow lo 61 3 (.slice aj nj cj) nj ((nthI rs j).2.2.2.flatMap argC) ∧ (∀ g, Value.ownBlock (.slice aj nj cj) = some g → ob ≠ some g) ∧
    ∀ i, i < rs.length → i ≠ j → ∀ ai ci ni g, cs[i * 4 + 3]? = some (.slice ai ni ci) → Value.ownBlock (.slice ai ni ci) = some g → Value.ownBlock (.slice aj nj cj) ≠ some g
theorem rowI_nil {w:World} {lo:Nat} {ob:Option Nat}:RowI w lo ob [] []:=⟨rfl,fun j hj=>by simp at hj⟩
theorem RowI.grown {w w':World} {lo:Nat} {ob:Option Nat} {rs:List InstT} {cs:List Value} {row:Option Nat} (h:RowI w lo ob rs cs) (hg:w.grownBy w' row) (hr:Apartly w lo row):RowI w' lo ob rs cs:=by
 refine⟨h.len,fun j hj=>?_⟩
 obtain⟨aj,cj,nj,h1,d1,d2,h2,h3,h4,h5,h6⟩:=h.each j hj
 exact⟨aj,cj,nj,h1,d1,d2,h2,h3,own_apartly h4 hg hr,h5,h6⟩
theorem RowI.push {w0 w w':World} {v:Value} {g' lo:Nat} {rs:List InstT} {cs:List Value} {x:InstT} {a:Option Addr} {n c:Nat}
  (h:RowI w0 lo v.ownBlock rs cs) (hb:Below w0.heap.size w0 w) (hs:w.ownsRow w0.heap.size 61 3 (.slice a n c) n (x.2.2.2.flatMap argC)) (hl:x.2.2.2.length=n) (hv:∀ b,v.ownBlock=some b→b<w0.heap.size) (hlo:lo≤w0.heap.size)
  (hg:w.grownBy w' v.ownBlock) (hat:v.ownBlock=some g'∨g'=w.heap.size):RowI w' lo (some g') (rs++[x]) (cs++[.int .u16 x.1,.int .u32 x.2.1,.int .u32 x.2.2.1,.slice a n c]):=by
 have hcl:=h.len
 have hnew:∀ g,Value.ownBlock (.slice a n c)=some g→w0.heap.size≤g∧g<w.heap.size:=fun g e=>hs.lt g e
 have hold:∀ i,i<rs.length→∀ ai ci ni g,cs[i * 4+3]?=some (.slice ai ni ci)→Value.ownBlock (.slice ai ni ci)=some g→g<w0.heap.size:=fun i hi ai ci ni g hc e=>by
  obtain⟨aj,cj,nj,_,_,_,h2,_,h4,_⟩:=h.each i hi
  rw [hc] at h2
  cases h2
  exact (h4.lt g e).2
 have hown:∀ {sv:Value} {m:Nat} {xs:List Value} {B:Nat},w.ownsRow B 61 3 sv m xs→(∀ g,sv.ownBlock=some g→v.ownBlock≠some g)→w'.ownsRow B 61 3 sv m xs:=fun h1 h2=>own_grown h1 hg (fun g e e2=>h2 g e2 e)
 have hne:∀ g,g<w.heap.size→v.ownBlock≠some g→some g'≠some g:=fun g h1 h2 e=>by
  cases e
  rcases hat with h3 | h3
  ·exact h2 h3
  ·omega
 refine⟨by simp [hcl];omega,fun j hj=>?_⟩
 rw [List.length_append,List.length_singleton] at hj
 by_cases hjl:j<rs.length
 ·obtain⟨aj,cj,nj,h1,d1,d2,h2,h3,h4,h5,h6⟩:=h.each j hjl
  rw [nthI_lo _ _ _ hjl]
  refine⟨aj,cj,nj,by rw [List.getElem?_append_left (by omega)];exact h1,by rw [List.getElem?_append_left (by omega)];exact d1,by rw [List.getElem?_append_left (by omega)];exact d2,by rw [List.getElem?_append_left (by omega)];exact h2,h3,hown (own_below h4 hb) h5,fun g e=>hne g (by have:=(h4.lt g e).2;have:=hb.size;omega) (h5 g e),?_⟩
  intro i hi hij ai ci ni g hci e
  rw [List.length_append,List.length_singleton] at hi
  by_cases hil:i<rs.length
  ·rw [List.getElem?_append_left (by omega)] at hci
   exact h6 i hil hij ai ci ni g hci e
  ·obtain rfl:i=rs.length:=by omega
   rw [List.getElem?_append_right (by omega),show rs.length * 4+3 - cs.length=3 by omega] at hci
   simp at hci
   obtain⟨rfl,rfl,rfl⟩:=hci
   intro e2
   have h7:=(hnew g e).1
   have h8:=hold j hjl aj cj nj g h2 e2
   omega
 ·obtain rfl:j=rs.length:=by omega
  rw [nthI_hi]
  refine⟨a,c,n,?_,?_,?_,?_,hl,?_,fun g e=>hne g (hnew g e).2 (fun e2=>by have:=hv g e2;have:=(hnew g e).1;omega),?_⟩
  ·rw [List.getElem?_append_right (by omega),show rs.length * 4 - cs.length=0 by omega];rfl
  ·rw [List.getElem?_append_right (by omega),show rs.length * 4+1 - cs.length=1 by omega];rfl
  ·rw [List.getElem?_append_right (by omega),show rs.length * 4+2 - cs.length=2 by omega];rfl
  ·rw [List.getElem?_append_right (by omega),show rs.length * 4+3 - cs.length=3 by omega];rfl
  ·refine hown ⟨hs.1,?_⟩ (fun g e e2=>by have:=hv g e2;have:=(hnew g e).1;omega)
   rcases hs.2 with h0 | ⟨g,cap,cur,e,hb',rest⟩
   ·exact .inl h0
   ·exact .inr ⟨g,cap,cur,e,Nat.le_trans hlo hb',rest⟩
  ·intro i hi hij ai ci ni g hci e e2
   rw [List.length_append,List.length_singleton] at hi
   have hil:i<rs.length:=by omega
   rw [List.getElem?_append_left (by omega)] at hci
   have:=hold i hil ai ci ni g hci e
   have:=(hnew g e2).1
   omega
theorem RowI.own {w:World} {T n cap lo:Nat} {a:Option Addr} {rs:List InstT} {cs:List Value} (h:RowI w lo (Value.ownBlock (.slice a n cap)) rs cs) (hown:w.ownsRow lo T 4 (.slice a n cap) n cs) (hl:rs.length=n):OwnI w lo a 0 rs:=by
 intro j _ hj
 rcases hown.2 with ⟨_,hn⟩ | ⟨g,cap',cur,hv,hb,hgg,_⟩
 ·omega
 ·cases hv
  obtain⟨aj,cj,nj,h1,d1,d2,h2,h3,h4,h5,h6⟩:=h.each j hj
  have hcl:=h.len
  have c1:=hown.cellAt (j * 4) (by omega)
  have e1:=hown.cellAt (j * 4+1) (by omega)
  have e2:=hown.cellAt (j * 4+2) (by omega)
  have c2:=hown.cellAt (j * 4+3) (by omega)
  rw [h1] at c1
  rw [d1] at e1
  rw [d2] at e2
  rw [h2] at c2
  refine⟨g,0,aj,cj,nj,rfl,hb,(Array.getElem?_eq_some_iff.1 hgg).1,by rw [Nat.zero_add];exact c1,by rw [Nat.zero_add];exact e1,by rw [Nat.zero_add];exact e2,by rw [Nat.zero_add];exact c2,h3,h4,fun e=>h5 g e rfl,?_⟩
  intro i _ hi hij ai ci ni g2 hci e
  have c3:=hown.cellAt (i * 4+3) (by omega)
  rw [Nat.zero_add,c3] at hci
  exact h6 i hi hij ai ci ni g2 hci e
theorem partFirst_any (x:Int) (w:World) (h0:0≤x) (h1:x<4294967296) :
  Calls Tryz.prog 142 #[.int .u32 x] w fun e w'=>e=.returned (.tuple #[.int .u16 (x % 65536),.int .i64 (x / 65536)])∧w=w':=by
 go_enter Tryz.func142,Tryz.ntmps142
 go_wp2
 refine bodyPost_ret (v:=.tuple #[.int .u16 (IntKind.u16.wrap x),.int .i64 (x / 65536)]) (by simp [results,Tryz.results142,go_sem]) rfl ⟨?_,rfl⟩
 rw [show IntKind.u16.wrap x=x % 65536 by simp [IntKind.wrap,IntKind.bits,IntKind.signed]]
theorem mayBeBound_any (x : Int) (w : World) (h0 : 0 ≤ x) (h1 : x < 4294967296) :
    Calls Tryz.prog 111 #[.int .u32 x] w fun e w' => e = .returned (.bool (!(decide (x = 0) || decide (65536 < x)))) ∧ w = w' := by
  go_enter Tryz.func111, Tryz.ntmps111
  go_wp2
  · go_ret
    refine ⟨?_, rfl⟩
    have hx : 1 ≤ x := by assumption
    show Ending.returned (.bool (decide (x ≤ 65536))) = _
    congr 2
    by_cases h : x ≤ 65536
    · simp [h, show ¬ x = 0 by omega]
    · simp [h]; omega
  · go_ret
    refine ⟨?_, rfl⟩
    have hx : ¬ 1 ≤ x := by first | assumption | (have : x < 1 := by assumption
                                                  omega)
    obtain rfl : x = 0 := by omega
    rfl
theorem wordsOf_any (op:Int) (a:Option Addr) (n cap:Nat) (w:World) (hn:n≤140737488351232) :
  Calls Tryz.prog 103 #[.agg #[.int .u16 op,.slice a n cap]] w fun e w'=>e=.returned (.int .i64 ((n:Int)+1))∧w.alloc (.cells #[.int .u16 op,.slice a n cap] 54)=w':=by
 go_enter Tryz.func103,Tryz.ntmps103
 go_wp2
 go_ret
 exact⟨ret_int (by omega),rfl⟩
theorem firstWord_any (op:Int) (a:Option Addr) (n cap:Nat) (w:World) (hn:n<65535) (ho:0≤op) (ho2:op<65536) :
  Calls Tryz.prog 113 #[.agg #[.int .u16 op,.slice a n cap]] w fun e w'=>e=.returned (.int .u32 (((n:Int)+1) * 65536+op))∧Below w.heap.size w w':=by
 have hW:=fun w=>wordsOf_any op a n cap w (by omega)
 go_enter Tryz.func113,Tryz.ntmps113
 go_wp2_with fail
 go_region_with (go_at_call 103;refine (hW _).mono ?_;rintro e w' ⟨rfl,rfl⟩)
 all_goals go_wp2
 all_goals go_ret
 all_goals refine⟨?_,(((Below.refl _ _).alloc (Nat.le_refl _) _).alloc (by simp) _).drew⟩
 all_goals
  show Ending.returned (.int .u32 (bits .or .u32 (IntKind.u32.wrap (IntKind.u32.wrap ((n:Int)+1) * 65536)) (IntKind.u32.wrap op)))=_
  apply ret_int
  rw [show IntKind.u32.wrap ((n:Int)+1)=(n:Int)+1 by rw [IntKind.wrap_u32'];omega,show IntKind.u32.wrap (((n:Int)+1) * 65536)=((n:Int)+1) * 65536 by rw [IntKind.wrap_u32'];omega,show IntKind.u32.wrap op=op by rw [IntKind.wrap_u32'];omega]
  exact or_high ((n:Int)+1) op 16 (by omega) ho (by omega) (by omega)
theorem turned_any (x:Int) (w:World) (hx:0≤x) (hx2:x<4294967296) :
  Calls Tryz.prog 163 #[.int .u32 x] w fun e w'=>e=.returned (.int .u32 (turnI x))∧w=w':=by
 have a0:=byt_lo x 0
 have b0:=byt_hi x 0
 have a1:=byt_lo x 1
 have b1:=byt_hi x 1
 have a2:=byt_lo x 2
 have b2:=byt_hi x 2
 have a3:=byt_lo x 3
 have b3:=byt_hi x 3
 go_enter Tryz.func163,Tryz.ntmps163
 go_wp2
 refine wp_loop_rounds 5 ?_
 rw [rounds_succ]
 go_wp2_with (first | (go_at_call 175;refine (byteAt_any _ _ _ hx hx2 (by omega) (by omega)).mono ?_;rintro e w' ⟨rfl,rfl⟩) | (go_at_call 99;refine (atPlace_any _ _ _ (by assumption) (by assumption) (by omega) (by omega)).mono ?_;rintro e w' ⟨rfl,rfl⟩))
 rw [rounds_succ]
 go_wp2_with (first | (go_at_call 175;refine (byteAt_any _ _ _ hx hx2 (by omega) (by omega)).mono ?_;rintro e w' ⟨rfl,rfl⟩) | (go_at_call 99;refine (atPlace_any _ _ _ (by assumption) (by assumption) (by omega) (by omega)).mono ?_;rintro e w' ⟨rfl,rfl⟩))
 rw [rounds_succ]
 go_wp2_with (first | (go_at_call 175;refine (byteAt_any _ _ _ hx hx2 (by omega) (by omega)).mono ?_;rintro e w' ⟨rfl,rfl⟩) | (go_at_call 99;refine (atPlace_any _ _ _ (by assumption) (by assumption) (by omega) (by omega)).mono ?_;rintro e w' ⟨rfl,rfl⟩))
 rw [rounds_succ]
 go_wp2_with (first | (go_at_call 175;refine (byteAt_any _ _ _ hx hx2 (by omega) (by omega)).mono ?_;rintro e w' ⟨rfl,rfl⟩) | (go_at_call 99;refine (atPlace_any _ _ _ (by assumption) (by assumption) (by omega) (by omega)).mono ?_;rintro e w' ⟨rfl,rfl⟩))
 rw [rounds_succ]
 go_wp2
 go_ret
 exact⟨ret_int (or_four_high _ _ _ _ a0 b0 a1 b1 a2 b2 a3 b3),rfl⟩
theorem turned_magic:turnI 119734787=50471687:=by decide
set_option maxHeartbeats 1000000 in
theorem headFault_any (k:Nat) (x:Int) (w:World) (hk:k<5) (hx0:0≤x) (hx1:x<4294967296) :
  Calls Tryz.prog 140 #[.int .i64 k,.int .u32 x] w fun e w'=>e=.returned (.int .i64 (wrongE k x))∧w=w':=by
 have hT:=fun w=>turned_any 119734787 w (by omega) (by omega)
 rw [turned_magic] at hT
 have hM:=fun w=>mayBeBound_any x w hx0 hx1
 rcases (show k=0∨k=1∨k=2∨k=3∨k=4 by omega) with rfl | rfl | rfl | rfl | rfl
 ·clear hM
  by_cases h1:x=50471687
  ·have HE:Hid (wrongE 0 x=21):=by show _=_;simp [wrongE,h1]
   have b1:(x==50471687)=true:=by simpa using h1
   clear h1
   go_enter Tryz.func140,Tryz.ntmps140
   go_wp2_with (go_at_call 163;refine (hT _).mono ?_;rintro e w' ⟨rfl,rfl⟩)
   go_ret
   exact⟨ret_int HE.out.symm,rfl⟩
  ·have b1:(x==50471687)=false:=by simpa using h1
   by_cases h2:x=119734787
   ·have HE:Hid (wrongE 0 x=0):=by show _=_;simp [wrongE,h2]
    have b2:(x==119734787)=true:=by simpa using h2
    clear h1 h2
    go_enter Tryz.func140,Tryz.ntmps140
    go_wp2_with (go_at_call 163;refine (hT _).mono ?_;rintro e w' ⟨rfl,rfl⟩)
    go_ret
    exact⟨ret_int HE.out.symm,rfl⟩
   ·have HE:Hid (wrongE 0 x=20):=by show _=_;simp [wrongE,h1,h2]
    have b2:(x==119734787)=false:=by simpa using h2
    clear h1 h2
    go_enter Tryz.func140,Tryz.ntmps140
    go_wp2_with (go_at_call 163;refine (hT _).mono ?_;rintro e w' ⟨rfl,rfl⟩)
    go_ret
    exact⟨ret_int HE.out.symm,rfl⟩
 ·clear hM hT
  by_cases h1:x=65536
  ·have HE:Hid (wrongE 1 x=0):=by show _=_;simp [wrongE,h1]
   have b1:(x==65536)=true:=by simpa using h1
   clear h1
   go_enter Tryz.func140,Tryz.ntmps140
   go_wp2
   go_ret
   exact⟨ret_int HE.out.symm,rfl⟩
  ·have HE:Hid (wrongE 1 x=22):=by show _=_;simp [wrongE,h1]
   have b1:(x==65536)=false:=by simpa using h1
   clear h1
   go_enter Tryz.func140,Tryz.ntmps140
   go_wp2
   go_ret
   exact⟨ret_int HE.out.symm,rfl⟩
 ·clear hM hT
  go_enter Tryz.func140,Tryz.ntmps140
  go_wp2
  go_ret
  exact⟨rfl,rfl⟩
 ·clear hT
  by_cases h1:x=0∨65536<x
  ·have HE:Hid (wrongE 3 x=24):=by show _=_;rcases h1 with h1 | h1 <;> simp [wrongE,h1]
   have e1:(!(decide (x=0) || decide (65536<x)))=false:=by rcases h1 with h1 | h1 <;> simp [h1]
   rw [e1] at hM
   clear h1 e1
   go_enter Tryz.func140,Tryz.ntmps140
   go_wp2_with (go_at_call 111;refine (hM _).mono ?_;rintro e w' ⟨rfl,rfl⟩)
   go_ret
   exact⟨ret_int HE.out.symm,rfl⟩
  ·have HE:Hid (wrongE 3 x=0):=by show _=_;simp [wrongE,show ¬ x=0 from fun h=>h1 (.inl h),show ¬ 65536<x from fun h=>h1 (.inr h)]
   have e1:(!(decide (x=0) || decide (65536<x)))=true:=by simp [show ¬ x=0 from fun h=>h1 (.inl h),show ¬ 65536<x from fun h=>h1 (.inr h)]
   rw [e1] at hM
   clear h1 e1
   go_enter Tryz.func140,Tryz.ntmps140
   go_wp2_with (go_at_call 111;refine (hM _).mono ?_;rintro e w' ⟨rfl,rfl⟩)
   go_ret
   exact⟨ret_int HE.out.symm,rfl⟩
 ·clear hM hT
  by_cases h1:x=0
  ·have HE:Hid (wrongE 4 x=0):=by show _=_;simp [wrongE,h1]
   have b1:(x==0)=true:=by simpa using h1
   clear h1
   go_enter Tryz.func140,Tryz.ntmps140
   go_wp2
   go_ret
   exact⟨ret_int HE.out.symm,rfl⟩
  ·have HE:Hid (wrongE 4 x=23):=by show _=_;simp [wrongE,h1]
   have b1:(x==0)=false:=by simpa using h1
   clear h1
   go_enter Tryz.func140,Tryz.ntmps140
   go_wp2
   go_ret
   exact⟨ret_int HE.out.symm,rfl⟩
def headAt (zs:List Int) (i:Nat):Int:=if (headE zs 0).1=0 then nth zs i else 0
theorem headE_any (zs:List Int):headE zs 0=(0,0)∨(headE zs 0).1≠0:=by
 have key:∀ f k,headF zs f k=(0,0)∨(headF zs f k).1≠0:=by
  intro f
  induction f with
  | zero=>intro k;exact .inl rfl
  | succ f ih =>
   intro k
   rw [headF]
   split
   ·split
    ·exact .inr (by simp)
    ·split
     ·next h=>exact .inr h
     ·exact ih (k+1)
   ·exact .inl rfl
 exact key _ _
set_option maxHeartbeats 1000000 in
theorem readHead_any (a:Option Addr) (n cap:Nat) (zs:List Int) (w:World) (ha:View .u32 w a zs) (hl:zs.length=n) (hw:Within 4294967296 zs) (hn:n≤1048576) :
  Calls Tryz.prog 100 #[.slice a n cap] w fun e w'=>e=.returned (.tuple #[.agg #[.int .u32 (headAt zs 2),.int .u32 (headAt zs 3)],.agg #[.int .i64 (headE zs 0).1,.int .i64 (headE zs 0).2]])∧Below w.heap.size w w':=by
 have HL:Hid (zs.length=n):=hl
 have hav:=ha.below (((Below.refl _ w).alloc (Nat.le_refl _) (.cells #[.int .u32 0,.int .u32 0] 106)).alloc (by simp) (.cells #[.int .i64 0,.int .i64 0] 28))
 clear hl ha
 go_enter Tryz.func100,Tryz.ntmps100
 go_wp2
 go_loop [6] (fun i=>∃ k:Nat,k≤5∧k≤n∧i=.int .i64 k∧headE zs 0=headE zs k) (fun i=>5 - (intOf i).toNat)
 case atStart=>exact⟨0,by omega,by omega,rfl,rfl⟩
 case round =>
  obtain⟨k,hk,hkn,rfl,hke⟩:=hrel
  have HK:Hid (headE zs 0=headE zs k):=hke
  clear hke
  by_cases hk5:k<5
  ·have HS:Hid (headE zs k=if n≤k then (14,k) else if wrongE k (nth zs k)≠0 then (wrongE k (nth zs k),k) else headE zs (k+1)):=by
    have:=headE_step zs k hk5
    rw [HL.out] at this
    exact this
   by_cases hlt:k<n
   ·obtain⟨b,off,rfl,_,hc⟩:=hav k (by rw [HL.out];exact hlt)
    have hb:=hw.at (k:=k) (by rw [HL.out];exact hlt)
    have hW:=fun wx=>headFault_any k (nth zs k) wx hk5 hb.1 hb.2
    have hki:((k:Int)==(n:Int))=false:=by simp;omega
    have hki2:(k:Int)<(n:Int):=by omega
    clear hav hb
    generalize nth zs k=x at hc hW HS
    by_cases hx:wrongE k x=0
    ·have HE2:Hid (headE zs 0=headE zs (k+1)):=by show _=_;rw [HK.out,HS.out,if_neg (by omega),if_neg (by simp [hx])]
     rw [hx] at hW
     go_wp2_with (go_at_call 140;refine (hW _).mono ?_;rintro e w' ⟨rfl,rfl⟩)
     go_round
     case rel=>exact⟨k+1,by omega,by omega,by go_num,HE2.out⟩
     case measure=>simp [intOf];omega
    ·have HE2:Hid (headE zs 0=(wrongE k x,k)):=by show _=_;rw [HK.out,HS.out,if_neg (by omega),if_pos hx]
     have HA:Hid (∀ i,headAt zs i=0):=fun i=>by unfold headAt;rw [HE2.out,if_neg hx]
     have hxb:(wrongE k x==0)=false:=by simpa using hx
     clear hx
     generalize wrongE k x=er at hW hxb HE2
     go_wp2_with (go_at_call 140;refine (hW _).mono ?_;rintro e w' ⟨rfl,rfl⟩)
     exact bodyPost_ret (v:=.tuple #[.agg #[.int .u32 0,.int .u32 0],.agg #[.int .i64 er,.int .i64 k]]) (by simp [results,Tryz.results100,go_sem]) rfl ⟨by rw [HE2.out,HA.out,HA.out],((Below.refl _ _).alloc (Nat.le_refl _) _).alloc (by simp) _⟩
   ·have HE2:Hid (headE zs 0=(14,k)):=by show _=_;rw [HK.out,HS.out,if_pos (by omega)]
    have HA:Hid (∀ i,headAt zs i=0):=fun i=>by unfold headAt;rw [HE2.out,if_neg (by simp)]
    have hki:((k:Int)==(n:Int))=true:=by simp;omega
    go_wp2
    exact bodyPost_ret (v:=.tuple #[.agg #[.int .u32 0,.int .u32 0],.agg #[.int .i64 14,.int .i64 k]]) (by simp [results,Tryz.results100,go_sem]) rfl ⟨by rw [HE2.out,HA.out,HA.out],((Below.refl _ _).alloc (Nat.le_refl _) _).alloc (by simp) _⟩
  ·obtain rfl:k=5:=by omega
   have HE2:Hid (headE zs 0=(0,0)):=by show _=_;rw [HK.out,headE_end]
   have HA:Hid (∀ i,headAt zs i=nth zs i):=fun i=>by unfold headAt;rw [HE2.out,if_pos rfl]
   obtain⟨b,off,rfl,_,hc2⟩:=hav 2 (by rw [HL.out];omega)
   obtain⟨b',off',e',_,hc3⟩:=hav 3 (by rw [HL.out];omega)
   simp at e'
   obtain⟨rfl,rfl⟩:=e'
   clear hav
   have h2n:(2:Int)<(n:Int):=by omega
   have h3n:(3:Int)<(n:Int):=by omega
   go_wp2
   go_region
   all_goals go_wp2
   all_goals
    refine bodyPost_ret (v:=.tuple #[.agg #[.int .u32 (nth zs 2),.int .u32 (nth zs 3)],.agg #[.int .i64 0,.int .i64 0]]) (by simp [results,Tryz.results100,go_sem]) rfl ⟨?_,?_⟩
    ·rw [HE2.out,HA.out,HA.out];rfl
    ·first
      | exact ((Below.refl _ _).alloc (Nat.le_refl _) _).alloc (by simp) _
      | exact (((Below.refl _ _).alloc (Nat.le_refl _) _).alloc (by simp) _).drew
set_option maxHeartbeats 1000000 in
theorem apart_any (op:Int) (x:Addr) (n cap:Nat) (ms:List Int) (w:World) (hv:View .u32 w (some x) ms) (hl:ms.length=n) (hn:4 * n≤140737488351232) :
  Calls Tryz.prog 102 #[.agg #[.int .u16 op,.slice (some x) n cap]] w fun e w'=>∃ g cx,e=.returned (.agg #[.int .u16 op,.slice (some ⟨g,0,none⟩) n cx]) ∧
   w'.ownsRow (w.heap.size+2) 22 1 (.slice (some ⟨g,0,none⟩) n cx) n (ms.map (Value.int .u32))∧Below w.heap.size w w':=by
 have hB:Below w.heap.size w ((w.alloc (.cells #[.int .u16 op,.slice (some x) n cap] 54)).alloc (.cells #[.int .u16 0,.slice none 0 0] 54)):=((Below.refl _ w).alloc (Nat.le_refl _) _).alloc (by simp) _
 have hC:=fun wx (hb:Below ((w.alloc (.cells #[.int .u16 op,.slice (some x) n cap] 54)).alloc (.cells #[.int .u16 0,.slice none 0 0] 54)).heap.size ((w.alloc (.cells #[.int .u16 op,.slice (some x) n cap] 54)).alloc (.cells #[.int .u16 0,.slice none 0 0] 54)) wx)=>clone_some x n cap ms wx ((hv.below hB).below hb) hl hn
 have hr0:((w.alloc (.cells #[.int .u16 op,.slice (some x) n cap] 54)).alloc (.cells #[.int .u16 0,.slice none 0 0] 54)).heap[w.heap.size]?=some (.cells #[.int .u16 op,.slice (some x) n cap] 54 (0,0)):=by
  rw [Below.heap_alloc _ _ _ (by simp)];exact heap_alloc_new w _
 have hr1:((w.alloc (.cells #[.int .u16 op,.slice (some x) n cap] 54)).alloc (.cells #[.int .u16 0,.slice none 0 0] 54)).heap[w.heap.size+1]?=some (.cells #[.int .u16 0,.slice none 0 0] 54 (0,0)):=by
  have:=heap_alloc_new (w.alloc (.cells #[.int .u16 op,.slice (some x) n cap] 54)) (.cells #[.int .u16 0,.slice none 0 0] 54)
  simpa using this
 clear hv hl
 go_enter Tryz.func102,Tryz.ntmps102
 go_wp2
 go_region_with (go_at_call 104;refine (hC _ (by first | exact Below.refl _ _ | exact (Below.refl _ _).drew)).mono ?_;rintro e w' ⟨g,cx,rfl,hown,hbC⟩;obtain⟨c0,c1,_⟩:=cell_of_two ((hbC.block _ (by simp;omega)).trans hr0);obtain⟨d0,d1,f1⟩:=cell_of_two ((hbC.block _ (by simp)).trans hr1);have f0:w'.frozen? ⟨w.heap.size+1,0,none⟩=false:=(by simp [World.frozen?,(hbC.block _ (by simp)).trans hr1]))
 all_goals
  have hres:=(hbC.block _ (by simp)).trans hr1
  have hfin:((w'.setCell ⟨w.heap.size+1,0,none⟩ (.int .u16 op)).setCell ⟨w.heap.size+1,1,none⟩ (.slice (some ⟨g,0,none⟩) n cx)).heap[w.heap.size+1]?=some (.cells #[.int .u16 op,.slice (some ⟨g,0,none⟩) n cx] 54 (0,0)):=by
   simp only [World.setCell,Array.getElem?_modify,hres];simp
  obtain⟨z0,z1,_⟩:=cell_of_two hfin
  have HZ0:Hid (_=_):=z0
  have HZ1:Hid (_=_):=z1
  have hown1:w'.ownsRow (w.heap.size+2) 22 1 (.slice (some ⟨g,0,none⟩) n cx) n (ms.map (Value.int .u32)):=own_base hown (by simp)
  have hown2:=ownsRow_setCell_below (ownsRow_setCell_below hown1 (a:=⟨w.heap.size+1,0,none⟩) (by simp) (.int .u16 op)) (a:=⟨w.heap.size+1,1,none⟩) (by simp) (.slice (some ⟨g,0,none⟩) n cx)
  have hbw:Below w.heap.size w ((w'.setCell ⟨w.heap.size+1,0,none⟩ (.int .u16 op)).setCell ⟨w.heap.size+1,1,none⟩ (.slice (some ⟨g,0,none⟩) n cx)):=((hB.trans ((by first | exact hbC | exact ((Below.refl _ _).drew).trans hbC:Below _ _ w').mono (by simp;omega))).setCell (p:=⟨w.heap.size+1,0,none⟩) (by simp) _).setCell (p:=⟨w.heap.size+1,1,none⟩) (by simp) _
  clear z0 z1 hfin hres hown hown1 hbC c0 c1
  go_wp2
  exact bodyPost_ret (v:=.agg #[.int .u16 op,.slice (some ⟨g,0,none⟩) n cx]) (by simp [results,Tryz.results102,go_sem,HZ0.out,HZ1.out]) rfl ⟨g,cx,rfl,by first | exact hown2 | exact own_below hown2 (bel_drewN (Below.refl _ _) 1),by first | exact hbw | exact hbw.drew⟩
end Go.Proofs.YtonhnflilfjkbaaGreatDoor
namespace Go.Proofs.YtonhnflilfjkbaaGreatDoor
open Go.RowKit Go.Shelf
attribute [local go_sem] Oper.semAt_some

theorem parts_any (a:Option Addr) (n cap:Nat) (w:World) :
  Calls Tryz.prog 101 #[.slice a n cap] w fun e w'=>e=.returned (.func (.func 141) #[] #[.pointer (some ⟨w.heap.size,0,none⟩)])∧w.alloc (.cells #[.slice a n cap] 52)=w':=by
 go_enter Tryz.func101,Tryz.ntmps101
 go_wp2
 go_ret
 exact⟨rfl,rfl⟩
def further (a:Option Addr) (cap k:Nat):Option Addr:=if cap=k then a else a.map fun x=>⟨x.block,x.off+k,none⟩
def partV (a:Option Addr) (cap:Nat) (zs:List Int) (p:Nat):Array Value:=#[.int .i64 p,.agg #[.int .u16 (opI zs p),.slice (further a cap (p+1)) (p+cntN zs p - (p+1)) (cap - (p+1))]]
set_option maxRecDepth 100000 in
set_option maxHeartbeats 2000000 in
theorem parts_tells (a:Option Addr) (n cap:Nat) (zs:List Int) (w0:World) (ha:View .u32 w0 a zs) (hl:zs.length=n) (hw:Within 4294967296 zs) (hn:4 * n≤140737488351232) (hc:n≤cap) (τ:TypeId→Prop) (hτ:τ 52)
  (w:World) (B:Nat) (hb:Below w0.heap.size w0 w) (hB:w.heap[B]?=some (.cells #[.slice a n cap] 52 (0,0))) :
  Tells Tryz.prog 141 #[.pointer (some ⟨B,0,none⟩)] (partV a cap zs) (fun pre p _=>pre++[p] <+: rest zs 5) w0.heap.size τ (fun xs=>xs=rest zs 5) (fun pre=>pre <+: rest zs 5) w:=by
 intro l J Jx W hW hJ hJx hY h0
 have hBW:W.heap[B]?=some (.cells #[.slice a n cap] 52 (0,0)):=(hW.block B (Array.getElem?_eq_some_iff.1 hB).1).trans hB
 have hbW:Below w0.heap.size w0 W:=hb.trans (hW.mono hb.size)
 have HL:Hid (zs.length=n):=hl
 clear hl hB hb hW
 refine callsIn_of_wp Tryz.func141 rfl trivial ?_ rfl
 simp only [Tryz.ntmps141,List.size_toArray,List.length_cons,List.length_nil,Nat.reduceAdd,Nat.reduceSub,Array.replicate_succ,Array.replicate_zero,List.push_toArray,List.append_toArray,List.nil_append,List.cons_append]
 gi_wp2
 gi_loopw [3] (fun i wr=>∃ (p:Nat) (pre:List Nat),i=.int .i64 p∧pre++rest zs p=rest zs 5∧(p=5∨p≤n)∧J pre wr∧wr.heap[B]?=some (.cells #[.slice a n cap] 52 (0,0))∧Below w0.heap.size w0 wr) (fun i _=>n - (intOf i).toNat)
 case atStart=>exact⟨5,[],rfl,rfl,.inl rfl,h0,hBW,hbW⟩
 case round =>
  obtain⟨p,pre,rfl,hpre,hpn,hJs,hBr,hbr⟩:=hrel
  clear hBW hbW h0
  have HP:Hid (pre++rest zs p=rest zs 5):=hpre
  clear hpre
  have hbx:wr.cell? ⟨B,0,none⟩=some (.slice a n cap):=by simp [World.cell?,hBr]
  by_cases hlt:p<n
  ·have hav:=ha.below hbr
   obtain⟨b,off,rfl,_,hc1⟩:=hav p (by rw [HL.out];exact hlt)
   have hx:=hw.at (k:=p) (by rw [HL.out];exact hlt)
   have hF:=fun wx=>partFirst_any (nth zs p) wx hx.1 hx.2
   have hcn:nth zs p / 65536=(cntN zs p:Int):=cntN_int zs p hx.1
   have hop:nth zs p % 65536=opI zs p:=rfl
   rw [hcn,hop] at hF
   have hpi:(p:Int)<(n:Int):=by omega
   clear hav hx hcn hop
   cases hbad:badB zs p with
   | true =>
    have HE:Hid (pre=rest zs 5):=by
     have e1:=HP.out
     rw [rest_bad zs p (by rw [HL.out];exact hlt) hbad,List.append_nil] at e1
     exact e1
    have hcc:cntN zs p=0∨n<p+cntN zs p:=by
     have:=hbad
     unfold badB at this
     rw [HL.out] at this
     simpa using this
    clear hbad
    generalize cntN zs p=c at *
    generalize opI zs p=op at *
    generalize nth zs p=x at *
    rcases hcc with rfl | hcc
    ·gi_wp2_with fail
     refine⟨trivial,rfl,(callsIn_wide.2 (hF _)).mono ?_⟩
     rintro e w' ⟨rfl,rfl⟩
     gi_wp2
     refine bodyPost_ret (results_none rfl _ _ _) rfl ?_
     exact⟨⟨_,rfl⟩,.inl ⟨pre,HE.out,hJs⟩⟩
    ·by_cases hc0:c=0
     ·subst hc0
      gi_wp2_with fail
      refine⟨trivial,rfl,(callsIn_wide.2 (hF _)).mono ?_⟩
      rintro e w' ⟨rfl,rfl⟩
      gi_wp2
      refine bodyPost_ret (results_none rfl _ _ _) rfl ?_
      exact⟨⟨_,rfl⟩,.inl ⟨pre,HE.out,hJs⟩⟩
     ·have b1:((c:Int)==0)=false:=by simpa using hc0
      have b2:(n:Int) - (p:Int)<(c:Int):=by omega
      have b3:decide ((n:Int) - (p:Int)<(c:Int))=true:=decide_eq_true b2
      gi_wp2_with fail
      refine⟨trivial,rfl,(callsIn_wide.2 (hF _)).mono ?_⟩
      rintro e w' ⟨rfl,rfl⟩
      gi_wp2
      refine bodyPost_ret (results_none rfl _ _ _) rfl ?_
      exact⟨⟨_,rfl⟩,.inl ⟨pre,HE.out,hJs⟩⟩
   | false =>
    have hgo:=rest_go zs p (by rw [HL.out];exact hlt) hbad
    have HG:Hid (rest zs p=p :: rest zs (p+cntN zs p)):=hgo
    have hc0:=cnt_pos hbad
    have hcf:=cnt_fits hbad
    rw [HL.out] at hcf
    have HPX:Hid (pre++[p] <+: rest zs 5):=by
     show _ <+: _
     rw [← HP.out,hgo]
     exact⟨rest zs (p+cntN zs p),by simp⟩
    obtain⟨fn,tmps,assign,body,hy,hR⟩:=hY pre p wr hJs HPX.out
    simp only [partV] at hy
    clear hbad hgo
    generalize cntN zs p=c at *
    generalize opI zs p=op at *
    generalize nth zs p=x at *
    have b1:((c:Int)==0)=false:=by simp;omega
    have b3:decide ((n:Int) - (p:Int)<(c:Int))=false:=decide_eq_false (by omega)
    by_cases hcap:cap=p+1
    ·subst hcap
     rw [show further (some ⟨b,off,none⟩) (p+1) (p+1)=some ⟨b,off,none⟩ from if_pos rfl,Nat.sub_self] at hy
     gi_wp2_with fail
     refine⟨trivial,rfl,(callsIn_wide.2 (hF _)).mono ?_⟩
     rintro e w' ⟨rfl,rfl⟩
     gi_wp2_with fail
     refine⟨rfl,hR.mono ?_⟩
     rintro e W3 ⟨_,⟨rfl,hJ3,hk3⟩ | ⟨rfl,hJx3⟩⟩
     ·have hB3:=hk3.2 B _ _ _ hτ hBr
      have hb3:Below w0.heap.size w0 W3:=hbr.trans hk3.1
      clear hy hR hY
      gi_wp2
      go_roundw
      case rel=>exact⟨p+c,pre++[p],by go_num,by rw [List.append_assoc,List.singleton_append,← HG.out];exact HP.out,.inr hcf,hJ3,hB3,hb3⟩
      case measure=>simp [intOf];omega
     ·clear hy hR hY
      gi_wp2
      refine bodyPost_ret (results_none rfl _ _ _) rfl ?_
      exact⟨⟨_,rfl⟩,.inr ⟨_,HPX.out,hJx3⟩⟩
    ·rw [show further (some ⟨b,off,none⟩) cap (p+1)=some ⟨b,off+(p+1),none⟩ from if_neg hcap] at hy
     gi_wp2_with fail
     refine⟨trivial,rfl,(callsIn_wide.2 (hF _)).mono ?_⟩
     rintro e w' ⟨rfl,rfl⟩
     gi_wp2_with fail
     refine⟨rfl,hR.mono ?_⟩
     rintro e W3 ⟨_,⟨rfl,hJ3,hk3⟩ | ⟨rfl,hJx3⟩⟩
     ·have hB3:=hk3.2 B _ _ _ hτ hBr
      have hb3:Below w0.heap.size w0 W3:=hbr.trans hk3.1
      clear hy hR hY
      gi_wp2
      go_roundw
      case rel=>exact⟨p+c,pre++[p],by go_num,by rw [List.append_assoc,List.singleton_append,← HG.out];exact HP.out,.inr hcf,hJ3,hB3,hb3⟩
      case measure=>simp [intOf];omega
     ·clear hy hR hY
      gi_wp2
      refine bodyPost_ret (results_none rfl _ _ _) rfl ?_
      exact⟨⟨_,rfl⟩,.inr ⟨_,HPX.out,hJx3⟩⟩
  ·have HE:Hid (pre=rest zs 5):=by
    have e1:=HP.out
    rw [rest_end zs p (by rw [HL.out];omega),List.append_nil] at e1
    exact e1
   have hpi:(n:Int)≤(p:Int):=by omega
   gi_wp2
   go_end0
   exact⟨⟨_,rfl⟩,.inl ⟨pre,HE.out,hJs⟩⟩
end Go.Proofs.YtonhnflilfjkbaaGreatDoor
