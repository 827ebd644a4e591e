/-
  Texts in one: Ref04Raw, Ref04Rawtt, Ref04Rawtf, Ref04Rawft.
-/
import Derived.Test.YtonhnflilfjkbaaGreatDoorB23
namespace Go.Proofs.YtonhnflilfjkbaaGreatDoor
open Go.RowKit
set_option linter.unusedVariables false
set_option linter.unusedSimpArgs false
set_option maxRecDepth 10000
theorem Raw4.info:(Tryz.prog.info? 22).map (fun i=>(i.zero,i.size,i.bytes))=some (some (.int .u32 0),1,4):=by kernel_rfl
theorem own_low4 {w:World} {B B' e size n:Nat} {v:Value} {xs:List Value} (h:w.ownsRow B e size v n xs) (hB:B'≤B):w.ownsRow B' e size v n xs:=by
 refine⟨h.1,?_⟩
 rcases h.2 with hn | ⟨g,cap,cur,e1,e2,rest⟩
 ·exact .inl hn
 ·exact .inr ⟨g,cap,cur,e1,Nat.le_trans hB e2,rest⟩
structure RawS (w wr : World) (xo xt xr : Int) (ax : Option Addr) (n cx : Nat) (Br : Nat) (v : Value) (zs : List Int) : Prop where
  own : wr.ownsRow (Br + 1) 22 1 v zs.length (zs.map (Value.int .u32))
  box : wr.heap[Br]? = some (.cells #[.int .u16 xo, v] 54 (0, 0))
  inst : wr.heap[w.heap.size]? = some (.cells #[.int .u16 xo, .int .u32 xt, .int .u32 xr, .slice ax n cx] 38 (0, 0))
  res : wr.heap[w.heap.size + 1]? = some (.cells #[.int .u16 0, .slice none 0 0] 54 (0, 0))
  bel : Below w.heap.size w wr
  lt : w.heap.size + 2 ≤ Br
section
variable {w wr wr' w5 : World} {xo xt xr : Int} {ax : Option Addr} {n cx Br : Nat} {v v' : Value} {zs : List Int}
theorem RawS.below (h:RawS w wr xo xt xr ax n cx Br v zs) (hb:Below wr.heap.size wr wr'):RawS w wr' xo xt xr ax n cx Br v zs :=
 ⟨own_below h.own hb,(hb.block _ (Array.getElem?_eq_some_iff.1 h.box).1).trans h.box,(hb.block _ (Array.getElem?_eq_some_iff.1 h.inst).1).trans h.inst,(hb.block _ (Array.getElem?_eq_some_iff.1 h.res).1).trans h.res,h.bel.trans (hb.mono h.bel.size),h.lt⟩
theorem RawS.size (h:RawS w wr xo xt xr ax n cx Br v zs):Br<wr.heap.size:=(Array.getElem?_eq_some_iff.1 h.box).1
theorem RawS.apart (h:RawS w wr xo xt xr ax n cx Br v zs):∀ g,v.ownBlock=some g→Br+1≤g:=fun g e=>(h.own.lt g e).1
theorem RawS.push (h:RawS w wr xo xt xr ax n cx Br v zs) {y:Int} (hg:wr.grownBy w5 v.ownBlock) (hown:w5.ownsRow (Br+1) 22 1 v' (zs.length+1) ((zs++[y]).map (Value.int .u32))) :
  RawS w (w5.setCell ⟨Br,1,none⟩ v') xo xt xr ax n cx Br v' (zs++[y]):=by
 have hlo:=h.apart
 have hlt:=h.lt
 have hb:w5.heap[Br]?=some (.cells #[.int .u16 xo,v] 54 (0,0)):=(hg.block _ h.size (fun e=>by have:=hlo _ e.symm;omega)).trans h.box
 refine⟨?_,?_,?_,?_,?_,hlt⟩
 ·rw [List.length_append];exact ownsRow_setCell_below hown (by simp) _
 ·simp [World.setCell,Array.getElem?_modify,hb]
 ·exact (Below.heap_setCell _ _ _ _ (by simp;omega)).trans ((hg.block _ (Array.getElem?_eq_some_iff.1 h.inst).1 (fun e=>by have:=hlo _ e.symm;omega)).trans h.inst)
 ·exact (Below.heap_setCell _ _ _ _ (by simp;omega)).trans ((hg.block _ (Array.getElem?_eq_some_iff.1 h.res).1 (fun e=>by have:=hlo _ e.symm;omega)).trans h.res)
 ·exact (h.bel.grown hg h.bel.size (fun k e=>by have:=hlo k e;omega)).setCell (by simp;omega) _
theorem RawS.other (h:RawS w wr xo xt xr ax n cx Br v zs) (hg:wr.grownBy w5 v.ownBlock) {k:Nat} {o:Obj} (hk:wr.heap[k]?=some o) (h1:k≠Br) (h2:v.ownBlock≠some k):(w5.setCell ⟨Br,1,none⟩ v').heap[k]?=some o :=
 (Below.heap_setCell _ _ _ _ (by simpa using h1)).trans ((hg.block _ (Array.getElem?_eq_some_iff.1 hk).1 (fun e=>h2 e.symm)).trans hk)
theorem RawS.view (h:RawS w wr xo xt xr ax n cx Br v zs) (hg:wr.grownBy w5 v.ownBlock) {ay:Option Addr} {ws:List Int} (hv:View .u32 wr ay ws) (hA:∀ b off,ay=some ⟨b,off,none⟩→b≠Br∧v.ownBlock≠some b):View .u32 (w5.setCell ⟨Br,1,none⟩ v') ay ws:=by
 intro j hj
 obtain⟨b,off,e,hb,hc⟩:=hv j hj
 obtain⟨h1,h2⟩:=hA b off e
 have ho:wr.heap[b]?=some wr.heap[b]:=Array.getElem?_eq_getElem hb
 have hx:(w5.setCell ⟨Br,1,none⟩ v').heap[b]?=wr.heap[b]?:=(h.other hg ho h1 h2).trans ho.symm
 refine⟨b,off,e,?_,?_⟩
 ·have:=hg.size;simp;omega
 ·simp only [World.cell?,hx] at hc ⊢;exact hc
end
set_option maxHeartbeats 8000000 in
theorem refRaw4_tt (xo xt xr:Int) (xl:List ArgT) (b:Int) (ax:Option Addr) (n cx:Nat) (w:World) (hv:ArgsV w ax xl) (hok:InstOk (xo,xt,xr,xl)) (hl:xl.length=n) (b0:0≤b) (b1:b<4294967296)
  (nm fx rs:ByteArray) (mo pa:Int) (hf:lookF refT xo=((nm,true,true,fx,rs,mo,pa),true)) (hE:rawE (xo,xt,xr,xl) b=0) (hln:(rawL (nm,true,true,fx,rs,mo,pa) (xo,xt,xr,xl)).length≤65535)
  (hnul:∀ k,k<n→(nthA xl k).1=3→NoNul (nthA xl k).2.2) :
  Calls Tryz.prog 24 #[instV (xo,xt,xr,xl) ax n cx,.int .u32 b] w fun e w'=>Below w.heap.size w w'∧∃ a m c,e=.returned (.tuple #[.agg #[.int .u16 xo,.slice a m c],.int .i64 0])∧(rawL (nm,true,true,fx,rs,mo,pa) (xo,xt,xr,xl)).length=m ∧
   w'.ownsRow w.heap.size 22 1 (.slice a m c) m ((rawL (nm,true,true,fx,rs,mo,pa) (xo,xt,xr,xl)).map (Value.int .u32)):=by
 obtain⟨i0,hi,hz0,hz1,hz2⟩:=info_parts Raw4.info
 have HI:Hid (Tryz.prog.info? 22=some i0∧i0.zero=some (.int .u32 0)∧i0.size=1∧i0.bytes=4):=⟨hi,hz0,hz1,hz2⟩
 have hF:=fun (wx:World) (hb:Below w.heap.size w wx)=>refFault4_any (xo,xt,xr,xl) b ax n cx wx (hv.below hb) hok hl b0 b1
 rw [hE] at hF
 have hOf:=fun wx=>refOf_any xo wx
 have eV:ofV xo=formV xo (nm,true,true,fx,rs,mo,pa):=by unfold ofV;rw [hf];rfl
 rw [eV,hf] at hOf
 unfold formV at hOf
 unfold instV at hF ⊢
 simp only at hF hOf ⊢
 obtain⟨q0,q1,q2,q3,q4,q5,q6,q7⟩:=hok
 simp only at q0 q1 q2 q3 q4 q5 q6 q7
 rw [hl] at q7
 have HV:=hide hv
 have HL:=hide hl
 have HQ6:=hide q6
 have HNUL:=hide hnul
 have HN:Hid (24 * n≤140737488351232):=q7
 have HLN:=hide hln
 have HTAKE:Hid (∀ k,k<n→wordsL (xl.take (k+1))=wordsL (xl.take k)++wordsA (nthA xl k)):=fun k hk=>wordsL_take xl k (by omega)
 have HLE:Hid (∀ k,(wordsL (xl.take k)).length≤(wordsL xl).length):=words_le xl
 have HALL:Hid (wordsL (xl.take n)=wordsL xl):=by show _=_;rw [List.take_of_length_le (by omega)]
 clear hv hl hE hf eV q0 q1 q2 q3 q4 q5 q6 q7 hnul hln
 have hbel0:Below w.heap.size w ((w.alloc (.cells #[.int .u16 xo,.int .u32 xt,.int .u32 xr,.slice ax n cx] 38)).alloc (.cells #[.int .u16 0,.slice none 0 0] 54)):=((Below.refl _ w).alloc (Nat.le_refl _) _).alloc (by simp) _
 have kI:((w.alloc (.cells #[.int .u16 xo,.int .u32 xt,.int .u32 xr,.slice ax n cx] 38)).alloc (.cells #[.int .u16 0,.slice none 0 0] 54)).heap[w.heap.size]?=some (.cells #[.int .u16 xo,.int .u32 xt,.int .u32 xr,.slice ax n cx] 38 (0,0)):=(Below.heap_alloc _ _ _ (by simp)).trans (alloc_new w _ _)
 have kR:((w.alloc (.cells #[.int .u16 xo,.int .u32 xt,.int .u32 xr,.slice ax n cx] 38)).alloc (.cells #[.int .u16 0,.slice none 0 0] 54)).heap[w.heap.size+1]?=some (.cells #[.int .u16 0,.slice none 0 0] 54 (0,0)):=by simpa using alloc_new (w.alloc (.cells #[.int .u16 xo,.int .u32 xt,.int .u32 xr,.slice ax n cx] 38)) #[.int .u16 0,.slice none 0 0] 54
 go_enter Tryz.func24,Tryz.ntmps24
 go_wp2_with fail
 generalize (w.alloc (.cells #[.int .u16 xo,.int .u32 xt,.int .u32 xr,.slice ax n cx] 38)).alloc (.cells #[.int .u16 0,.slice none 0 0] 54)=W0 at *
 refine (hF _ hbel0).mono ?_
 rintro e w1 ⟨rfl,hb1⟩
 have sR:=(Array.getElem?_eq_some_iff.1 kR).1
 have kI1:=(hb1.block _ (by omega)).trans kI
 have kR1:=(hb1.block _ sR).trans kR
 have hbel1:=hbel0.trans (hb1.mono (by omega))
 have i0':=(one_block kI1).1 0
 clear hF hb1 kI kR hbel0 hi hz0 hz1 hz2
 have s1:=(Array.getElem?_eq_some_iff.1 kR1).1
 go_wp2_with fail
 refine (hOf _).mono ?_
 rintro e w2 ⟨rfl,hb2⟩
 have s2:=hb2.size
 have kI2:=(hb2.block _ (by omega)).trans kI1
 have kR2:=(hb2.block _ s1).trans kR1
 have hbel2:=hbel1.trans (hb2.mono (by omega))
 have s3:w.heap.size<w2.heap.size:=by omega
 have j0:=(one_block kI2).1 0
 have j1:=(one_block kI2).1 1
 have j2:=(one_block kI2).1 2
 clear hOf hb2 kI1 kR1 hbel1 i0'
 have hbA:Below w2.heap.size w2 ((w2.alloc (.cells #[.int .u16 xo,.string nm,.bool true,.bool true,.string fx,.string rs,.int .i64 mo,.int .u8 pa] 66)).alloc (.cells #[.int .u16 xo,.slice none 0 0] 54)):=((Below.refl _ w2).alloc (Nat.le_refl _) _).alloc (by simp) _
 have hS0:RawS w ((w2.alloc (.cells #[.int .u16 xo,.string nm,.bool true,.bool true,.string fx,.string rs,.int .i64 mo,.int .u8 pa] 66)).alloc (.cells #[.int .u16 xo,.slice none 0 0] 54)) xo xt xr ax n cx (w2.heap.size+1) (.slice none 0 0) [] :=
  ⟨World.ownsRow_nil _ _ _ _,by simpa using alloc_new (w2.alloc (.cells #[.int .u16 xo,.string nm,.bool true,.bool true,.string fx,.string rs,.int .i64 mo,.int .u8 pa] 66)) #[.int .u16 xo,.slice none 0 0] 54,(hbA.block _ (by omega)).trans kI2,(hbA.block _ (by omega)).trans kR2,hbel2.trans (hbA.mono (by omega)),by omega⟩
 have kF:((w2.alloc (.cells #[.int .u16 xo,.string nm,.bool true,.bool true,.string fx,.string rs,.int .i64 mo,.int .u8 pa] 66)).alloc (.cells #[.int .u16 xo,.slice none 0 0] 54)).heap[w2.heap.size]?=some (.cells #[.int .u16 xo,.string nm,.bool true,.bool true,.string fx,.string rs,.int .i64 mo,.int .u8 pa] 66 (0,0)):=(Below.heap_alloc _ _ _ (by simp)).trans (alloc_new w2 _ _)
 clear kI2 kR2 hbel2 hbA
 have N1:Hid ((((w2.alloc (.cells #[.int .u16 xo,.string nm,.bool true,.bool true,.string fx,.string rs,.int .i64 mo,.int .u8 pa] 66)).alloc (.cells #[.int .u16 xo,.slice none 0 0] 54)).alloc (.cells #[.int .u32 xt] 22)).ownsRow (w2.heap.size+2) 22 1 (.slice none 0 0) 0 []):=World.ownsRow_nil _ _ _ _
 have N2:Hid (∀ (j:Nat) (u:Value),[Value.int .u32 xt][j]?=some u→(((w2.alloc (.cells #[.int .u16 xo,.string nm,.bool true,.bool true,.string fx,.string rs,.int .i64 mo,.int .u8 pa] 66)).alloc (.cells #[.int .u16 xo,.slice none 0 0] 54)).alloc (.cells #[.int .u32 xt] 22)).cell? ((⟨w2.heap.size+1+1,0,none⟩:Addr).add j)=some u):=World.news_of_block (cs:=#[.int .u32 xt]) (t:=22) (fr:=(0,0)) (by simpa using alloc_new ((w2.alloc (.cells #[.int .u16 xo,.string nm,.bool true,.bool true,.string fx,.string rs,.int .i64 mo,.int .u8 pa] 66)).alloc (.cells #[.int .u16 xo,.slice none 0 0] 54)) #[.int .u32 xt] 22)
 have N3:Hid (∀ u:Value,u∈[Value.int .u32 xt]→u.oneCell'=true):=by intro u hu;simp at hu;subst hu;rfl
 have N6:Hid (w2.heap.size+2≤(((w2.alloc (.cells #[.int .u16 xo,.string nm,.bool true,.bool true,.string fx,.string rs,.int .i64 mo,.int .u8 pa] 66)).alloc (.cells #[.int .u16 xo,.slice none 0 0] 54)).alloc (.cells #[.int .u32 xt] 22)).heap.size):=by show _≤_;simp
 have HS1:=hide (hS0.below ((Below.refl _ _).alloc (Nat.le_refl _) (.cells #[.int .u32 xt] 22)))
 have HKF:=hide kF
 clear hS0 kF
 go_wp2_with (at_builtin;refine wpList_append_own _ rfl (.tmp 33) (.tmp 36) 52 rfl (w2.heap.size+2) 22 i0 (.int .u32 0) 1 4 Tryz.underlying52 HI.out.1 HI.out.2.1 HI.out.2.2.1 HI.out.2.2.2 rfl (by decide) _ 0 [] rfl N1.out ⟨w2.heap.size+1+1,0,none⟩ 1 1 [.int .u32 xt] rfl rfl N2.out N3.out (by unfold maxLen;omega) (by omega) N6.out ?_)
 intro v5 w5 hown5 hgr5 _
 obtain⟨a5,c5,rfl⟩:=own_shape hown5
 have kb5:w5.heap[w2.heap.size+1]?=some (.cells #[.int .u16 xo,.slice none 0 0] 54 (0,0)):=(hgr5.block _ HS1.out.size (by simp [Value.ownBlock])).trans HS1.out.box
 have HS2:=hide (HS1.out.push (y:=xt) hgr5 (by simpa using hown5))
 simp only [List.nil_append] at HS2
 obtain⟨m0,m1⟩:=one_block kb5
 have m0':=m0 0
 have m1':=m0 1
 have kF5:w5.heap[w2.heap.size]?=some (.cells #[.int .u16 xo,.string nm,.bool true,.bool true,.string fx,.string rs,.int .i64 mo,.int .u8 pa] 66 (0,0)):=(hgr5.block _ (by simp;omega) (by simp [Value.ownBlock])).trans ((Below.heap_alloc _ _ _ (by simp;omega)).trans HKF.out)
 have kI5:w5.heap[w.heap.size]?=some (.cells #[.int .u16 xo,.int .u32 xt,.int .u32 xr,.slice ax n cx] 38 (0,0)):=(hgr5.block _ (by simp;omega) (by simp [Value.ownBlock])).trans HS1.out.inst
 have f5:=(one_block kF5).1 3
 have j5:=(one_block kI5).1 2
 have s5:w2.heap.size+1<w5.heap.size:=(Array.getElem?_eq_some_iff.1 kb5).1
 have N1:Hid (((w5.setCell ⟨w2.heap.size+1,1,none⟩ (.slice a5 1 c5)).alloc (.cells #[.int .u32 xr] 22)).ownsRow (w2.heap.size+2) 22 1 (.slice a5 1 c5) 1 [.int .u32 xt]):=own_below HS2.out.own ((Below.refl _ _).alloc (Nat.le_refl _) _)
 have N2:Hid (∀ (j:Nat) (u:Value),[Value.int .u32 xr][j]?=some u→((w5.setCell ⟨w2.heap.size+1,1,none⟩ (.slice a5 1 c5)).alloc (.cells #[.int .u32 xr] 22)).cell? ((⟨w5.heap.size,0,none⟩:Addr).add j)=some u):=World.news_of_block (cs:=#[.int .u32 xr]) (t:=22) (fr:=(0,0)) (by simpa using alloc_new (w5.setCell ⟨w2.heap.size+1,1,none⟩ (.slice a5 1 c5)) #[.int .u32 xr] 22)
 have N3:Hid (∀ u:Value,u∈[Value.int .u32 xr]→u.oneCell'=true):=by intro u hu;simp at hu;subst hu;rfl
 have N6:Hid (w2.heap.size+2≤((w5.setCell ⟨w2.heap.size+1,1,none⟩ (.slice a5 1 c5)).alloc (.cells #[.int .u32 xr] 22)).heap.size):=by show _≤_;simp;omega
 have HS3:=hide (HS2.out.below ((Below.refl _ _).alloc (Nat.le_refl _) (.cells #[.int .u32 xr] 22)))
 clear HS1 HS2 hown5 hgr5 kb5 m0 HKF kI5 kF5
 go_wp2_with (at_builtin;refine wpList_append_own _ rfl (.tmp 42) (.tmp 45) 52 rfl (w2.heap.size+2) 22 i0 (.int .u32 0) 1 4 Tryz.underlying52 HI.out.1 HI.out.2.1 HI.out.2.2.1 HI.out.2.2.2 rfl (by decide) _ 1 [.int .u32 xt] rfl N1.out ⟨w5.heap.size,0,none⟩ 1 1 [.int .u32 xr] rfl rfl N2.out N3.out (by unfold maxLen;omega) (by omega) N6.out ?_)
 intro v6 w6 hown6 hgr6 _
 obtain⟨a6,c6,rfl⟩:=own_shape hown6
 have kb6:=(hgr6.block _ HS3.out.size (fun e=>by have:=HS3.out.apart _ e.symm;omega)).trans HS3.out.box
 have HT:=hide (HS3.out.push (y:=xr) hgr6 (by simpa using hown6))
 simp only [List.cons_append,List.nil_append] at HT
 obtain⟨m0,m2⟩:=one_block kb6
 have m3:=m0 1
 clear HS3 hown6 hgr6 kb6 N1 N2 N3 N6 m0 m0' m1' m1 f5 j5
 have HZS:Hid ((rawL (nm,true,true,fx,rs,mo,pa) (xo,xt,xr,xl))=[xt,xr]++wordsL xl):=rfl
 generalize hB:w2.heap.size+1=B at *
 clear hB
 go_wp2_with fail
 generalize World.setCell _ _ _=WT at *
 clear m2 m3
 go_loopw [10] (fun i wr=>∃ (k:Nat) (v:Value),k≤n∧i=.int .i64 k∧RawS w wr xo xt xr ax n cx B v ([xt,xr]++wordsL (xl.take k))) (fun i _=>n - (intOf i).toNat)
 case atStart=>exact⟨0,_,Nat.zero_le _,rfl,by simpa [wordsL] using HT.out⟩
 case round =>
  obtain⟨k,v,hk,rfl,hS⟩:=hrel
  clear HT
  have hA:=HV.out.below hS.bel
  obtain⟨a7,c7,rfl⟩:=own_shape hS.own
  have i3:=(one_block hS.inst).1 3
  have r1:=(one_block hS.box).1 1
  have sB:=hS.size
  have slt:=hS.lt
  have hap:=hS.apart
  have HAP:=hide hap
  have hnb:(n:Int)≤140737488351232:=by have:=HN.out;omega
  by_cases hlt:k<n
  ·obtain⟨g1,o1,rfl,hg1,p1,p2,p3⟩:=hA k (by rw [HL.out];exact hlt)
   have hki:(k:Int)<(n:Int):=by omega
   have hk0:(0:Int)≤(k:Int):=by omega
   have hTk:=HTAKE.out k hlt
   have hle:=HLE.out (k+1)
   rw [hTk] at hle
   have hLN:([xt,xr]++wordsL xl).length≤65535:=by rw [← HZS.out];exact HLN.out
   obtain⟨_,_,_,_,hsz⟩:=HQ6.out k (by rw [HL.out];exact hlt)
   have hNU:=HNUL.out k hlt
   have HTK:=hide hTk
   have hzl:(([xt,xr]:List Int)++wordsL (xl.take k)).length+(wordsA (nthA xl k)).length≤65535:=by
    simp only [List.length_append] at hle hLN ⊢;omega
   have HZL:=hide hzl
   clear hTk hle hLN hzl hA hap
   generalize hzs:([xt,xr]:List Int)++wordsL (xl.take k)=zs at *
   have HNX:Hid (([xt,xr]:List Int)++wordsL (xl.take (k+1))=zs++wordsA (nthA xl k)):=by show _=_;rw [HTK.out,← List.append_assoc,hzs]
   clear hzs HTK
   generalize nthA xl k=z at *
   obtain⟨z1,z2,z3⟩:=z
   simp only at *
   by_cases h3:z1=3
   ·subst h3
    have eW:wordsA (3,z2,z3)=textW z3:=by simp [wordsA]
    rw [eW] at HNX HZL
    clear eW
    have hT:=fun wx=>refOfText_new z3 wx (hNU rfl) (by have:=HZL.out;rw [textW_len] at this;omega)
    have HS:=hide hS
    clear hS
    go_wp2_with fail
    refine (hT _).mono ?_
    rintro e w8 ⟨ay,m,rfl,hm,hvw,hnew,hb8⟩
    have hS8:=HS.out.below hb8
    have s8:=hb8.size
    have hap8:∀ b off s,ay=some ⟨b,off,s⟩→wr.heap.size≤b:=hnew
    have hap9:=HAP.out
    have HW0:Hid (∀ b off,ay=some ⟨b,off,none⟩→b≠B∧Value.ownBlock (.slice a7 zs.length c7)≠some b):=fun b off e=>by
     have h1:=hap8 b off none e
     refine⟨by omega,fun e2=>?_⟩
     have:=HS.out.own.lt b e2
     omega
    have HS8:=hide hS8
    have HV8:=hide hvw
    have hmm:zs.length+m≤65535:=by rw [← hm];exact HZL.out
    have HM:=hide hm
    have HMM:=hide hmm
    have hmi:(m:Int)≤65535:=by omega
    clear hT hb8 hS8 hnew hvw HS hm hmm i3 r1 hap8 hap9 p1 p2 p3 HZL
    go_wp2_with fail
    go_loopw [13] (fun i wx=>∃ (t:Nat) (v:Value),t≤m∧i=.int .i64 t∧RawS w wx xo xt xr (some ⟨g1,o1,none⟩) n cx B v (zs++(textW z3).take t)∧View .u32 wx ay (textW z3)∧Hid (∀ b off,ay=some ⟨b,off,none⟩→b≠B∧v.ownBlock≠some b)) (fun i _=>m - (intOf i).toNat)
    case atStart=>exact⟨0,_,Nat.zero_le _,rfl,by simpa using HS8.out,HV8.out,HW0⟩
    case round =>
     obtain⟨t,v9,ht,rfl,hS,hvw,HAY⟩:=hrel
     clear HS8 HV8 HW0
     obtain⟨a9,c9,rfl⟩:=own_shape hS.own
     have r1:=(one_block hS.box).1 1
     have sB9:=hS.size
     have hap9:=hS.apart
     by_cases htl:t<m
     ·have hti:(t:Int)<(m:Int):=by omega
      have ht0:(0:Int)≤(t:Int):=by omega
      have htw:t<(textW z3).length:=by rw [HM.out];exact htl
      obtain⟨g5,o5,rfl,hg5,c5⟩:=hvw t htw
      have HAY2:=HAY.out g5 o5 rfl
      have hzt:(zs++(textW z3).take t).length=zs.length+t:=by simp;omega
      have HNX2:Hid (zs++(textW z3).take (t+1)=(zs++(textW z3).take t)++[nth (textW z3) t]):=by
       show _=_
       rw [List.take_succ_eq_append_getElem htw,← List.append_assoc]
       simp [nth,List.getD,htw]
      have hmm:=HMM.out
      generalize nth (textW z3) t=y at c5 HNX2
      generalize hzs2:zs++(textW z3).take t=zt at *
      have HVW:=hide hvw
      have hown:=hS.own
      have HSx:=hide hS
      have HAP9:=hide hap9
      have HZT:=hide hzt
      have hzb:zt.length+1≤65535:=by rw [hzt];omega
      obtain⟨hi,hz0,hz1,hz2⟩:=HI.out
      clear hS hvw hzs2 hzt hap9 htw hmm
      go_wp2
      go_region_law ((refine step_append_lies _ (by rfl) _ _ _ (by rfl) (B+1) 22 i0 (.int .u32 0) 1 4 Tryz.underlying52 hi hz0 hz1 hz2 rfl (by omega) (.slice a9 zt.length c9) zt.length _ (by rfl) ((hown.alloc _).drew) ⟨wr.heap.size,0,none⟩ 1 1 [.int .u32 y] (by rfl) (by rfl) (World.news_of_block (cs:=#[.int .u32 y]) (t:=22) (fr:=(0,0)) (heap_alloc_new wr _)) (by simp [Value.oneCell']) (by omega) (by unfold maxLen;omega) (by omega) (by simp;omega) (wr.heap.size+1) (by simp) ?_;intro g3 cap3 w3 hown3 hgrow3 hat3 hlt3;have kb3:=(hgrow3.block B (by simp;omega) (fun e=>by have:=HAP9.out _ e.symm;omega)).trans ((Below.heap_alloc wr _ _ sB9).trans HSx.out.box);obtain⟨m0,m2⟩:=one_block kb3;have m3:=m0 1;have m4:=m2 1))
      all_goals
       have hSd:=HSx.out.below (((Below.refl _ wr).alloc (Nat.le_refl _) (.cells #[.int .u32 y] 22)).drew)
       have hVd:=HVW.out.below (((Below.refl _ wr).alloc (Nat.le_refl _) (.cells #[.int .u32 y] 22)).drew)
       have HP:=hide (hSd.push (y:=y) hgrow3 (by simpa using hown3))
       have HQ:=hide (hSd.view (v':=.slice (some ⟨g3,0,none⟩) (zt.length+1) cap3) hgrow3 hVd (fun b off e=>by cases e;exact HAY2))
       have HR:Hid (∀ b off,some (⟨g5,o5,none⟩:Addr)=some ⟨b,off,none⟩→b≠B∧Value.ownBlock (.slice (some ⟨g3,0,none⟩) (zt.length+1) cap3)≠some b):=fun b off e=>by
        cases e
        refine⟨HAY2.1,fun e2=>?_⟩
        simp [Value.ownBlock] at e2
        rcases hat3 with h9 | h9
        ·rw [e2] at h9;exact HAY2.2 h9
        ·omega
       clear hSd hVd hown hown3 hgrow3 hat3 hlt3 kb3 m0 m2 m3 m4 HSx HVW r1 c5
       go_wp2_with fail
       go_roundw
       case rel=>exact⟨t+1,_,by omega,by go_num,by rw [HNX2.out];exact HP.out,HQ.out,HR⟩
       case measure=>simp [intOf];omega
     ·obtain rfl:t=m:=by omega
      have e1:(textW z3).take t=textW z3:=List.take_of_length_le (by rw [HM.out];exact Nat.le_refl _)
      rw [e1] at hS
      have HSx:=hide hS
      clear hS hvw e1 r1 hap9
      go_wp2_with fail
      go_roundw
      case rel=>exact⟨k+1,_,by omega,by go_num,by rw [HNX.out];exact HSx.out⟩
      case measure=>simp [intOf];omega
   ·have h3':(z1 != 3)=true:=by simp [h3]
    have eW:wordsA (z1,z2,z3)=[z2]:=by simp [wordsA,h3]
    rw [eW] at HNX HZL
    have hzb:zs.length+1≤65535:=HZL.out
    have hown:=hS.own
    have HSx:=hide hS
    obtain⟨hi,hz0,hz1,hz2⟩:=HI.out
    clear hS eW HZL hNU h3
    go_wp2
    go_region_law ((refine step_append_lies _ (by rfl) _ _ _ (by rfl) (B+1) 22 i0 (.int .u32 0) 1 4 Tryz.underlying52 hi hz0 hz1 hz2 rfl (by omega) (.slice a7 zs.length c7) zs.length _ (by rfl) ((hown.alloc _).drew) ⟨wr.heap.size,0,none⟩ 1 1 [.int .u32 z2] (by rfl) (by rfl) (World.news_of_block (cs:=#[.int .u32 z2]) (t:=22) (fr:=(0,0)) (heap_alloc_new wr _)) (by simp [Value.oneCell']) (by omega) (by unfold maxLen;omega) (by omega) (by simp;omega) (wr.heap.size+1) (by simp) ?_;intro g3 cap3 w3 hown3 hgrow3 hat3 hlt3;have kb3:=(hgrow3.block B (by simp;omega) (fun e=>by have:=HAP.out _ e.symm;omega)).trans ((Below.heap_alloc wr _ _ sB).trans HSx.out.box);obtain⟨m0,m2⟩:=one_block kb3;have m3:=m0 1;have m4:=m2 1))
    all_goals
     have hSd:=HSx.out.below (((Below.refl _ wr).alloc (Nat.le_refl _) (.cells #[.int .u32 z2] 22)).drew)
     have HP:=hide (hSd.push (y:=z2) hgrow3 (by simpa using hown3))
     clear hSd hown hown3 hgrow3 hat3 hlt3 kb3 m0 m2 m3 m4 HSx r1 i3 p1 p2 p3
     go_wp2_with fail
     go_roundw
     case rel=>exact⟨k+1,_,by omega,by go_num,by rw [HNX.out];exact HP.out⟩
     case measure=>simp [intOf];omega
  ·obtain rfl:k=n:=by omega
   rw [HALL.out,← HZS.out] at hS
   clear r1 HAP HZS HLN HALL HLE HTAKE
   generalize hRL:rawL (nm,true,true,fx,rs,mo,pa) (xo,xt,xr,xl)=RL at *
   have HRL:=hide hRL
   clear hRL
   have b0:=(one_block hS.box).1 0
   have b1':=(one_block hS.box).1 1
   have hres:=hS.res
   have rf:=(one_block hres).2
   have rf0:=rf 0
   have rf1:=rf 1
   have q0:=(one_block hres).1 0
   have q1:=(one_block hres).1 1
   have sres:=(Array.getElem?_eq_some_iff.1 hres).1
   have HB3:=hide (two_put2 hres (.int .u16 xo) (.slice a7 RL.length c7))
   have HBel:=hide ((hS.bel.setCell (p:=⟨w.heap.size+1,0,none⟩) (by simp) (.int .u16 xo)).setCell (p:=⟨w.heap.size+1,1,none⟩) (by simp) (.slice a7 RL.length c7))
   have HOw:=hide (ownsRow_setCell_below (ownsRow_setCell_below hS.own (a:=⟨w.heap.size+1,0,none⟩) (by simp;omega) (.int .u16 xo)) (a:=⟨w.heap.size+1,1,none⟩) (by simp;omega) (.slice a7 RL.length c7))
   clear hS hA hres rf
   go_wp2_with fail
   generalize (wr.setCell _ _).setCell _ _=W9 at *
   obtain⟨hd,_⟩:=one_block HB3.out
   have d0:=hd 0
   have d1:=hd 1
   refine bodyPost_ret (v:=.tuple #[.agg #[.int .u16 xo,.slice a7 RL.length c7],.int .i64 0]) ?_ rfl ⟨HBel.out,a7,_,c7,rfl,by rw [HRL.out],by rw [HRL.out];exact own_low4 HOw.out (by omega)⟩
   simp [results,Tryz.results24,go_sem,d0,d1]
set_option maxHeartbeats 8000000 in
theorem refRaw4_tf (xo xt xr:Int) (xl:List ArgT) (b:Int) (ax:Option Addr) (n cx:Nat) (w:World) (hv:ArgsV w ax xl) (hok:InstOk (xo,xt,xr,xl)) (hl:xl.length=n) (b0:0≤b) (b1:b<4294967296)
  (nm fx rs:ByteArray) (mo pa:Int) (hf:lookF refT xo=((nm,true,false,fx,rs,mo,pa),true)) (hE:rawE (xo,xt,xr,xl) b=0) (hln:(rawL (nm,true,false,fx,rs,mo,pa) (xo,xt,xr,xl)).length≤65535)
  (hnul:∀ k,k<n→(nthA xl k).1=3→NoNul (nthA xl k).2.2) :
  Calls Tryz.prog 24 #[instV (xo,xt,xr,xl) ax n cx,.int .u32 b] w fun e w'=>Below w.heap.size w w'∧∃ a m c,e=.returned (.tuple #[.agg #[.int .u16 xo,.slice a m c],.int .i64 0])∧(rawL (nm,true,false,fx,rs,mo,pa) (xo,xt,xr,xl)).length=m ∧
   w'.ownsRow w.heap.size 22 1 (.slice a m c) m ((rawL (nm,true,false,fx,rs,mo,pa) (xo,xt,xr,xl)).map (Value.int .u32)):=by
 obtain⟨i0,hi,hz0,hz1,hz2⟩:=info_parts Raw4.info
 have HI:Hid (Tryz.prog.info? 22=some i0∧i0.zero=some (.int .u32 0)∧i0.size=1∧i0.bytes=4):=⟨hi,hz0,hz1,hz2⟩
 have hF:=fun (wx:World) (hb:Below w.heap.size w wx)=>refFault4_any (xo,xt,xr,xl) b ax n cx wx (hv.below hb) hok hl b0 b1
 rw [hE] at hF
 have hOf:=fun wx=>refOf_any xo wx
 have eV:ofV xo=formV xo (nm,true,false,fx,rs,mo,pa):=by unfold ofV;rw [hf];rfl
 rw [eV,hf] at hOf
 unfold formV at hOf
 unfold instV at hF ⊢
 simp only at hF hOf ⊢
 obtain⟨q0,q1,q2,q3,q4,q5,q6,q7⟩:=hok
 simp only at q0 q1 q2 q3 q4 q5 q6 q7
 rw [hl] at q7
 have HV:=hide hv
 have HL:=hide hl
 have HQ6:=hide q6
 have HNUL:=hide hnul
 have HN:Hid (24 * n≤140737488351232):=q7
 have HLN:=hide hln
 have HTAKE:Hid (∀ k,k<n→wordsL (xl.take (k+1))=wordsL (xl.take k)++wordsA (nthA xl k)):=fun k hk=>wordsL_take xl k (by omega)
 have HLE:Hid (∀ k,(wordsL (xl.take k)).length≤(wordsL xl).length):=words_le xl
 have HALL:Hid (wordsL (xl.take n)=wordsL xl):=by show _=_;rw [List.take_of_length_le (by omega)]
 clear hv hl hE hf eV q0 q1 q2 q3 q4 q5 q6 q7 hnul hln
 have hbel0:Below w.heap.size w ((w.alloc (.cells #[.int .u16 xo,.int .u32 xt,.int .u32 xr,.slice ax n cx] 38)).alloc (.cells #[.int .u16 0,.slice none 0 0] 54)):=((Below.refl _ w).alloc (Nat.le_refl _) _).alloc (by simp) _
 have kI:((w.alloc (.cells #[.int .u16 xo,.int .u32 xt,.int .u32 xr,.slice ax n cx] 38)).alloc (.cells #[.int .u16 0,.slice none 0 0] 54)).heap[w.heap.size]?=some (.cells #[.int .u16 xo,.int .u32 xt,.int .u32 xr,.slice ax n cx] 38 (0,0)):=(Below.heap_alloc _ _ _ (by simp)).trans (alloc_new w _ _)
 have kR:((w.alloc (.cells #[.int .u16 xo,.int .u32 xt,.int .u32 xr,.slice ax n cx] 38)).alloc (.cells #[.int .u16 0,.slice none 0 0] 54)).heap[w.heap.size+1]?=some (.cells #[.int .u16 0,.slice none 0 0] 54 (0,0)):=by simpa using alloc_new (w.alloc (.cells #[.int .u16 xo,.int .u32 xt,.int .u32 xr,.slice ax n cx] 38)) #[.int .u16 0,.slice none 0 0] 54
 go_enter Tryz.func24,Tryz.ntmps24
 go_wp2_with fail
 generalize (w.alloc (.cells #[.int .u16 xo,.int .u32 xt,.int .u32 xr,.slice ax n cx] 38)).alloc (.cells #[.int .u16 0,.slice none 0 0] 54)=W0 at *
 refine (hF _ hbel0).mono ?_
 rintro e w1 ⟨rfl,hb1⟩
 have sR:=(Array.getElem?_eq_some_iff.1 kR).1
 have kI1:=(hb1.block _ (by omega)).trans kI
 have kR1:=(hb1.block _ sR).trans kR
 have hbel1:=hbel0.trans (hb1.mono (by omega))
 have i0':=(one_block kI1).1 0
 clear hF hb1 kI kR hbel0 hi hz0 hz1 hz2
 have s1:=(Array.getElem?_eq_some_iff.1 kR1).1
 go_wp2_with fail
 refine (hOf _).mono ?_
 rintro e w2 ⟨rfl,hb2⟩
 have s2:=hb2.size
 have kI2:=(hb2.block _ (by omega)).trans kI1
 have kR2:=(hb2.block _ s1).trans kR1
 have hbel2:=hbel1.trans (hb2.mono (by omega))
 have s3:w.heap.size<w2.heap.size:=by omega
 have j0:=(one_block kI2).1 0
 have j1:=(one_block kI2).1 1
 have j2:=(one_block kI2).1 2
 clear hOf hb2 kI1 kR1 hbel1 i0'
 have hbA:Below w2.heap.size w2 ((w2.alloc (.cells #[.int .u16 xo,.string nm,.bool true,.bool false,.string fx,.string rs,.int .i64 mo,.int .u8 pa] 66)).alloc (.cells #[.int .u16 xo,.slice none 0 0] 54)):=((Below.refl _ w2).alloc (Nat.le_refl _) _).alloc (by simp) _
 have hS0:RawS w ((w2.alloc (.cells #[.int .u16 xo,.string nm,.bool true,.bool false,.string fx,.string rs,.int .i64 mo,.int .u8 pa] 66)).alloc (.cells #[.int .u16 xo,.slice none 0 0] 54)) xo xt xr ax n cx (w2.heap.size+1) (.slice none 0 0) [] :=
  ⟨World.ownsRow_nil _ _ _ _,by simpa using alloc_new (w2.alloc (.cells #[.int .u16 xo,.string nm,.bool true,.bool false,.string fx,.string rs,.int .i64 mo,.int .u8 pa] 66)) #[.int .u16 xo,.slice none 0 0] 54,(hbA.block _ (by omega)).trans kI2,(hbA.block _ (by omega)).trans kR2,hbel2.trans (hbA.mono (by omega)),by omega⟩
 have kF:((w2.alloc (.cells #[.int .u16 xo,.string nm,.bool true,.bool false,.string fx,.string rs,.int .i64 mo,.int .u8 pa] 66)).alloc (.cells #[.int .u16 xo,.slice none 0 0] 54)).heap[w2.heap.size]?=some (.cells #[.int .u16 xo,.string nm,.bool true,.bool false,.string fx,.string rs,.int .i64 mo,.int .u8 pa] 66 (0,0)):=(Below.heap_alloc _ _ _ (by simp)).trans (alloc_new w2 _ _)
 clear kI2 kR2 hbel2 hbA
 have N1:Hid ((((w2.alloc (.cells #[.int .u16 xo,.string nm,.bool true,.bool false,.string fx,.string rs,.int .i64 mo,.int .u8 pa] 66)).alloc (.cells #[.int .u16 xo,.slice none 0 0] 54)).alloc (.cells #[.int .u32 xt] 22)).ownsRow (w2.heap.size+2) 22 1 (.slice none 0 0) 0 []):=World.ownsRow_nil _ _ _ _
 have N2:Hid (∀ (j:Nat) (u:Value),[Value.int .u32 xt][j]?=some u→(((w2.alloc (.cells #[.int .u16 xo,.string nm,.bool true,.bool false,.string fx,.string rs,.int .i64 mo,.int .u8 pa] 66)).alloc (.cells #[.int .u16 xo,.slice none 0 0] 54)).alloc (.cells #[.int .u32 xt] 22)).cell? ((⟨w2.heap.size+1+1,0,none⟩:Addr).add j)=some u):=World.news_of_block (cs:=#[.int .u32 xt]) (t:=22) (fr:=(0,0)) (by simpa using alloc_new ((w2.alloc (.cells #[.int .u16 xo,.string nm,.bool true,.bool false,.string fx,.string rs,.int .i64 mo,.int .u8 pa] 66)).alloc (.cells #[.int .u16 xo,.slice none 0 0] 54)) #[.int .u32 xt] 22)
 have N3:Hid (∀ u:Value,u∈[Value.int .u32 xt]→u.oneCell'=true):=by intro u hu;simp at hu;subst hu;rfl
 have N6:Hid (w2.heap.size+2≤(((w2.alloc (.cells #[.int .u16 xo,.string nm,.bool true,.bool false,.string fx,.string rs,.int .i64 mo,.int .u8 pa] 66)).alloc (.cells #[.int .u16 xo,.slice none 0 0] 54)).alloc (.cells #[.int .u32 xt] 22)).heap.size):=by show _≤_;simp
 have HS1:=hide (hS0.below ((Below.refl _ _).alloc (Nat.le_refl _) (.cells #[.int .u32 xt] 22)))
 have HKF:=hide kF
 clear hS0 kF
 go_wp2_with (at_builtin;refine wpList_append_own _ rfl (.tmp 33) (.tmp 36) 52 rfl (w2.heap.size+2) 22 i0 (.int .u32 0) 1 4 Tryz.underlying52 HI.out.1 HI.out.2.1 HI.out.2.2.1 HI.out.2.2.2 rfl (by decide) _ 0 [] rfl N1.out ⟨w2.heap.size+1+1,0,none⟩ 1 1 [.int .u32 xt] rfl rfl N2.out N3.out (by unfold maxLen;omega) (by omega) N6.out ?_)
 intro v5 w5 hown5 hgr5 _
 obtain⟨a5,c5,rfl⟩:=own_shape hown5
 have kb5:w5.heap[w2.heap.size+1]?=some (.cells #[.int .u16 xo,.slice none 0 0] 54 (0,0)):=(hgr5.block _ HS1.out.size (by simp [Value.ownBlock])).trans HS1.out.box
 have HS2:=hide (HS1.out.push (y:=xt) hgr5 (by simpa using hown5))
 simp only [List.nil_append] at HS2
 obtain⟨m0,m1⟩:=one_block kb5
 have m0':=m0 0
 have m1':=m0 1
 have kF5:w5.heap[w2.heap.size]?=some (.cells #[.int .u16 xo,.string nm,.bool true,.bool false,.string fx,.string rs,.int .i64 mo,.int .u8 pa] 66 (0,0)):=(hgr5.block _ (by simp;omega) (by simp [Value.ownBlock])).trans ((Below.heap_alloc _ _ _ (by simp;omega)).trans HKF.out)
 have kI5:w5.heap[w.heap.size]?=some (.cells #[.int .u16 xo,.int .u32 xt,.int .u32 xr,.slice ax n cx] 38 (0,0)):=(hgr5.block _ (by simp;omega) (by simp [Value.ownBlock])).trans HS1.out.inst
 have f5:=(one_block kF5).1 3
 have j5:=(one_block kI5).1 2
 have s5:w2.heap.size+1<w5.heap.size:=(Array.getElem?_eq_some_iff.1 kb5).1
 have HT:=hide HS2.out
 clear HS1 HS2 hown5 hgr5 kb5 m0 HKF kI5 kF5 N1 N2 N3 N6
 have HZS:Hid ((rawL (nm,true,false,fx,rs,mo,pa) (xo,xt,xr,xl))=[xt]++wordsL xl):=rfl
 generalize hB:w2.heap.size+1=B at *
 clear hB
 go_wp2_with fail
 generalize World.setCell _ _ _=WT at *
 clear m1 m0' m1' f5 j5
 go_loopw [10] (fun i wr=>∃ (k:Nat) (v:Value),k≤n∧i=.int .i64 k∧RawS w wr xo xt xr ax n cx B v ([xt]++wordsL (xl.take k))) (fun i _=>n - (intOf i).toNat)
 case atStart=>exact⟨0,_,Nat.zero_le _,rfl,by simpa [wordsL] using HT.out⟩
 case round =>
  obtain⟨k,v,hk,rfl,hS⟩:=hrel
  clear HT
  have hA:=HV.out.below hS.bel
  obtain⟨a7,c7,rfl⟩:=own_shape hS.own
  have i3:=(one_block hS.inst).1 3
  have r1:=(one_block hS.box).1 1
  have sB:=hS.size
  have slt:=hS.lt
  have hap:=hS.apart
  have HAP:=hide hap
  have hnb:(n:Int)≤140737488351232:=by have:=HN.out;omega
  by_cases hlt:k<n
  ·obtain⟨g1,o1,rfl,hg1,p1,p2,p3⟩:=hA k (by rw [HL.out];exact hlt)
   have hki:(k:Int)<(n:Int):=by omega
   have hk0:(0:Int)≤(k:Int):=by omega
   have hTk:=HTAKE.out k hlt
   have hle:=HLE.out (k+1)
   rw [hTk] at hle
   have hLN:([xt]++wordsL xl).length≤65535:=by rw [← HZS.out];exact HLN.out
   obtain⟨_,_,_,_,hsz⟩:=HQ6.out k (by rw [HL.out];exact hlt)
   have hNU:=HNUL.out k hlt
   have HTK:=hide hTk
   have hzl:(([xt]:List Int)++wordsL (xl.take k)).length+(wordsA (nthA xl k)).length≤65535:=by
    simp only [List.length_append] at hle hLN ⊢;omega
   have HZL:=hide hzl
   clear hTk hle hLN hzl hA hap
   generalize hzs:([xt]:List Int)++wordsL (xl.take k)=zs at *
   have HNX:Hid (([xt]:List Int)++wordsL (xl.take (k+1))=zs++wordsA (nthA xl k)):=by show _=_;rw [HTK.out,← List.append_assoc,hzs]
   clear hzs HTK
   generalize nthA xl k=z at *
   obtain⟨z1,z2,z3⟩:=z
   simp only at *
   by_cases h3:z1=3
   ·subst h3
    have eW:wordsA (3,z2,z3)=textW z3:=by simp [wordsA]
    rw [eW] at HNX HZL
    clear eW
    have hT:=fun wx=>refOfText_new z3 wx (hNU rfl) (by have:=HZL.out;rw [textW_len] at this;omega)
    have HS:=hide hS
    clear hS
    go_wp2_with fail
    refine (hT _).mono ?_
    rintro e w8 ⟨ay,m,rfl,hm,hvw,hnew,hb8⟩
    have hS8:=HS.out.below hb8
    have s8:=hb8.size
    have hap8:∀ b off s,ay=some ⟨b,off,s⟩→wr.heap.size≤b:=hnew
    have hap9:=HAP.out
    have HW0:Hid (∀ b off,ay=some ⟨b,off,none⟩→b≠B∧Value.ownBlock (.slice a7 zs.length c7)≠some b):=fun b off e=>by
     have h1:=hap8 b off none e
     refine⟨by omega,fun e2=>?_⟩
     have:=HS.out.own.lt b e2
     omega
    have HS8:=hide hS8
    have HV8:=hide hvw
    have hmm:zs.length+m≤65535:=by rw [← hm];exact HZL.out
    have HM:=hide hm
    have HMM:=hide hmm
    have hmi:(m:Int)≤65535:=by omega
    clear hT hb8 hS8 hnew hvw HS hm hmm i3 r1 hap8 hap9 p1 p2 p3 HZL
    go_wp2_with fail
    go_loopw [13] (fun i wx=>∃ (t:Nat) (v:Value),t≤m∧i=.int .i64 t∧RawS w wx xo xt xr (some ⟨g1,o1,none⟩) n cx B v (zs++(textW z3).take t)∧View .u32 wx ay (textW z3)∧Hid (∀ b off,ay=some ⟨b,off,none⟩→b≠B∧v.ownBlock≠some b)) (fun i _=>m - (intOf i).toNat)
    case atStart=>exact⟨0,_,Nat.zero_le _,rfl,by simpa using HS8.out,HV8.out,HW0⟩
    case round =>
     obtain⟨t,v9,ht,rfl,hS,hvw,HAY⟩:=hrel
     clear HS8 HV8 HW0
     obtain⟨a9,c9,rfl⟩:=own_shape hS.own
     have r1:=(one_block hS.box).1 1
     have sB9:=hS.size
     have hap9:=hS.apart
     by_cases htl:t<m
     ·have hti:(t:Int)<(m:Int):=by omega
      have ht0:(0:Int)≤(t:Int):=by omega
      have htw:t<(textW z3).length:=by rw [HM.out];exact htl
      obtain⟨g5,o5,rfl,hg5,c5⟩:=hvw t htw
      have HAY2:=HAY.out g5 o5 rfl
      have hzt:(zs++(textW z3).take t).length=zs.length+t:=by simp;omega
      have HNX2:Hid (zs++(textW z3).take (t+1)=(zs++(textW z3).take t)++[nth (textW z3) t]):=by
       show _=_
       rw [List.take_succ_eq_append_getElem htw,← List.append_assoc]
       simp [nth,List.getD,htw]
      have hmm:=HMM.out
      generalize nth (textW z3) t=y at c5 HNX2
      generalize hzs2:zs++(textW z3).take t=zt at *
      have HVW:=hide hvw
      have hown:=hS.own
      have HSx:=hide hS
      have HAP9:=hide hap9
      have HZT:=hide hzt
      have hzb:zt.length+1≤65535:=by rw [hzt];omega
      obtain⟨hi,hz0,hz1,hz2⟩:=HI.out
      clear hS hvw hzs2 hzt hap9 htw hmm
      go_wp2
      go_region_law ((refine step_append_lies _ (by rfl) _ _ _ (by rfl) (B+1) 22 i0 (.int .u32 0) 1 4 Tryz.underlying52 hi hz0 hz1 hz2 rfl (by omega) (.slice a9 zt.length c9) zt.length _ (by rfl) ((hown.alloc _).drew) ⟨wr.heap.size,0,none⟩ 1 1 [.int .u32 y] (by rfl) (by rfl) (World.news_of_block (cs:=#[.int .u32 y]) (t:=22) (fr:=(0,0)) (heap_alloc_new wr _)) (by simp [Value.oneCell']) (by omega) (by unfold maxLen;omega) (by omega) (by simp;omega) (wr.heap.size+1) (by simp) ?_;intro g3 cap3 w3 hown3 hgrow3 hat3 hlt3;have kb3:=(hgrow3.block B (by simp;omega) (fun e=>by have:=HAP9.out _ e.symm;omega)).trans ((Below.heap_alloc wr _ _ sB9).trans HSx.out.box);obtain⟨m0,m2⟩:=one_block kb3;have m3:=m0 1;have m4:=m2 1))
      all_goals
       have hSd:=HSx.out.below (((Below.refl _ wr).alloc (Nat.le_refl _) (.cells #[.int .u32 y] 22)).drew)
       have hVd:=HVW.out.below (((Below.refl _ wr).alloc (Nat.le_refl _) (.cells #[.int .u32 y] 22)).drew)
       have HP:=hide (hSd.push (y:=y) hgrow3 (by simpa using hown3))
       have HQ:=hide (hSd.view (v':=.slice (some ⟨g3,0,none⟩) (zt.length+1) cap3) hgrow3 hVd (fun b off e=>by cases e;exact HAY2))
       have HR:Hid (∀ b off,some (⟨g5,o5,none⟩:Addr)=some ⟨b,off,none⟩→b≠B∧Value.ownBlock (.slice (some ⟨g3,0,none⟩) (zt.length+1) cap3)≠some b):=fun b off e=>by
        cases e
        refine⟨HAY2.1,fun e2=>?_⟩
        simp [Value.ownBlock] at e2
        rcases hat3 with h9 | h9
        ·rw [e2] at h9;exact HAY2.2 h9
        ·omega
       clear hSd hVd hown hown3 hgrow3 hat3 hlt3 kb3 m0 m2 m3 m4 HSx HVW r1 c5
       go_wp2_with fail
       go_roundw
       case rel=>exact⟨t+1,_,by omega,by go_num,by rw [HNX2.out];exact HP.out,HQ.out,HR⟩
       case measure=>simp [intOf];omega
     ·obtain rfl:t=m:=by omega
      have e1:(textW z3).take t=textW z3:=List.take_of_length_le (by rw [HM.out];exact Nat.le_refl _)
      rw [e1] at hS
      have HSx:=hide hS
      clear hS hvw e1 r1 hap9
      go_wp2_with fail
      go_roundw
      case rel=>exact⟨k+1,_,by omega,by go_num,by rw [HNX.out];exact HSx.out⟩
      case measure=>simp [intOf];omega
   ·have h3':(z1 != 3)=true:=by simp [h3]
    have eW:wordsA (z1,z2,z3)=[z2]:=by simp [wordsA,h3]
    rw [eW] at HNX HZL
    have hzb:zs.length+1≤65535:=HZL.out
    have hown:=hS.own
    have HSx:=hide hS
    obtain⟨hi,hz0,hz1,hz2⟩:=HI.out
    clear hS eW HZL hNU h3
    go_wp2
    go_region_law ((refine step_append_lies _ (by rfl) _ _ _ (by rfl) (B+1) 22 i0 (.int .u32 0) 1 4 Tryz.underlying52 hi hz0 hz1 hz2 rfl (by omega) (.slice a7 zs.length c7) zs.length _ (by rfl) ((hown.alloc _).drew) ⟨wr.heap.size,0,none⟩ 1 1 [.int .u32 z2] (by rfl) (by rfl) (World.news_of_block (cs:=#[.int .u32 z2]) (t:=22) (fr:=(0,0)) (heap_alloc_new wr _)) (by simp [Value.oneCell']) (by omega) (by unfold maxLen;omega) (by omega) (by simp;omega) (wr.heap.size+1) (by simp) ?_;intro g3 cap3 w3 hown3 hgrow3 hat3 hlt3;have kb3:=(hgrow3.block B (by simp;omega) (fun e=>by have:=HAP.out _ e.symm;omega)).trans ((Below.heap_alloc wr _ _ sB).trans HSx.out.box);obtain⟨m0,m2⟩:=one_block kb3;have m3:=m0 1;have m4:=m2 1))
    all_goals
     have hSd:=HSx.out.below (((Below.refl _ wr).alloc (Nat.le_refl _) (.cells #[.int .u32 z2] 22)).drew)
     have HP:=hide (hSd.push (y:=z2) hgrow3 (by simpa using hown3))
     clear hSd hown hown3 hgrow3 hat3 hlt3 kb3 m0 m2 m3 m4 HSx r1 i3 p1 p2 p3
     go_wp2_with fail
     go_roundw
     case rel=>exact⟨k+1,_,by omega,by go_num,by rw [HNX.out];exact HP.out⟩
     case measure=>simp [intOf];omega
  ·obtain rfl:k=n:=by omega
   rw [HALL.out,← HZS.out] at hS
   clear r1 HAP HZS HLN HALL HLE HTAKE
   generalize hRL:rawL (nm,true,false,fx,rs,mo,pa) (xo,xt,xr,xl)=RL at *
   have HRL:=hide hRL
   clear hRL
   have b0:=(one_block hS.box).1 0
   have b1':=(one_block hS.box).1 1
   have hres:=hS.res
   have rf:=(one_block hres).2
   have rf0:=rf 0
   have rf1:=rf 1
   have q0:=(one_block hres).1 0
   have q1:=(one_block hres).1 1
   have sres:=(Array.getElem?_eq_some_iff.1 hres).1
   have HB3:=hide (two_put2 hres (.int .u16 xo) (.slice a7 RL.length c7))
   have HBel:=hide ((hS.bel.setCell (p:=⟨w.heap.size+1,0,none⟩) (by simp) (.int .u16 xo)).setCell (p:=⟨w.heap.size+1,1,none⟩) (by simp) (.slice a7 RL.length c7))
   have HOw:=hide (ownsRow_setCell_below (ownsRow_setCell_below hS.own (a:=⟨w.heap.size+1,0,none⟩) (by simp;omega) (.int .u16 xo)) (a:=⟨w.heap.size+1,1,none⟩) (by simp;omega) (.slice a7 RL.length c7))
   clear hS hA hres rf
   go_wp2_with fail
   generalize (wr.setCell _ _).setCell _ _=W9 at *
   obtain⟨hd,_⟩:=one_block HB3.out
   have d0:=hd 0
   have d1:=hd 1
   refine bodyPost_ret (v:=.tuple #[.agg #[.int .u16 xo,.slice a7 RL.length c7],.int .i64 0]) ?_ rfl ⟨HBel.out,a7,_,c7,rfl,by rw [HRL.out],by rw [HRL.out];exact own_low4 HOw.out (by omega)⟩
   simp [results,Tryz.results24,go_sem,d0,d1]
set_option maxHeartbeats 8000000 in
theorem refRaw4_ft (xo xt xr:Int) (xl:List ArgT) (b:Int) (ax:Option Addr) (n cx:Nat) (w:World) (hv:ArgsV w ax xl) (hok:InstOk (xo,xt,xr,xl)) (hl:xl.length=n) (b0:0≤b) (b1:b<4294967296)
  (nm fx rs:ByteArray) (mo pa:Int) (hf:lookF refT xo=((nm,false,true,fx,rs,mo,pa),true)) (hE:rawE (xo,xt,xr,xl) b=0) (hln:(rawL (nm,false,true,fx,rs,mo,pa) (xo,xt,xr,xl)).length≤65535)
  (hnul:∀ k,k<n→(nthA xl k).1=3→NoNul (nthA xl k).2.2) :
  Calls Tryz.prog 24 #[instV (xo,xt,xr,xl) ax n cx,.int .u32 b] w fun e w'=>Below w.heap.size w w'∧∃ a m c,e=.returned (.tuple #[.agg #[.int .u16 xo,.slice a m c],.int .i64 0])∧(rawL (nm,false,true,fx,rs,mo,pa) (xo,xt,xr,xl)).length=m ∧
   w'.ownsRow w.heap.size 22 1 (.slice a m c) m ((rawL (nm,false,true,fx,rs,mo,pa) (xo,xt,xr,xl)).map (Value.int .u32)):=by
 obtain⟨i0,hi,hz0,hz1,hz2⟩:=info_parts Raw4.info
 have HI:Hid (Tryz.prog.info? 22=some i0∧i0.zero=some (.int .u32 0)∧i0.size=1∧i0.bytes=4):=⟨hi,hz0,hz1,hz2⟩
 have hF:=fun (wx:World) (hb:Below w.heap.size w wx)=>refFault4_any (xo,xt,xr,xl) b ax n cx wx (hv.below hb) hok hl b0 b1
 rw [hE] at hF
 have hOf:=fun wx=>refOf_any xo wx
 have eV:ofV xo=formV xo (nm,false,true,fx,rs,mo,pa):=by unfold ofV;rw [hf];rfl
 rw [eV,hf] at hOf
 unfold formV at hOf
 unfold instV at hF ⊢
 simp only at hF hOf ⊢
 obtain⟨q0,q1,q2,q3,q4,q5,q6,q7⟩:=hok
 simp only at q0 q1 q2 q3 q4 q5 q6 q7
 rw [hl] at q7
 have HV:=hide hv
 have HL:=hide hl
 have HQ6:=hide q6
 have HNUL:=hide hnul
 have HN:Hid (24 * n≤140737488351232):=q7
 have HLN:=hide hln
 have HTAKE:Hid (∀ k,k<n→wordsL (xl.take (k+1))=wordsL (xl.take k)++wordsA (nthA xl k)):=fun k hk=>wordsL_take xl k (by omega)
 have HLE:Hid (∀ k,(wordsL (xl.take k)).length≤(wordsL xl).length):=words_le xl
 have HALL:Hid (wordsL (xl.take n)=wordsL xl):=by show _=_;rw [List.take_of_length_le (by omega)]
 clear hv hl hE hf eV q0 q1 q2 q3 q4 q5 q6 q7 hnul hln
 have hbel0:Below w.heap.size w ((w.alloc (.cells #[.int .u16 xo,.int .u32 xt,.int .u32 xr,.slice ax n cx] 38)).alloc (.cells #[.int .u16 0,.slice none 0 0] 54)):=((Below.refl _ w).alloc (Nat.le_refl _) _).alloc (by simp) _
 have kI:((w.alloc (.cells #[.int .u16 xo,.int .u32 xt,.int .u32 xr,.slice ax n cx] 38)).alloc (.cells #[.int .u16 0,.slice none 0 0] 54)).heap[w.heap.size]?=some (.cells #[.int .u16 xo,.int .u32 xt,.int .u32 xr,.slice ax n cx] 38 (0,0)):=(Below.heap_alloc _ _ _ (by simp)).trans (alloc_new w _ _)
 have kR:((w.alloc (.cells #[.int .u16 xo,.int .u32 xt,.int .u32 xr,.slice ax n cx] 38)).alloc (.cells #[.int .u16 0,.slice none 0 0] 54)).heap[w.heap.size+1]?=some (.cells #[.int .u16 0,.slice none 0 0] 54 (0,0)):=by simpa using alloc_new (w.alloc (.cells #[.int .u16 xo,.int .u32 xt,.int .u32 xr,.slice ax n cx] 38)) #[.int .u16 0,.slice none 0 0] 54
 go_enter Tryz.func24,Tryz.ntmps24
 go_wp2_with fail
 generalize (w.alloc (.cells #[.int .u16 xo,.int .u32 xt,.int .u32 xr,.slice ax n cx] 38)).alloc (.cells #[.int .u16 0,.slice none 0 0] 54)=W0 at *
 refine (hF _ hbel0).mono ?_
 rintro e w1 ⟨rfl,hb1⟩
 have sR:=(Array.getElem?_eq_some_iff.1 kR).1
 have kI1:=(hb1.block _ (by omega)).trans kI
 have kR1:=(hb1.block _ sR).trans kR
 have hbel1:=hbel0.trans (hb1.mono (by omega))
 have i0':=(one_block kI1).1 0
 clear hF hb1 kI kR hbel0 hi hz0 hz1 hz2
 have s1:=(Array.getElem?_eq_some_iff.1 kR1).1
 go_wp2_with fail
 refine (hOf _).mono ?_
 rintro e w2 ⟨rfl,hb2⟩
 have s2:=hb2.size
 have kI2:=(hb2.block _ (by omega)).trans kI1
 have kR2:=(hb2.block _ s1).trans kR1
 have hbel2:=hbel1.trans (hb2.mono (by omega))
 have s3:w.heap.size<w2.heap.size:=by omega
 have j0:=(one_block kI2).1 0
 have j1:=(one_block kI2).1 1
 have j2:=(one_block kI2).1 2
 clear hOf hb2 kI1 kR1 hbel1 i0'
 have hbA:Below w2.heap.size w2 ((w2.alloc (.cells #[.int .u16 xo,.string nm,.bool false,.bool true,.string fx,.string rs,.int .i64 mo,.int .u8 pa] 66)).alloc (.cells #[.int .u16 xo,.slice none 0 0] 54)):=((Below.refl _ w2).alloc (Nat.le_refl _) _).alloc (by simp) _
 have hS0:RawS w ((w2.alloc (.cells #[.int .u16 xo,.string nm,.bool false,.bool true,.string fx,.string rs,.int .i64 mo,.int .u8 pa] 66)).alloc (.cells #[.int .u16 xo,.slice none 0 0] 54)) xo xt xr ax n cx (w2.heap.size+1) (.slice none 0 0) [] :=
  ⟨World.ownsRow_nil _ _ _ _,by simpa using alloc_new (w2.alloc (.cells #[.int .u16 xo,.string nm,.bool false,.bool true,.string fx,.string rs,.int .i64 mo,.int .u8 pa] 66)) #[.int .u16 xo,.slice none 0 0] 54,(hbA.block _ (by omega)).trans kI2,(hbA.block _ (by omega)).trans kR2,hbel2.trans (hbA.mono (by omega)),by omega⟩
 have kF:((w2.alloc (.cells #[.int .u16 xo,.string nm,.bool false,.bool true,.string fx,.string rs,.int .i64 mo,.int .u8 pa] 66)).alloc (.cells #[.int .u16 xo,.slice none 0 0] 54)).heap[w2.heap.size]?=some (.cells #[.int .u16 xo,.string nm,.bool false,.bool true,.string fx,.string rs,.int .i64 mo,.int .u8 pa] 66 (0,0)):=(Below.heap_alloc _ _ _ (by simp)).trans (alloc_new w2 _ _)
 clear kI2 kR2 hbel2 hbA
 have N1:Hid ((((w2.alloc (.cells #[.int .u16 xo,.string nm,.bool false,.bool true,.string fx,.string rs,.int .i64 mo,.int .u8 pa] 66)).alloc (.cells #[.int .u16 xo,.slice none 0 0] 54)).alloc (.cells #[.int .u32 xr] 22)).ownsRow (w2.heap.size+2) 22 1 (.slice none 0 0) 0 []):=World.ownsRow_nil _ _ _ _
 have N2:Hid (∀ (j:Nat) (u:Value),[Value.int .u32 xr][j]?=some u→(((w2.alloc (.cells #[.int .u16 xo,.string nm,.bool false,.bool true,.string fx,.string rs,.int .i64 mo,.int .u8 pa] 66)).alloc (.cells #[.int .u16 xo,.slice none 0 0] 54)).alloc (.cells #[.int .u32 xr] 22)).cell? ((⟨w2.heap.size+1+1,0,none⟩:Addr).add j)=some u):=World.news_of_block (cs:=#[.int .u32 xr]) (t:=22) (fr:=(0,0)) (by simpa using alloc_new ((w2.alloc (.cells #[.int .u16 xo,.string nm,.bool false,.bool true,.string fx,.string rs,.int .i64 mo,.int .u8 pa] 66)).alloc (.cells #[.int .u16 xo,.slice none 0 0] 54)) #[.int .u32 xr] 22)
 have N3:Hid (∀ u:Value,u∈[Value.int .u32 xr]→u.oneCell'=true):=by intro u hu;simp at hu;subst hu;rfl
 have N6:Hid (w2.heap.size+2≤(((w2.alloc (.cells #[.int .u16 xo,.string nm,.bool false,.bool true,.string fx,.string rs,.int .i64 mo,.int .u8 pa] 66)).alloc (.cells #[.int .u16 xo,.slice none 0 0] 54)).alloc (.cells #[.int .u32 xr] 22)).heap.size):=by show _≤_;simp
 have HS1:=hide (hS0.below ((Below.refl _ _).alloc (Nat.le_refl _) (.cells #[.int .u32 xr] 22)))
 have HKF:=hide kF
 clear hS0 kF
 go_wp2_with (at_builtin;refine wpList_append_own _ rfl (.tmp 42) (.tmp 45) 52 rfl (w2.heap.size+2) 22 i0 (.int .u32 0) 1 4 Tryz.underlying52 HI.out.1 HI.out.2.1 HI.out.2.2.1 HI.out.2.2.2 rfl (by decide) _ 0 [] rfl N1.out ⟨w2.heap.size+1+1,0,none⟩ 1 1 [.int .u32 xr] rfl rfl N2.out N3.out (by unfold maxLen;omega) (by omega) N6.out ?_)
 intro v5 w5 hown5 hgr5 _
 obtain⟨a5,c5,rfl⟩:=own_shape hown5
 have kb5:w5.heap[w2.heap.size+1]?=some (.cells #[.int .u16 xo,.slice none 0 0] 54 (0,0)):=(hgr5.block _ HS1.out.size (by simp [Value.ownBlock])).trans HS1.out.box
 have HS2:=hide (HS1.out.push (y:=xr) hgr5 (by simpa using hown5))
 simp only [List.nil_append] at HS2
 obtain⟨m0,m1⟩:=one_block kb5
 have m0':=m0 0
 have m1':=m0 1
 have kF5:w5.heap[w2.heap.size]?=some (.cells #[.int .u16 xo,.string nm,.bool false,.bool true,.string fx,.string rs,.int .i64 mo,.int .u8 pa] 66 (0,0)):=(hgr5.block _ (by simp;omega) (by simp [Value.ownBlock])).trans ((Below.heap_alloc _ _ _ (by simp;omega)).trans HKF.out)
 have kI5:w5.heap[w.heap.size]?=some (.cells #[.int .u16 xo,.int .u32 xt,.int .u32 xr,.slice ax n cx] 38 (0,0)):=(hgr5.block _ (by simp;omega) (by simp [Value.ownBlock])).trans HS1.out.inst
 have f5:=(one_block kF5).1 3
 have j5:=(one_block kI5).1 2
 have s5:w2.heap.size+1<w5.heap.size:=(Array.getElem?_eq_some_iff.1 kb5).1
 have HT:=hide HS2.out
 clear HS1 HS2 hown5 hgr5 kb5 m0 HKF kI5 kF5 N1 N2 N3 N6
 have HZS:Hid ((rawL (nm,false,true,fx,rs,mo,pa) (xo,xt,xr,xl))=[xr]++wordsL xl):=rfl
 generalize hB:w2.heap.size+1=B at *
 clear hB
 go_wp2_with fail
 generalize World.setCell _ _ _=WT at *
 clear m1 m0' m1' f5 j5
 go_loopw [10] (fun i wr=>∃ (k:Nat) (v:Value),k≤n∧i=.int .i64 k∧RawS w wr xo xt xr ax n cx B v ([xr]++wordsL (xl.take k))) (fun i _=>n - (intOf i).toNat)
 case atStart=>exact⟨0,_,Nat.zero_le _,rfl,by simpa [wordsL] using HT.out⟩
 case round =>
  obtain⟨k,v,hk,rfl,hS⟩:=hrel
  clear HT
  have hA:=HV.out.below hS.bel
  obtain⟨a7,c7,rfl⟩:=own_shape hS.own
  have i3:=(one_block hS.inst).1 3
  have r1:=(one_block hS.box).1 1
  have sB:=hS.size
  have slt:=hS.lt
  have hap:=hS.apart
  have HAP:=hide hap
  have hnb:(n:Int)≤140737488351232:=by have:=HN.out;omega
  by_cases hlt:k<n
  ·obtain⟨g1,o1,rfl,hg1,p1,p2,p3⟩:=hA k (by rw [HL.out];exact hlt)
   have hki:(k:Int)<(n:Int):=by omega
   have hk0:(0:Int)≤(k:Int):=by omega
   have hTk:=HTAKE.out k hlt
   have hle:=HLE.out (k+1)
   rw [hTk] at hle
   have hLN:([xr]++wordsL xl).length≤65535:=by rw [← HZS.out];exact HLN.out
   obtain⟨_,_,_,_,hsz⟩:=HQ6.out k (by rw [HL.out];exact hlt)
   have hNU:=HNUL.out k hlt
   have HTK:=hide hTk
   have hzl:(([xr]:List Int)++wordsL (xl.take k)).length+(wordsA (nthA xl k)).length≤65535:=by
    simp only [List.length_append] at hle hLN ⊢;omega
   have HZL:=hide hzl
   clear hTk hle hLN hzl hA hap
   generalize hzs:([xr]:List Int)++wordsL (xl.take k)=zs at *
   have HNX:Hid (([xr]:List Int)++wordsL (xl.take (k+1))=zs++wordsA (nthA xl k)):=by show _=_;rw [HTK.out,← List.append_assoc,hzs]
   clear hzs HTK
   generalize nthA xl k=z at *
   obtain⟨z1,z2,z3⟩:=z
   simp only at *
   by_cases h3:z1=3
   ·subst h3
    have eW:wordsA (3,z2,z3)=textW z3:=by simp [wordsA]
    rw [eW] at HNX HZL
    clear eW
    have hT:=fun wx=>refOfText_new z3 wx (hNU rfl) (by have:=HZL.out;rw [textW_len] at this;omega)
    have HS:=hide hS
    clear hS
    go_wp2_with fail
    refine (hT _).mono ?_
    rintro e w8 ⟨ay,m,rfl,hm,hvw,hnew,hb8⟩
    have hS8:=HS.out.below hb8
    have s8:=hb8.size
    have hap8:∀ b off s,ay=some ⟨b,off,s⟩→wr.heap.size≤b:=hnew
    have hap9:=HAP.out
    have HW0:Hid (∀ b off,ay=some ⟨b,off,none⟩→b≠B∧Value.ownBlock (.slice a7 zs.length c7)≠some b):=fun b off e=>by
     have h1:=hap8 b off none e
     refine⟨by omega,fun e2=>?_⟩
     have:=HS.out.own.lt b e2
     omega
    have HS8:=hide hS8
    have HV8:=hide hvw
    have hmm:zs.length+m≤65535:=by rw [← hm];exact HZL.out
    have HM:=hide hm
    have HMM:=hide hmm
    have hmi:(m:Int)≤65535:=by omega
    clear hT hb8 hS8 hnew hvw HS hm hmm i3 r1 hap8 hap9 p1 p2 p3 HZL
    go_wp2_with fail
    go_loopw [13] (fun i wx=>∃ (t:Nat) (v:Value),t≤m∧i=.int .i64 t∧RawS w wx xo xt xr (some ⟨g1,o1,none⟩) n cx B v (zs++(textW z3).take t)∧View .u32 wx ay (textW z3)∧Hid (∀ b off,ay=some ⟨b,off,none⟩→b≠B∧v.ownBlock≠some b)) (fun i _=>m - (intOf i).toNat)
    case atStart=>exact⟨0,_,Nat.zero_le _,rfl,by simpa using HS8.out,HV8.out,HW0⟩
    case round =>
     obtain⟨t,v9,ht,rfl,hS,hvw,HAY⟩:=hrel
     clear HS8 HV8 HW0
     obtain⟨a9,c9,rfl⟩:=own_shape hS.own
     have r1:=(one_block hS.box).1 1
     have sB9:=hS.size
     have hap9:=hS.apart
     by_cases htl:t<m
     ·have hti:(t:Int)<(m:Int):=by omega
      have ht0:(0:Int)≤(t:Int):=by omega
      have htw:t<(textW z3).length:=by rw [HM.out];exact htl
      obtain⟨g5,o5,rfl,hg5,c5⟩:=hvw t htw
      have HAY2:=HAY.out g5 o5 rfl
      have hzt:(zs++(textW z3).take t).length=zs.length+t:=by simp;omega
      have HNX2:Hid (zs++(textW z3).take (t+1)=(zs++(textW z3).take t)++[nth (textW z3) t]):=by
       show _=_
       rw [List.take_succ_eq_append_getElem htw,← List.append_assoc]
       simp [nth,List.getD,htw]
      have hmm:=HMM.out
      generalize nth (textW z3) t=y at c5 HNX2
      generalize hzs2:zs++(textW z3).take t=zt at *
      have HVW:=hide hvw
      have hown:=hS.own
      have HSx:=hide hS
      have HAP9:=hide hap9
      have HZT:=hide hzt
      have hzb:zt.length+1≤65535:=by rw [hzt];omega
      obtain⟨hi,hz0,hz1,hz2⟩:=HI.out
      clear hS hvw hzs2 hzt hap9 htw hmm
      go_wp2
      go_region_law ((refine step_append_lies _ (by rfl) _ _ _ (by rfl) (B+1) 22 i0 (.int .u32 0) 1 4 Tryz.underlying52 hi hz0 hz1 hz2 rfl (by omega) (.slice a9 zt.length c9) zt.length _ (by rfl) ((hown.alloc _).drew) ⟨wr.heap.size,0,none⟩ 1 1 [.int .u32 y] (by rfl) (by rfl) (World.news_of_block (cs:=#[.int .u32 y]) (t:=22) (fr:=(0,0)) (heap_alloc_new wr _)) (by simp [Value.oneCell']) (by omega) (by unfold maxLen;omega) (by omega) (by simp;omega) (wr.heap.size+1) (by simp) ?_;intro g3 cap3 w3 hown3 hgrow3 hat3 hlt3;have kb3:=(hgrow3.block B (by simp;omega) (fun e=>by have:=HAP9.out _ e.symm;omega)).trans ((Below.heap_alloc wr _ _ sB9).trans HSx.out.box);obtain⟨m0,m2⟩:=one_block kb3;have m3:=m0 1;have m4:=m2 1))
      all_goals
       have hSd:=HSx.out.below (((Below.refl _ wr).alloc (Nat.le_refl _) (.cells #[.int .u32 y] 22)).drew)
       have hVd:=HVW.out.below (((Below.refl _ wr).alloc (Nat.le_refl _) (.cells #[.int .u32 y] 22)).drew)
       have HP:=hide (hSd.push (y:=y) hgrow3 (by simpa using hown3))
       have HQ:=hide (hSd.view (v':=.slice (some ⟨g3,0,none⟩) (zt.length+1) cap3) hgrow3 hVd (fun b off e=>by cases e;exact HAY2))
       have HR:Hid (∀ b off,some (⟨g5,o5,none⟩:Addr)=some ⟨b,off,none⟩→b≠B∧Value.ownBlock (.slice (some ⟨g3,0,none⟩) (zt.length+1) cap3)≠some b):=fun b off e=>by
        cases e
        refine⟨HAY2.1,fun e2=>?_⟩
        simp [Value.ownBlock] at e2
        rcases hat3 with h9 | h9
        ·rw [e2] at h9;exact HAY2.2 h9
        ·omega
       clear hSd hVd hown hown3 hgrow3 hat3 hlt3 kb3 m0 m2 m3 m4 HSx HVW r1 c5
       go_wp2_with fail
       go_roundw
       case rel=>exact⟨t+1,_,by omega,by go_num,by rw [HNX2.out];exact HP.out,HQ.out,HR⟩
       case measure=>simp [intOf];omega
     ·obtain rfl:t=m:=by omega
      have e1:(textW z3).take t=textW z3:=List.take_of_length_le (by rw [HM.out];exact Nat.le_refl _)
      rw [e1] at hS
      have HSx:=hide hS
      clear hS hvw e1 r1 hap9
      go_wp2_with fail
      go_roundw
      case rel=>exact⟨k+1,_,by omega,by go_num,by rw [HNX.out];exact HSx.out⟩
      case measure=>simp [intOf];omega
   ·have h3':(z1 != 3)=true:=by simp [h3]
    have eW:wordsA (z1,z2,z3)=[z2]:=by simp [wordsA,h3]
    rw [eW] at HNX HZL
    have hzb:zs.length+1≤65535:=HZL.out
    have hown:=hS.own
    have HSx:=hide hS
    obtain⟨hi,hz0,hz1,hz2⟩:=HI.out
    clear hS eW HZL hNU h3
    go_wp2
    go_region_law ((refine step_append_lies _ (by rfl) _ _ _ (by rfl) (B+1) 22 i0 (.int .u32 0) 1 4 Tryz.underlying52 hi hz0 hz1 hz2 rfl (by omega) (.slice a7 zs.length c7) zs.length _ (by rfl) ((hown.alloc _).drew) ⟨wr.heap.size,0,none⟩ 1 1 [.int .u32 z2] (by rfl) (by rfl) (World.news_of_block (cs:=#[.int .u32 z2]) (t:=22) (fr:=(0,0)) (heap_alloc_new wr _)) (by simp [Value.oneCell']) (by omega) (by unfold maxLen;omega) (by omega) (by simp;omega) (wr.heap.size+1) (by simp) ?_;intro g3 cap3 w3 hown3 hgrow3 hat3 hlt3;have kb3:=(hgrow3.block B (by simp;omega) (fun e=>by have:=HAP.out _ e.symm;omega)).trans ((Below.heap_alloc wr _ _ sB).trans HSx.out.box);obtain⟨m0,m2⟩:=one_block kb3;have m3:=m0 1;have m4:=m2 1))
    all_goals
     have hSd:=HSx.out.below (((Below.refl _ wr).alloc (Nat.le_refl _) (.cells #[.int .u32 z2] 22)).drew)
     have HP:=hide (hSd.push (y:=z2) hgrow3 (by simpa using hown3))
     clear hSd hown hown3 hgrow3 hat3 hlt3 kb3 m0 m2 m3 m4 HSx r1 i3 p1 p2 p3
     go_wp2_with fail
     go_roundw
     case rel=>exact⟨k+1,_,by omega,by go_num,by rw [HNX.out];exact HP.out⟩
     case measure=>simp [intOf];omega
  ·obtain rfl:k=n:=by omega
   rw [HALL.out,← HZS.out] at hS
   clear r1 HAP HZS HLN HALL HLE HTAKE
   generalize hRL:rawL (nm,false,true,fx,rs,mo,pa) (xo,xt,xr,xl)=RL at *
   have HRL:=hide hRL
   clear hRL
   have b0:=(one_block hS.box).1 0
   have b1':=(one_block hS.box).1 1
   have hres:=hS.res
   have rf:=(one_block hres).2
   have rf0:=rf 0
   have rf1:=rf 1
   have q0:=(one_block hres).1 0
   have q1:=(one_block hres).1 1
   have sres:=(Array.getElem?_eq_some_iff.1 hres).1
   have HB3:=hide (two_put2 hres (.int .u16 xo) (.slice a7 RL.length c7))
   have HBel:=hide ((hS.bel.setCell (p:=⟨w.heap.size+1,0,none⟩) (by simp) (.int .u16 xo)).setCell (p:=⟨w.heap.size+1,1,none⟩) (by simp) (.slice a7 RL.length c7))
   have HOw:=hide (ownsRow_setCell_below (ownsRow_setCell_below hS.own (a:=⟨w.heap.size+1,0,none⟩) (by simp;omega) (.int .u16 xo)) (a:=⟨w.heap.size+1,1,none⟩) (by simp;omega) (.slice a7 RL.length c7))
   clear hS hA hres rf
   go_wp2_with fail
   generalize (wr.setCell _ _).setCell _ _=W9 at *
   obtain⟨hd,_⟩:=one_block HB3.out
   have d0:=hd 0
   have d1:=hd 1
   refine bodyPost_ret (v:=.tuple #[.agg #[.int .u16 xo,.slice a7 RL.length c7],.int .i64 0]) ?_ rfl ⟨HBel.out,a7,_,c7,rfl,by rw [HRL.out],by rw [HRL.out];exact own_low4 HOw.out (by omega)⟩
   simp [results,Tryz.results24,go_sem,d0,d1]
end Go.Proofs.YtonhnflilfjkbaaGreatDoor
