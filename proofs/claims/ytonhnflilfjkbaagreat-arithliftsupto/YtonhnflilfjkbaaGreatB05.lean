/-
  Texts in one: KitCopyWords, RowX, ArithEach, ArithPairs, ArithLift, Puts, Arr32, Ref13Bits.
-/
import Derived.Test.YtonhnflilfjkbaaGreatB04
import Derived.Deep.RegionWith
import Derived.Deep.MidRow
namespace Go.Proofs.YtonhnflilfjkbaaGreat
open Go.RowKit
set_option maxRecDepth 10000
theorem CopyWords.info:(Tryz.prog.info? 34).map (fun i=>(i.zero,i.size,i.bytes))=some (some (.int .u32 0),1,4):=by kernel_rfl
set_option maxHeartbeats 400000 in
theorem copyWords_any (a:Option Addr) (n cap:Nat) (zs:List Int) (w:World) (ha:View .u32 w a zs) (hl:zs.length=n) (hn:4 * n≤140737488351232) :
  Calls Tryz.prog 5 #[.slice a n cap] w fun e w'=>e=.returned (.slice (some ⟨w.heap.size,0,none⟩) n n) ∧
   w'.ownsRow w.heap.size 34 1 (.slice (some ⟨w.heap.size,0,none⟩) n n) n (zs.map (Value.int .u32))∧Below w.heap.size w w':=by
 obtain⟨i0,hi,hz0,hz1,hz2⟩:=info_parts CopyWords.info
 have HL:Hid (zs.length=n):=hl
 clear hl
 go_enter Tryz.func5,Tryz.ntmps5
 go_wp2_with (at_make;refine wpList_make_full _ rfl _ _ 24 rfl w.heap.size 34 i0 (.int .u32 0) 1 Tryz.underlying24 hi hz0 hz1 _ _ _ _ n rfl rfl (by omega) (by omega) (by rw [hz2];omega) (by unfold maxLen;omega) (Nat.le_refl _) ?_)
 intro w1 hown1 hgrow1
 have hb1:Below w.heap.size w w1:=(Below.refl _ w).grown hgrow1 (Nat.le_refl _) (by simp)
 have hr1:=made_row zs hown1
 clear hown1 hgrow1
 go_wp2
 go_loopw [4] (fun i wr=>∃ k:Nat,k≤n∧i=.int .i64 k∧wr.ownsRow w.heap.size 34 1 (.slice (some ⟨w.heap.size,0,none⟩) n n) n ((filled zs k n).map (Value.int .u32))∧Below w.heap.size w wr)
  (fun i _=>n - (intOf i).toNat)
 case atStart=>exact⟨0,Nat.zero_le _,rfl,hr1,hb1⟩
 case round =>
  obtain⟨k,hk,rfl,hown,hnx⟩:=hrel
  clear hr1 hb1
  by_cases hlt:k<n
  ·obtain⟨b,off,rfl,hbs,hc⟩:=ha k (by rw [HL.out];exact hlt)
   obtain⟨d1,d2,d3⟩:=fill_step hown hlt (by rw [HL.out];exact hlt)
   have hcr:wr.cell? ⟨b,off+k,none⟩=some (.int .u32 (nth zs k)):=(hnx.cell (p:=⟨b,off+k,none⟩) hbs).trans hc
   generalize nth zs k=x at hcr d3
   clear hc ha hown
   go_wp2
   go_roundw
   case rel=>exact⟨k+1,by omega,by go_num,d3,hnx.setCell (Nat.le_refl _) _⟩
   case measure=>simp [intOf];omega
  ·go_wp2
   go_ret
   obtain rfl:k=n:=by omega
   rw [filled_whole zs k HL.out] at hown
   exact⟨rfl,hown,hnx⟩
set_option linter.unusedVariables false
set_option linter.unusedSimpArgs false
structure RowX where
  T : Nat
  size : Nat
  v : Value
  n : Nat
  xs : List Value
def RowX.own (r:RowX) (w:World) (lo:Nat):Prop:=w.ownsRow lo r.T r.size r.v r.n r.xs
theorem own_setAt {w:World} {lo e size n g cap:Nat} {xs:List Value} (h:w.ownsRow lo e size (.slice (some ⟨g,0,none⟩) n cap) n xs) (i:Nat) (u:Value):(w.setCell ⟨g,i,none⟩ u).ownsRow lo e size (.slice (some ⟨g,0,none⟩) n cap) n (xs.set i u):=by
 refine⟨by rw [List.length_set];exact h.1,.inr ?_⟩
 rcases h.2 with ⟨h1,_⟩ | ⟨g',cap',cur,e1,h2,h3,h4,h5,h6,h7⟩
 ·cases h1
 ·cases e1
  refine⟨g,cap,cur.setIfInBounds i u,rfl,h2,?_,h4,h5,by simp [h6],?_⟩
  ·simp [World.setCell,Array.getElem?_modify,h3]
  ·rw [Array.toList_setIfInBounds,List.take_set,h7]
theorem own_form {w:World} {lo e size n:Nat} {v:Value} {xs:List Value} (h:w.ownsRow lo e size v n xs) (hn:0<n):∃ g cap,v=.slice (some ⟨g,0,none⟩) n cap∧lo≤g∧g<w.heap.size∧n≤cap∧(∀ i,w.frozen? ⟨g,i,none⟩=false)∧(∀ i,i<n * size→w.cell? ⟨g,i,none⟩=xs[i]?):=by
 rcases h.2 with ⟨_,h1⟩ | ⟨g,cap,cur,e1,h2,h3,h4,h5,h6,h7⟩
 ·omega
 ·refine⟨g,cap,e1,h2,(Array.getElem?_eq_some_iff.1 h3).1,h4,fun i=>by simp [World.frozen?,h3],fun i hi=>?_⟩
  rw [show w.cell? ⟨g,i,none⟩=cur[i]? by simp [World.cell?,h3],← h7,List.getElem?_take,if_pos hi]
  simp
end Go.Proofs.YtonhnflilfjkbaaGreat
namespace Go.Proofs.YtonhnflilfjkbaaGreat
open Go.RowKit Go.Maps
set_option linter.unusedVariables false
set_option linter.unusedSimpArgs false
set_option maxRecDepth 10000
theorem own_low {w w':World} {lo e size n g cap N:Nat} {xs:List Value} (h:w.ownsRow lo e size (.slice (some ⟨g,0,none⟩) n cap) n xs) (hb:Below N w w') (hg:g<N):w'.ownsRow lo e size (.slice (some ⟨g,0,none⟩) n cap) n xs:=by
 refine⟨h.1,.inr ?_⟩
 rcases h.2 with ⟨h1,_⟩ | ⟨g',cap',cur,e1,h2,h3,r⟩
 ·cases h1
 ·cases e1
  exact⟨g,cap,cur,rfl,h2,(hb.block g hg).trans h3,r⟩
def colL (ls:List (List Int)) (k:Nat):List Int:=ls.map fun r=>nth r k
theorem colL_len (ls:List (List Int)) (k:Nat):(colL ls k).length=ls.length:=by simp [colL]
theorem colL_at (ls:List (List Int)) (k j:Nat) (h:j<ls.length):nth (colL ls k) j=nth (nthL ls j) k:=by
 simp [colL,nth,nthL,List.getD,h]
def eachL (op:Int) (ls:List (List Int)) (m:Nat):List Int:=(List.range m).map fun k=>wdV op (colL ls k)
theorem eachL_len (op:Int) (ls:List (List Int)) (m:Nat):(eachL op ls m).length=m:=by simp [eachL]
theorem eachL_at (op:Int) (ls:List (List Int)) (m k:Nat) (h:k<m):nth (eachL op ls m) k=wdV op (colL ls k):=by
 simp [eachL,nth,List.getD,h]
theorem same_nth {xs ys:List Int} (hl:xs.length=ys.length) (h:∀ j,j<xs.length→nth xs j=nth ys j):xs=ys:=by
 apply List.ext_getElem hl
 intro j h1 h2
 have:=h j h1
 simpa [nth,List.getD,h1,h2] using this
theorem set_nth (xs:List Int) (k j:Nat) (x:Int) (hk:k<xs.length):nth (xs.set k x) j=if j=k then x else nth xs j:=by
 simp only [nth,List.getD,List.getElem?_set]
 by_cases h:j=k
 ·subst h;simp [hk]
 ·rw [if_neg (fun e=>h e.symm),if_neg h]
theorem col_in {ls:List (List Int)} {m k:Nat} (hok:ListsOk ls) (hm:∀ j,j<ls.length→(nthL ls j).length=m) (hk:k<m):Within 4294967296 (colL ls k):=by
 intro z hz
 obtain⟨r,hr,rfl⟩:=List.mem_map.1 hz
 obtain⟨j,hj,e⟩:=List.mem_iff_getElem.1 hr
 have h1:=(hok j hj).1
 have e2:nthL ls j=r:=by simp [nthL,List.getD,hj,e]
 rw [e2] at h1
 have h2:=hm j hj
 rw [e2] at h2
 exact h1.at (by omega)
set_option maxHeartbeats 4000000 in
theorem each_any (op:Int) (v:Value) (a:Option Addr) (n c m:Nat) (ls:List (List Int)) (w:World) (hq:WdQ op v w) (hv:ListsV w a ls) (hok:ListsOk ls) (hl:ls.length=n) (h0:0<n) (hn:n≤4) (har:(n:Int)=arV op) (hlev:∀ j,j<ls.length→(nthL ls j).length=m) (hm:4 * m≤140737488351232) :
  Calls Tryz.prog 30 #[v,.slice a n c] w fun e w'=>∃ g,e=.returned (.slice (some ⟨g,0,none⟩) m m)∧w'.ownsRow w.heap.size 34 1 (.slice (some ⟨g,0,none⟩) m m) m ((eachL op ls m).map (Value.int .u32))∧Below w.heap.size w w':=by
 obtain⟨i0,hi,hz0,hz1,hz2⟩:=info_parts CopyWords.info
 obtain⟨b,off,a0,n0,c0,rfl,hb,hc0,hcl0,_⟩:=hv 0 (by omega)
 rw [Nat.add_zero] at hc0
 have hnm:m=n0:=(hlev 0 (by omega)).symm.trans hcl0
 subst hnm
 have h0i:(0:Int)<(n:Int):=by omega
 have HM:=hide hm
 have HN:=hide hn
 have HL:=hide hl
 have HV:=hide hv
 have HOK:=hide hok
 have HLEV:=hide hlev
 have HAR:=hide har
 have HQ:=hide hq
 clear hv hok hlev har hq hcl0 hl
 go_enter Tryz.func30,Tryz.ntmps30
 go_wp2_with (at_make;refine wpList_make_full _ rfl _ _ 24 rfl w.heap.size 34 i0 (.int .u32 0) 1 Tryz.underlying24 hi hz0 hz1 _ _ _ _ m rfl rfl (by omega) (by omega) (by rw [hz2];omega) (by unfold maxLen;omega) (Nat.le_refl _) ?_)
 intro w1 hown1 hgrow1
 have hb1:Below w.heap.size w w1:=(Below.refl _ w).grown hgrow1 (Nat.le_refl _) (by simp)
 have hr1:=made_row (eachL op ls m) hown1
 have hs1:w.heap.size<w1.heap.size:=by
  rcases hown1.2 with ⟨h,_⟩ | ⟨g,cap',cur,e1,_,h3,_⟩
  ·simp at h
  ·simp at e1;obtain⟨rfl,_⟩:=e1;exact (Array.getElem?_eq_some_iff.1 h3).1
 clear hown1 hgrow1
 go_wp2_with (at_make;refine wpList_make_full _ rfl _ _ 24 rfl w1.heap.size 34 i0 (.int .u32 0) 1 Tryz.underlying24 hi hz0 hz1 _ _ _ _ n rfl rfl (by omega) (by omega) (by rw [hz2];omega) (by unfold maxLen;omega) (Nat.le_refl _) ?_)
 intro w2 hown2 hgrow2
 have hb2:Below w1.heap.size w1 w2:=(Below.refl _ w1).grown hgrow2 (Nat.le_refl _) (by simp)
 have hr2:=made_row (colL ls 0) hown2
 have ho1:=own_low hr1 hb2 hs1
 have hbw2:=hb1.trans (hb2.mono (by omega))
 clear hown2 hgrow2 hr1 hb2 hb1
 generalize w1.heap.size=G at *
 go_wp2
 go_loopw [20] (fun i wr=>∃ (q:Nat) (ys:List Int),q≤m∧i=.int .i64 q∧ys.length=n∧wr.ownsRow w.heap.size 34 1 (.slice (some ⟨w.heap.size,0,none⟩) m m) m ((filled (eachL op ls m) q m).map (Value.int .u32))∧wr.ownsRow G 34 1 (.slice (some ⟨G,0,none⟩) n n) n (ys.map (Value.int .u32))∧Below w.heap.size w wr) (fun i _=>m - (intOf i).toNat)
 case atStart=>exact⟨0,_,Nat.zero_le _,rfl,filled_len (colL ls 0) 0 n (Nat.zero_le _) (Nat.zero_le _),ho1,hr2,hbw2⟩
 case round =>
  obtain⟨q,ys,hqm,rfl,hyl,hoA,hoB,hbw⟩:=hrel
  clear ho1 hr2 hbw2
  by_cases hlt:q<m
  ·have hqi:(q:Int)<(m:Int):=by omega
   have hqk:(q:Int)<140737488351232:=by have:=HM.out;omega
   have HLT:=hide hlt
   have HOA:=hide hoA
   clear hlt hqm hoA
   generalize wr=wo at *
   go_wp2
   go_loopw [25] (fun i wk=>∃ (k:Nat) (zs:List Int),k≤n∧i=.int .i64 k∧zs.length=n∧(∀ j,j<k→nth zs j=nth (nthL ls j) q)∧wk.ownsRow G 34 1 (.slice (some ⟨G,0,none⟩) n n) n (zs.map (Value.int .u32))∧Below G wo wk) (fun i _=>n - (intOf i).toNat)
   case atStart=>exact⟨0,ys,Nat.zero_le _,rfl,hyl,fun j hj=>absurd hj (by omega),hoB,Below.refl _ _⟩
   case round =>
    obtain⟨k,zs,hkn,rfl,hzl,hzs,hoC,hbk⟩:=hrel
    generalize wr=wk at *
    clear hoB hyl
    by_cases hlk:k<n
    ·obtain⟨b',off',aj,nj,cj,e1,hb',hcj,hclj,hvj⟩:=HV.out k (by rw [HL.out];exact hlk)
     simp only [Option.some.injEq,Addr.mk.injEq,and_true] at e1
     obtain⟨rfl,rfl⟩:=e1
     have hnj:nj=m:=hclj.symm.trans (HLEV.out k (by rw [HL.out];exact hlk))
     subst hnj
     obtain⟨b2,off2,rfl,hb2,hc2⟩:=hvj q (by rw [hclj];exact HLT.out)
     have hbg:Below w.heap.size w wk:=hbw.trans (hbk.mono (by omega))
     have hcr:=(hbg.cell (p:=⟨b,off+k,none⟩) hb').trans hcj
     have hcx:=(hbg.cell (p:=⟨b2,off2+q,none⟩) hb2).trans hc2
     have hd:=hoC.cellAt k (by omega)
     rw [List.getElem?_map,List.getElem?_eq_getElem (by omega)] at hd
     have hf:wk.frozen? ⟨G,k,none⟩=false:=hoC.frozenAt _
     have hs:=own_setAt hoC k (.int .u32 (nth (nthL ls k) q))
     rw [← List.map_set] at hs
     have HS:=hide hs
     have HZ:Hid (∀ j,j<k+1→nth (zs.set k (nth (nthL ls k) q)) j=nth (nthL ls j) q):=fun j hj=>by
      rw [set_nth zs k j _ (by omega)]
      by_cases e:j=k
      ·subst e;rw [if_pos rfl]
      ·rw [if_neg e];exact hzs j (by omega)
     have HZL:Hid ((zs.set k (nth (nthL ls k) q)).length=n):=by show _=_;rw [List.length_set];exact hzl
     have hkm:(k:Int)<140737488351232:=by omega
     have hki:(k:Int)<(n:Int):=by omega
     generalize nth (nthL ls k) q=x at *
     simp only [Option.map_some] at hd
     generalize zs[k]=z at *
     have HB:Hid (Below G wo (wk.setCell ⟨G,k,none⟩ (.int .u32 x))):=hbk.setCell (Nat.le_refl _) _
     have HLK:=hide hlk
     clear hs hoC hzs hc0 hcj hc2 hclj hvj hbg
     go_wp2
     go_roundw
     case rel=>exact⟨k+1,_,HLK.out,by go_num,HZL.out,HZ.out,HS.out,HB.out⟩
     case measure=>simp [intOf];have:=HLK.out;omega
    ·have e:k=n:=by omega
     subst e
     have ez:zs=colL ls q:=same_nth (by rw [colL_len,HL.out,hzl]) (fun j hj=>by rw [hzs j (by omega),colL_at ls q j (by rw [HL.out];omega)])
     subst ez
     have hoA:=own_low HOA.out hbk hs1
     have hbg:Below w.heap.size w wk:=hbw.trans (hbk.mono (by omega))
     have hvw:View .u32 wk (some ⟨G,0,none⟩) (colL ls q):=View.ofRow hoC (by rw [colL_len];exact HL.out)
     have hwi:Within 4294967296 (colL ls q):=col_in HOK.out HLEV.out HLT.out
     obtain⟨d1,d2,d3⟩:=fill_step hoA HLT.out (by rw [eachL_len];exact HLT.out)
     rw [eachL_at op ls m q HLT.out] at d3
     rcases HQ.out with ⟨fn,rfl,hW⟩ | ⟨fn,p,rfl,hW⟩
     ·have hEn:=hW.1
      unfold Enters at hEn
      have hC:Calls Tryz.prog fn #[.slice (some ⟨G,0,none⟩) k k] wk fun e w'=>e=.returned (.int .u32 (wdV op (colL ls q)))∧∃ q,w'=wk.drewN q:=hW.2 (some ⟨G,0,none⟩) k k (colL ls q) wk hbg hvw hwi (by rw [colL_len];exact HL.out) HAR.out
      generalize wdV op (colL ls q)=x at *
      have HD:=hide d3
      have hqi:(q:Int)<(m:Int):=by have:=HLT.out;omega
      clear d3 hoA hvw hwi hW
      go_wp2_with fail
      refine hC.mono ?_
      rintro e w' ⟨rfl,d,rfl⟩
      have e1:(wk.drewN d).cell? ⟨w.heap.size,q,none⟩=some (.int .u32 0):=d1
      have e2:(wk.drewN d).frozen? ⟨w.heap.size,q,none⟩=false:=d2
      have HA:Hid (((wk.drewN d).setCell ⟨w.heap.size,q,none⟩ (.int .u32 x)).ownsRow w.heap.size 34 1 (.slice (some ⟨w.heap.size,0,none⟩) m m) m ((filled (eachL op ls m) (q+1) m).map (Value.int .u32))):=HD.out
      have HB:Hid (((wk.drewN d).setCell ⟨w.heap.size,q,none⟩ (.int .u32 x)).ownsRow G 34 1 (.slice (some ⟨G,0,none⟩) k k) k ((colL ls q).map (Value.int .u32))):=ownsRow_setCell_below (w:=wk.drewN d) hoC (a:=⟨w.heap.size,q,none⟩) (by simpa using hs1) (.int .u32 x)
      have HE:Hid (Below w.heap.size w ((wk.drewN d).setCell ⟨w.heap.size,q,none⟩ (.int .u32 x))):=(bel_drewN hbg d).setCell (Nat.le_refl _) _
      have HCL:Hid ((colL ls q).length=k):=by show _=_;rw [colL_len];exact HL.out
      clear HD hoC hbg hC d1 d2
      go_wp2
      go_roundw
      case rel=>exact⟨q+1,_,HLT.out,by go_num,HCL.out,HA.out,HB.out,HE.out⟩
      case measure=>simp [intOf];have:=HLT.out;omega
     ·have hEn:=hW.1
      unfold Enters at hEn
      have hC:Calls Tryz.prog fn #[.slice (some ⟨G,0,none⟩) k k,.pointer (some ⟨p,0,none⟩)] wk fun e w'=>e=.returned (.int .u32 (wdV op (colL ls q)))∧∃ q,w'=wk.drewN q:=hW.2 (some ⟨G,0,none⟩) k k (colL ls q) wk hbg hvw hwi (by rw [colL_len];exact HL.out) HAR.out
      generalize wdV op (colL ls q)=x at *
      have HD:=hide d3
      have hqi:(q:Int)<(m:Int):=by have:=HLT.out;omega
      clear d3 hoA hvw hwi hW
      go_wp2_with fail
      refine hC.mono ?_
      rintro e w' ⟨rfl,d,rfl⟩
      have e1:(wk.drewN d).cell? ⟨w.heap.size,q,none⟩=some (.int .u32 0):=d1
      have e2:(wk.drewN d).frozen? ⟨w.heap.size,q,none⟩=false:=d2
      have HA:Hid (((wk.drewN d).setCell ⟨w.heap.size,q,none⟩ (.int .u32 x)).ownsRow w.heap.size 34 1 (.slice (some ⟨w.heap.size,0,none⟩) m m) m ((filled (eachL op ls m) (q+1) m).map (Value.int .u32))):=HD.out
      have HB:Hid (((wk.drewN d).setCell ⟨w.heap.size,q,none⟩ (.int .u32 x)).ownsRow G 34 1 (.slice (some ⟨G,0,none⟩) k k) k ((colL ls q).map (Value.int .u32))):=ownsRow_setCell_below (w:=wk.drewN d) hoC (a:=⟨w.heap.size,q,none⟩) (by simpa using hs1) (.int .u32 x)
      have HE:Hid (Below w.heap.size w ((wk.drewN d).setCell ⟨w.heap.size,q,none⟩ (.int .u32 x))):=(bel_drewN hbg d).setCell (Nat.le_refl _) _
      have HCL:Hid ((colL ls q).length=k):=by show _=_;rw [colL_len];exact HL.out
      clear HD hoC hbg hC d1 d2
      go_wp2
      go_roundw
      case rel=>exact⟨q+1,_,HLT.out,by go_num,HCL.out,HA.out,HB.out,HE.out⟩
      case measure=>simp [intOf];have:=HLT.out;omega
  ·have e:q=m:=by omega
   subst e
   rw [filled_whole _ q (eachL_len op ls q)] at hoA
   have HOA:=hide hoA
   have HBW:=hide hbw
   clear hoA hoB hbw hqm hlt
   go_wp2
   go_ret
   exact⟨_,rfl,HOA.out,HBW.out⟩
def twoL (op:Int) (xs ys:List Int) (k m:Nat):List Int:=filled ((List.range m).map fun j=>prX op (nth xs j) (nth ys j)) k m++filled ((List.range m).map fun j=>prY op (nth xs j) (nth ys j)) k m
theorem twoL_zero (op:Int) (xs ys:List Int) (m:Nat):twoL op xs ys 0 m=filled [] 0 (2 * m):=by
 simp [twoL,filled_zero,List.replicate_append_replicate];omega
theorem twoL_step (op:Int) (xs ys:List Int) (k m:Nat) (h:k<m):((twoL op xs ys k m).set k (prX op (nth xs k) (nth ys k))).set (m+k) (prY op (nth xs k) (nth ys k))=twoL op xs ys (k+1) m:=by
 have l1:((List.range m).map fun j=>prX op (nth xs j) (nth ys j)).length=m:=by simp
 have l2:((List.range m).map fun j=>prY op (nth xs j) (nth ys j)).length=m:=by simp
 have x1:nth ((List.range m).map fun j=>prX op (nth xs j) (nth ys j)) k=prX op (nth xs k) (nth ys k):=by simp [nth,List.getD,h]
 have y1:nth ((List.range m).map fun j=>prY op (nth xs j) (nth ys j)) k=prY op (nth xs k) (nth ys k):=by simp [nth,List.getD,h]
 have f1:=filled_len ((List.range m).map fun j=>prX op (nth xs j) (nth ys j)) k m (by omega) (by omega)
 have s1:=filled_set ((List.range m).map fun j=>prX op (nth xs j) (nth ys j)) k m h (by omega)
 have s2:=filled_set ((List.range m).map fun j=>prY op (nth xs j) (nth ys j)) k m h (by omega)
 have f2:=filled_len ((List.range m).map fun j=>prX op (nth xs j) (nth ys j)) (k+1) m (by omega) (by omega)
 rw [x1] at s1
 rw [y1] at s2
 unfold twoL
 rw [List.set_append_left _ _ (by omega),s1,List.set_append_right _ _ (by omega),f2,Nat.add_sub_cancel_left,s2]
theorem twoL_len (op:Int) (xs ys:List Int) (k m:Nat) (h:k≤m):(twoL op xs ys k m).length=2 * m:=by
 rw [twoL,List.length_append,filled_len _ _ _ h (by simp [h]),filled_len _ _ _ h (by simp [h])];omega
def pairL (op:Int) (xs ys:List Int) (m:Nat):List Int:=((List.range m).map fun j=>prX op (nth xs j) (nth ys j))++(List.range m).map fun j=>prY op (nth xs j) (nth ys j)
theorem twoL_whole (op:Int) (xs ys:List Int) (m:Nat):twoL op xs ys m m=pairL op xs ys m:=by
 unfold twoL pairL
 rw [filled_whole _ m (by simp),filled_whole _ m (by simp)]
set_option maxHeartbeats 4000000 in
theorem eachPair_any (op:Int) (fn:Nat) (a b:Option Addr) (m ca cb:Nat) (xs ys:List Int) (w:World) (hq:PairN op fn) (hx:View .u32 w a xs) (hy:View .u32 w b ys) (ix:Within 4294967296 xs) (iy:Within 4294967296 ys) (lx:xs.length=m) (ly:ys.length=m) (hm:4 * (2 * m)≤281474976710656) :
  Calls Tryz.prog 28 #[.func (.func fn) #[] #[],.slice a m ca,.slice b m cb] w fun e w'=>∃ g,e=.returned (.slice (some ⟨g,0,none⟩) (2 * m) (2 * m))∧w'.ownsRow w.heap.size 34 1 (.slice (some ⟨g,0,none⟩) (2 * m) (2 * m)) (2 * m) ((pairL op xs ys m).map (Value.int .u32))∧Below w.heap.size w w':=by
 obtain⟨i0,hi,hz0,hz1,hz2⟩:=info_parts CopyWords.info
 have HM:=hide hm
 have HX:=hide hx
 have HY:=hide hy
 have HIX:=hide ix
 have HIY:=hide iy
 have HLX:=hide lx
 have HLY:=hide ly
 have HC:=hide hq.2
 have hEn:=hq.1
 unfold Enters at hEn
 clear hx hy ix iy lx ly hq
 have e2m:(2:Int) * (m:Int)=((2 * m:Nat):Int):=by omega
 have hw2:IntKind.i64.wrap (2 * (m:Int))=((2 * m:Nat):Int):=by rw [e2m,IntKind.wrap_i64];have:=HM.out;omega
 generalize hM:2 * m=M at *
 go_enter Tryz.func28,Tryz.ntmps28
 go_wp2_with (at_make;refine wpList_make_full _ rfl _ _ 24 rfl w.heap.size 34 i0 (.int .u32 0) 1 Tryz.underlying24 hi hz0 hz1 _ _ _ _ M rfl rfl (by omega) (by omega) (by rw [hz2];omega) (by unfold maxLen;omega) (Nat.le_refl _) ?_)
 intro w1 hown1 hgrow1
 have hb1:Below w.heap.size w w1:=(Below.refl _ w).grown hgrow1 (Nat.le_refl _) (by simp)
 have hr1:=made_row [] hown1
 rw [← hM,← twoL_zero op xs ys m,hM] at hr1
 clear hown1 hgrow1
 go_wp2
 go_loopw [15] (fun i wr=>∃ k:Nat,k≤m∧i=.int .i64 k∧wr.ownsRow w.heap.size 34 1 (.slice (some ⟨w.heap.size,0,none⟩) M M) M ((twoL op xs ys k m).map (Value.int .u32))∧Below w.heap.size w wr) (fun i _=>m - (intOf i).toNat)
 case atStart=>exact⟨0,Nat.zero_le _,rfl,hr1,hb1⟩
 case round =>
  obtain⟨k,hk,rfl,hown,hnx⟩:=hrel
  clear hr1 hb1
  by_cases hlt:k<m
  ·obtain⟨bx,ox,rfl,hbx,hcx⟩:=HX.out k (by rw [HLX.out];exact hlt)
   obtain⟨by_,oy,rfl,hby,hcy⟩:=HY.out k (by rw [HLY.out];exact hlt)
   have ix:=HIX.out.at (k:=k) (by rw [HLX.out];exact hlt)
   have iy:=HIY.out.at (k:=k) (by rw [HLY.out];exact hlt)
   have h1:=(hnx.cell (p:=⟨bx,ox+k,none⟩) hbx).trans hcx
   have h2:=(hnx.cell (p:=⟨by_,oy+k,none⟩) hby).trans hcy
   have hC:=fun W=>HC.out (nth xs k) (nth ys k) W ix.1 ix.2 iy.1 iy.2
   have hlen:=twoL_len op xs ys k m hk
   have hd1:=hown.cellAt k (by omega)
   rw [List.getElem?_map,List.getElem?_eq_getElem (by omega)] at hd1
   have hd2:=hown.cellAt (m+k) (by omega)
   rw [List.getElem?_map,List.getElem?_eq_getElem (by omega)] at hd2
   simp only [Option.map_some] at hd1 hd2
   have hf1:wr.frozen? ⟨w.heap.size,k,none⟩=false:=hown.frozenAt _
   have hf2:wr.frozen? ⟨w.heap.size,m+k,none⟩=false:=hown.frozenAt _
   have hs:=own_setAt (own_setAt hown k (.int .u32 (prX op (nth xs k) (nth ys k)))) (m+k) (.int .u32 (prY op (nth xs k) (nth ys k)))
   rw [← List.map_set,← List.map_set,twoL_step op xs ys k m hlt] at hs
   have hne:k≠m+k:=by omega
   have hd3:(wr.setCell ⟨w.heap.size,k,none⟩ (.int .u32 (prX op (nth xs k) (nth ys k)))).cell? ⟨w.heap.size,m+k,none⟩=some (.int .u32 (twoL op xs ys k m)[m+k]):=by
    have h:=(own_setAt hown k (.int .u32 (prX op (nth xs k) (nth ys k)))).cellAt (m+k) (by omega)
    rw [List.getElem?_set_ne (by omega),List.getElem?_map,List.getElem?_eq_getElem (by omega)] at h
    exact h
   have hf3:(wr.setCell ⟨w.heap.size,k,none⟩ (.int .u32 (prX op (nth xs k) (nth ys k)))).frozen? ⟨w.heap.size,m+k,none⟩=false:=(own_setAt hown k (.int .u32 (prX op (nth xs k) (nth ys k)))).frozenAt _
   have HS:=hide hs
   have HB:Hid (Below w.heap.size w ((wr.setCell ⟨w.heap.size,k,none⟩ (.int .u32 (prX op (nth xs k) (nth ys k)))).setCell ⟨w.heap.size,m+k,none⟩ (.int .u32 (prY op (nth xs k) (nth ys k))))):=(hnx.setCell (Nat.le_refl _) _).setCell (Nat.le_refl _) _
   have HLT:=hide hlt
   have hki:(k:Int)<(m:Int):=by omega
   have hk0:(0:Int)≤(k:Int):=by omega
   have hkM:(k:Int)<(M:Int):=by omega
   have hmk:(m:Int)+(k:Int)=((m+k:Nat):Int):=by omega
   have hwmk:IntKind.i64.wrap ((m:Int)+(k:Int))=((m+k:Nat):Int):=by rw [hmk,IntKind.wrap_i64];have:=HM.out;omega
   have hmkM:((m+k:Nat):Int)<(M:Int):=by omega
   have hmk0:(0:Int)≤((m+k:Nat):Int):=by omega
   generalize (twoL op xs ys k m)[k]=z1 at *
   generalize (twoL op xs ys k m)[m+k]=z2 at *
   generalize prX op (nth xs k) (nth ys k)=p1 at *
   generalize prY op (nth xs k) (nth ys k)=p2 at *
   generalize nth xs k=x at *
   generalize nth ys k=y at *
   clear hs hown hcx hcy hlt hk hnx hlen hmk
   generalize hmk:m+k=mk at *
   clear hmk
   go_wp2
   go_region_with (refine (hC _).mono ?_;rintro e w' ⟨rfl,rfl⟩)
   all_goals
    go_wp2
    go_roundw
    case rel=>exact⟨k+1,HLT.out,by go_num,by first | exact HS.out.drew | exact HS.out,by first | exact HB.out.drew | exact HB.out⟩
    case measure=>simp [intOf];have:=HLT.out;omega
  ·have e:k=m:=by omega
   subst e
   rw [twoL_whole] at hown
   have HO:=hide hown
   have HB:=hide hnx
   clear hown hnx hk hlt
   go_wp2
   go_ret
   exact⟨_,rfl,HO.out,HB.out⟩
def lfL (op:Int) (ls:List (List Int)):List Int :=
 if op=154∨op=155 then [rowV op (nthL ls 0)] else if prB op=true then pairL op (nthL ls 0) (nthL ls 1) (nthL ls 0).length else eachL op ls (nthL ls 0).length
theorem pr_in (op:Int):prB op=decide (149≤op∧op≤152):=by
 unfold prB
 by_cases h:149≤op∧op≤152
 ·rw [decide_eq_true h];simp;omega
 ·rw [decide_eq_false h];simp;omega
theorem ar_pr (op:Int) (h:prB op=true):arV op=2:=by
 rw [pr_in] at h
 have h':149≤op∧op≤152:=by simpa using h
 have:op=149∨op=150∨op=151∨op=152:=by omega
 rcases this with h | h | h | h <;> subst h <;> decide +kernel
theorem ar_row (op:Int) (h:op=154∨op=155):arV op=1:=by
 rcases h with h | h <;> subst h <;> decide +kernel
theorem ar_some (op:Int) (h:arV op≠0) (h1:¬ (op=154∨op=155)) (h2:prB op=false):binB op=true∨unB op=true∨moB op=true:=by
 unfold arV at h
 by_cases a:unB op=true
 ·exact .inr (.inl a)
 by_cases b:binB op=true
 ·exact .inl b
 rw [if_neg (by rintro (c | c | c);exact a c;exact h1 (.inl c);exact h1 (.inr c)),if_neg (by rintro (c | c);exact b c;rw [h2] at c;cases c)] at h
 refine .inr (.inr ?_)
 unfold moB
 by_cases c:op=169∨op=202∨op=203
 ·simp;omega
 ·rw [if_neg c] at h
  by_cases d:op=201
  ·simp [d]
  ·rw [if_neg d] at h;exact absurd rfl h
theorem ar_most (op:Int):arV op≤4:=by unfold arV;split;omega;split;omega;split;omega;split;omega;omega
theorem lev_len {ls:List (List Int)} (h:levB ls=true):∀ j,j<ls.length→(nthL ls j).length=(nthL ls 0).length:=by
 intro j hj
 have h1:=levTo_down ls (ls.length - (j+1)) (j+1) (by rw [show j+1+(ls.length - (j+1))=ls.length by omega];exact h)
 rw [levTo,Bool.and_eq_true] at h1
 simpa using h1.2
theorem own_one13 (w1:World) (lo T:Nat) (v:Value) (h:lo≤w1.heap.size):(w1.alloc (.cells #[v] T)).ownsRow lo T 1 (.slice (some ⟨w1.heap.size,0,none⟩) 1 1) 1 [v] :=
 ⟨rfl,.inr ⟨w1.heap.size,1,#[v],rfl,h,heap_alloc_new w1 (.cells #[v] T),Nat.le_refl _,by unfold maxLen;omega,by first | rfl | simp,by first | rfl | simp⟩⟩
set_option maxHeartbeats 4000000 in
theorem lifted_row (op:Int) (a:Option Addr) (n c:Nat) (ls:List (List Int)) (w:World) (h0:0≤op) (h1:op<65536) (hop:op=154∨op=155) (hv:ListsV w a ls) (hok:ListsOk ls) (hl:ls.length=n) (har:(n:Int)=arV op) :
  Calls Tryz.prog 17 #[.int .u16 op,.slice a n c] w fun e w'=>∃ g,e=.returned (.slice (some ⟨g,0,none⟩) 1 1)∧w'.ownsRow w.heap.size 34 1 (.slice (some ⟨g,0,none⟩) 1 1) 1 ([rowV op (nthL ls 0)].map (Value.int .u32))∧Below w.heap.size w w':=by
 rw [ar_row op hop] at har
 obtain⟨b,off,a0,n0,c0,rfl,hb,hc0,hcl0,hv0⟩:=hv 0 (by omega)
 rw [Nat.add_zero] at hc0
 have ho0:=hok 0 (by omega)
 have hN:n=1:=by omega
 subst hN
 have d0:decide (154≤op∧op≤155)=true:=by simp;omega
 have hO:=ofRow_any op w.drew h0 h1
 have hc0d:w.drew.cell? ⟨b,off,none⟩=some (.slice a0 n0 c0):=hc0
 have hv0d:View .u32 w.drew a0 (nthL ls 0):=hv0.below ((Below.refl _ w).drew)
 have hC:∃ f,ofRowV op=.func (.func f) #[] #[]∧(∀ (args:Array Value) (w:World),(callFunc f args).run Tryz.prog w=.ok (.enter f args) w)∧∀ W,View .u32 W a0 (nthL ls 0)→Calls Tryz.prog f #[.slice a0 n0 c0] W fun e w'=>e=.returned (.int .u32 (rowV op (nthL ls 0)))∧W=w':=by
  rcases hop with h | h
  ·subst h
   exact⟨35,rfl,Tryz.call35,fun W hW=>ofRow1_any a0 n0 c0 (nthL ls 0) W hW ho0.1 hcl0 (by rw [← hcl0];exact ho0.2)⟩
  ·subst h
   exact⟨38,rfl,Tryz.call38,fun W hW=>ofRow2_any a0 n0 c0 (nthL ls 0) W hW ho0.1 hcl0 (by rw [← hcl0];exact ho0.2)⟩
 obtain⟨f,e1,hEn,hC⟩:=hC
 rw [e1] at hO
 clear e1 hv hok har hl ho0
 generalize rowV op (nthL ls 0)=X at *
 go_enter Tryz.func17,Tryz.ntmps17
 go_wp2_with (go_at_call 25;refine (within_any _ _ _ _).mono ?_;rintro e w' ⟨rfl,rfl⟩;first | rw [d0])
 go_region_with (first
  | (go_at_call 27;refine hO.mono ?_;rintro e w1 ⟨rfl,hb1⟩;have hc1:=(hb1.cell (p:=⟨b,off,none⟩) hb).trans hc0d;have hv1:=hv0d.below hb1)
  | (refine (hC _ (by assumption)).mono ?_;rintro e w2 ⟨rfl,rfl⟩))
 all_goals
  go_wp2
  go_ret
  exact⟨_,rfl,own_one13 _ _ _ _ (Nat.le_trans (Nat.le_refl w.heap.size) hb1.size),Below.alloc (((Below.refl _ w).drew).trans hb1) hb1.size _⟩
set_option maxHeartbeats 4000000 in
theorem lifted_pair (op:Int) (a:Option Addr) (n c:Nat) (ls:List (List Int)) (w:World) (h0:0≤op) (h1:op<65536) (hop:prB op=true) (hv:ListsV w a ls) (hok:ListsOk ls) (hl:ls.length=n) (har:(n:Int)=arV op) (hlev:levB ls=true) :
  Calls Tryz.prog 17 #[.int .u16 op,.slice a n c] w fun e w'=>∃ g,e=.returned (.slice (some ⟨g,0,none⟩) (2 * (nthL ls 0).length) (2 * (nthL ls 0).length))∧w'.ownsRow w.heap.size 34 1 (.slice (some ⟨g,0,none⟩) (2 * (nthL ls 0).length) (2 * (nthL ls 0).length)) (2 * (nthL ls 0).length) ((pairL op (nthL ls 0) (nthL ls 1) (nthL ls 0).length).map (Value.int .u32))∧Below w.heap.size w w':=by
 rw [ar_pr op hop] at har
 have hN:n=2:=by omega
 subst hN
 obtain⟨b,off,a0,n0,c0,rfl,hb,hc0,hcl0,hv0⟩:=hv 0 (by omega)
 obtain⟨b',off',a1,n1,c1,e1,_,hc1,hcl1,hv1⟩:=hv 1 (by omega)
 simp only [Option.some.injEq,Addr.mk.injEq,and_true] at e1
 obtain⟨rfl,rfl⟩:=e1
 rw [Nat.add_zero] at hc0
 have ho0:=hok 0 (by omega)
 have ho1:=hok 1 (by omega)
 have hm:=ho0.2
 have hle:=lev_len hlev 1 (by omega)
 have hp:149≤op∧op≤152:=by rw [pr_in] at hop;simpa using hop
 have d0:decide (154≤op∧op≤155)=false:=by simp;omega
 have d1:decide (149≤op∧op≤152)=true:=by simp;omega
 have hO:=ofPair_any op w.drew h0 h1
 have hc0d:w.drew.cell? ⟨b,off,none⟩=some (.slice a0 n0 c0):=hc0
 have hc1d:w.drew.cell? ⟨b,off+1,none⟩=some (.slice a1 n1 c1):=hc1
 have hv0d:View .u32 w.drew a0 (nthL ls 0):=hv0.below ((Below.refl _ w).drew)
 have hv1d:View .u32 w.drew a1 (nthL ls 1):=hv1.below ((Below.refl _ w).drew)
 rcases ofPairV_q op with ⟨q1,_⟩ | ⟨f,q1,q2,q3⟩
 ·rw [q1] at hop;cases hop
 rw [q1] at hO
 have hn1:n1=n0:=by rw [← hcl1,hle,hcl0]
 subst hn1
 rw [hcl0] at hm ⊢
 have hC:=fun W hW0 hW1=>eachPair_any op f a0 a1 n1 c0 c1 (nthL ls 0) (nthL ls 1) W q3 hW0 hW1 ho0.1 ho1.1 hcl0 hcl1 (by omega)
 clear hv hok har hl ho0 ho1 hlev hle hcl0 hcl1 hm q1 q2 q3 hop hp
 generalize pairL op (nthL ls 0) (nthL ls 1) n1=Z at *
 generalize nthL ls 0=xs at *
 generalize nthL ls 1=ys at *
 generalize 2 * n1=M at *
 go_enter Tryz.func17,Tryz.ntmps17
 go_wp2_with (go_at_call 25;refine (within_any _ _ _ _).mono ?_;rintro e w' ⟨rfl,rfl⟩;first | rw [d0] | rw [d1])
 go_region_with (first
  | (go_at_call 29;refine hO.mono ?_;rintro e w1 ⟨rfl,hb1⟩;have hc0e:=(hb1.cell (p:=⟨b,off,none⟩) hb).trans hc0d;have hc1e:=(hb1.cell (p:=⟨b,off+1,none⟩) hb).trans hc1d;have hv0e:=hv0d.below hb1;have hv1e:=hv1d.below hb1)
  | (go_at_call 28;refine (hC _ (by assumption) (by assumption)).mono ?_;rintro e w2 ⟨g,rfl,hown,hb2⟩))
 all_goals
  go_wp2
  go_ret
  exact⟨_,rfl,own_base hown (Nat.le_trans (Nat.le_refl w.heap.size) hb1.size),Below.trans (((Below.refl _ w).drew).trans hb1) (hb2.mono hb1.size)⟩
set_option maxHeartbeats 4000000 in
theorem lifted_each (op:Int) (a:Option Addr) (n c:Nat) (ls:List (List Int)) (w:World) (h0:0≤op) (h1:op<65536) (hr:¬ (op=154∨op=155)) (hop:prB op=false) (hv:ListsV w a ls) (hok:ListsOk ls) (hl:ls.length=n) (hn0:0<n) (har:(n:Int)=arV op) (hlev:levB ls=true) :
  Calls Tryz.prog 17 #[.int .u16 op,.slice a n c] w fun e w'=>∃ g,e=.returned (.slice (some ⟨g,0,none⟩) (nthL ls 0).length (nthL ls 0).length)∧w'.ownsRow w.heap.size 34 1 (.slice (some ⟨g,0,none⟩) (nthL ls 0).length (nthL ls 0).length) (nthL ls 0).length ((eachL op ls (nthL ls 0).length).map (Value.int .u32))∧Below w.heap.size w w':=by
 have d0:decide (154≤op∧op≤155)=false:=by simp;omega
 have d1:decide (149≤op∧op≤152)=false:=by rw [← pr_in];exact hop
 have hs:=ar_some op (by omega) hr hop
 have hO:=ofWords_any op w h0 h1 hs
 have hC:=fun (v:Value) (w1:World) (hq:WdQ op v w1) (hb:Below w.heap.size w w1)=>each_any op v a n c (nthL ls 0).length ls w1 hq (hv.below hb) hok hl hn0 (by have:=ar_most op;omega) har (fun j hj=>lev_len hlev j hj) (hok 0 (by omega)).2
 clear hv hok hl har hlev hs hop hr
 generalize (eachL op ls (nthL ls 0).length)=Z at *
 generalize (nthL ls 0).length=M at *
 go_enter Tryz.func17,Tryz.ntmps17
 go_wp2_with (go_at_call 25;refine (within_any _ _ _ _).mono ?_;rintro e w' ⟨rfl,rfl⟩;first | rw [d0] | rw [d1])
 refine hO.mono ?_
 rintro e w1 ⟨v,rfl,hq,hb1⟩
 have hC1:=hC v w1 hq hb1
 clear hC hq hO
 go_wp2_with fail
 refine hC1.mono ?_
 rintro e w2 ⟨g,rfl,hown,hb2⟩
 go_wp2
 go_ret
 exact⟨_,rfl,own_base hown hb1.size,hb1.trans (hb2.mono hb1.size)⟩
theorem lfL_pair_len (op:Int) (xs ys:List Int) (m:Nat):(pairL op xs ys m).length=2 * m:=by simp [pairL];omega
theorem lifted_any (op:Int) (a:Option Addr) (n c:Nat) (ls:List (List Int)) (w:World) (h0:0≤op) (h1:op<65536) (hv:ListsV w a ls) (hok:ListsOk ls) (hl:ls.length=n) (hn0:0<n) (har:(n:Int)=arV op) (hlev:levB ls=true) :
  Calls Tryz.prog 17 #[.int .u16 op,.slice a n c] w fun e w'=>∃ g,e=.returned (.slice (some ⟨g,0,none⟩) (lfL op ls).length (lfL op ls).length)∧w'.ownsRow w.heap.size 34 1 (.slice (some ⟨g,0,none⟩) (lfL op ls).length (lfL op ls).length) (lfL op ls).length ((lfL op ls).map (Value.int .u32))∧Below w.heap.size w w':=by
 by_cases hr:op=154∨op=155
 ·have e:lfL op ls=[rowV op (nthL ls 0)]:=by unfold lfL;rw [if_pos hr]
  rw [e]
  exact lifted_row op a n c ls w h0 h1 hr hv hok hl har
 ·by_cases hp:prB op=true
  ·have e:lfL op ls=pairL op (nthL ls 0) (nthL ls 1) (nthL ls 0).length:=by unfold lfL;rw [if_neg hr,if_pos hp]
   rw [e,lfL_pair_len]
   exact lifted_pair op a n c ls w h0 h1 hp hv hok hl har hlev
  ·have e:lfL op ls=eachL op ls (nthL ls 0).length:=by unfold lfL;rw [if_neg hr,if_neg hp]
   rw [e,eachL_len]
   exact lifted_each op a n c ls w h0 h1 hr (by simpa using hp) hv hok hl hn0 har hlev
def lfB (op:Int) (ls:List (List Int)):Bool:=decide (arV op≠0) && (decide ((ls.length:Int)=arV op) && levB ls)
set_option maxHeartbeats 4000000 in
theorem lift_any (op:Int) (a:Option Addr) (n c:Nat) (ls:List (List Int)) (w:World) (h0:0≤op) (h1:op<65536) (hv:ListsV w a ls) (hok:ListsOk ls) (hl:ls.length=n) (hn:24 * n≤140737488351232) :
  Calls Tryz.prog 6 #[.int .u16 op,.slice a n c] w fun e w'=>Below w.heap.size w w'∧((lfB op ls=false∧e=.returned (.tuple #[.slice none 0 0,.int .i64 2]))∨(lfB op ls=true∧∃ g,e=.returned (.tuple #[.slice (some ⟨g,0,none⟩) (lfL op ls).length (lfL op ls).length,.int .i64 0])∧w'.ownsRow w.heap.size 34 1 (.slice (some ⟨g,0,none⟩) (lfL op ls).length (lfL op ls).length) (lfL op ls).length ((lfL op ls).map (Value.int .u32)))):=by
 have hA:=arity_any op w
 by_cases e0:arV op=0
 ·have HF:lfB op ls=false:=by unfold lfB;rw [e0];rfl
  rw [e0] at hA
  rw [HF]
  clear hv hok e0 HF
  go_enter Tryz.func6,Tryz.ntmps6
  go_wp2_with fail
  refine hA.mono ?_
  rintro e w1 ⟨rfl,hb1⟩
  go_wp2
  go_ret2
  exact⟨hb1,.inl ⟨trivial,rfl⟩⟩
 by_cases e1:(n:Int)=arV op
 ·have hL:=fun (w1:World) (hb:Below w.heap.size w w1)=>level_any a n c ls w1 (hv.below hb) hl hn
  cases e2:levB ls
  ·have HF:lfB op ls=false:=by unfold lfB;rw [e2];simp
   rw [HF]
   rw [e2] at hL
   rw [← e1] at hA e0
   clear hv hok HF e1 e2
   go_enter Tryz.func6,Tryz.ntmps6
   go_wp2_with fail
   refine hA.mono ?_
   rintro e w1 ⟨rfl,hb1⟩
   have hL1:=hL w1 hb1
   clear hL
   go_wp2_with fail
   refine hL1.mono ?_
   rintro e w2 ⟨rfl,rfl⟩
   go_wp2
   go_ret2
   exact⟨hb1,.inl ⟨trivial,rfl⟩⟩
  ·have HF:lfB op ls=true:=by unfold lfB;rw [e2,hl];simp [e0,e1]
   have hC:=fun (w1:World) (hb:Below w.heap.size w w1)=>lifted_any op a n c ls w1 h0 h1 (hv.below hb) hok hl (by omega) e1 e2
   rw [HF]
   rw [e2] at hL
   rw [← e1] at hA e0
   clear hv hok HF e1 e2
   generalize lfL op ls=Z at *
   go_enter Tryz.func6,Tryz.ntmps6
   go_wp2_with fail
   refine hA.mono ?_
   rintro e w1 ⟨rfl,hb1⟩
   have hL1:=hL w1 hb1
   have hC1:=hC w1 hb1
   clear hL hC
   go_wp2_with fail
   refine hL1.mono ?_
   rintro e w2 ⟨rfl,rfl⟩
   go_wp2_with fail
   refine hC1.mono ?_
   rintro e w2 ⟨g,rfl,hown,hb2⟩
   go_wp2
   go_ret2
   exact⟨hb1.trans (hb2.mono hb1.size),.inr ⟨trivial,_,rfl,own_base hown hb1.size⟩⟩
 ·have HF:lfB op ls=false:=by unfold lfB;rw [hl,decide_eq_false e1];simp
  rw [HF]
  generalize arV op=N at *
  clear hv hok HF
  go_enter Tryz.func6,Tryz.ntmps6
  go_wp2_with fail
  refine hA.mono ?_
  rintro e w1 ⟨rfl,hb1⟩
  go_wp2
  go_ret2
  exact⟨hb1,.inl ⟨trivial,rfl⟩⟩
end Go.Proofs.YtonhnflilfjkbaaGreat
namespace Go.Proofs.YtonhnflilfjkbaaGreat
open Go.RowKit
def setAll (cs:Array Value):Nat→List Value→Array Value
 | _,[]=>cs
 | i,v :: vs=>setAll (cs.setIfInBounds i v) (i+1) vs
theorem setCells_grown (b:Nat):∀ (vs:List Value) (i:Nat) (w:World),w.grownBy (w.setCells b i vs) (some b)
 | [],_,_=>⟨rfl,rfl,rfl,Nat.le_refl _,fun _ _ _=>rfl⟩
 | v :: vs,i,w=>by
  have h:=setCells_grown b vs (i+1) (w.setCell ⟨b,i,none⟩ v)
  refine⟨h.os,h.tape,h.output,?_,fun k hk hn=>?_⟩
  ·have:=h.size;rw [World.size_setCell] at this;exact this
  ·refine (h.block k (by rw [World.size_setCell];exact hk) hn).trans ?_
   exact Below.heap_setCell _ _ _ _ (by intro e;exact hn (by rw [e]))
theorem setCells_block {b t:Nat} {fr:Nat×Nat}:∀ (vs:List Value) (i:Nat) (w:World) (cs:Array Value),w.heap[b]?=some (.cells cs t fr)→(w.setCells b i vs).heap[b]?=some (.cells (setAll cs i vs) t fr)
 | [],_,_,_,h=>h
 | v :: vs,i,w,cs,h=>setCells_block vs (i+1) _ _ (by simp [World.setCell,Array.getElem?_modify,h])
theorem setAll_at:∀ (vs:List Value) (i j:Nat) (cs:Array Value),i+vs.length≤cs.size→(setAll cs i vs)[j]?=if i≤j∧j<i+vs.length then vs[j - i]? else cs[j]?
 | [],i,j,cs,_=>by rw [if_neg (by simp only [List.length_nil];omega)];rfl
 | v :: vs,i,j,cs,h=>by
  simp only [List.length_cons] at h ⊢
  rw [setAll,setAll_at vs (i+1) j _ (by simp;omega)]
  by_cases e:j=i
  ·subst e
   rw [if_neg (by omega),if_pos (by omega),Array.getElem?_setIfInBounds_self_of_lt (by omega)];simp
  ·by_cases h1:i+1≤j∧j<i+1+vs.length
   ·rw [if_pos h1,if_pos (by omega),show j - i=(j - (i+1))+1 by omega];simp
   ·rw [if_neg h1,if_neg (by omega),Array.getElem?_setIfInBounds_ne (fun e2=>e e2.symm)]
theorem setCells_all {b t:Nat} {fr:Nat×Nat} {w:World} {cs:Array Value} (vs:List Value) (h:w.heap[b]?=some (.cells cs t fr)) (hs:cs.size=vs.length):(w.setCells b 0 vs).heap[b]?=some (.cells vs.toArray t fr):=by
 rw [setCells_block vs 0 w cs h]
 have e:setAll cs 0 vs=vs.toArray:=by
  apply Array.ext'
  apply List.ext_getElem?
  intro j
  have:=setAll_at vs 0 j cs (by omega)
  rw [Array.getElem?_toList,this]
  by_cases hj:j<vs.length
  ·rw [if_pos (by omega)];simp
  ·rw [if_neg (by omega),Array.getElem?_eq_none (by omega)];simp;omega
 rw [e]
set_option linter.unusedVariables false
set_option linter.unusedSimpArgs false
set_option maxRecDepth 10000
def arr32 (f:Nat→Int):List Value:=(List.range 32).map fun k=>.int .u32 (f k)
theorem arr32_len (f:Nat→Int):(arr32 f).length=32:=by simp [arr32]
theorem arr32_get (f:Nat→Int) (k:Nat) (h:k<32):(arr32 f)[k]?=some (.int .u32 (f k)):=by simp [arr32,h]
theorem arr32_congr {f g:Nat→Int} (h:∀ k,k<32→f k=g k):arr32 f=arr32 g:=by
 unfold arr32
 apply List.map_congr_left
 intro k hk
 rw [h k (by simpa using hk)]
theorem arr32_set (f:Nat→Int) (k:Nat) (v:Int) (h:k<32):(arr32 f).set k (.int .u32 v)=arr32 (fun j=>if j=k then v else f j):=by
 apply List.ext_getElem?
 intro j
 by_cases hj:j<32
 ·rw [List.getElem?_set,arr32_get _ j hj,arr32_get _ j hj,arr32_len]
  by_cases e:k=j
  ·subst e;simp [h]
  ·have e':¬ j=k:=fun x=>e x.symm
   simp [e,e']
 ·rw [List.getElem?_eq_none (by rw [List.length_set,arr32_len];omega),List.getElem?_eq_none (by rw [arr32_len];omega)]
def ArrB (w:World) (b:Nat) (f:Nat→Int):Prop:=w.heap[b]?=some (.cells (arr32 f).toArray 44 (0,0))
theorem ArrB.lt {w:World} {b:Nat} {f:Nat→Int} (h:ArrB w b f):b<w.heap.size:=(Array.getElem?_eq_some_iff.1 h).1
theorem ArrB.cell {w:World} {b:Nat} {f:Nat→Int} (h:ArrB w b f) (k:Nat) (hk:k<32):w.cell? ⟨b,k,none⟩=some (.int .u32 (f k)):=by
 unfold ArrB at h
 simp [World.cell?,h,arr32_get f k hk]
theorem ArrB.frozen {w:World} {b:Nat} {f:Nat→Int} (h:ArrB w b f) (k:Nat):w.frozen? ⟨b,k,none⟩=false:=by
 unfold ArrB at h
 simp [World.frozen?,h]
theorem ArrB.congr {w:World} {b:Nat} {f g:Nat→Int} (h:ArrB w b f) (e:∀ k,k<32→f k=g k):ArrB w b g:=by
 unfold ArrB at h ⊢
 rw [h,arr32_congr e]
theorem ArrB.below {w w':World} {b:Nat} {f:Nat→Int} (h:ArrB w b f) (hb:Below w.heap.size w w'):ArrB w' b f:=by
 have:=h.lt
 unfold ArrB at h ⊢
 rw [hb.block b this,h]
theorem ArrB.other {w w':World} {b:Nat} {f:Nat→Int} (h:ArrB w b f) (hb:w'.heap[b]?=w.heap[b]?):ArrB w' b f:=by
 unfold ArrB at h ⊢
 rw [hb,h]
theorem ArrB.set {w:World} {b:Nat} {f:Nat→Int} (h:ArrB w b f) (k:Nat) (hk:k<32) (v:Int):ArrB (w.setCell ⟨b,k,none⟩ (.int .u32 v)) b (fun j=>if j=k then v else f j):=by
 have hlt:=h.lt
 unfold ArrB at h ⊢
 simp only [World.setCell,Array.getElem?_modify]
 rw [if_pos trivial,h,← arr32_set f k v hk]
 simp
theorem ArrB.range {w:World} {b:Nat} {f:Nat→Int} (h:ArrB w b f):w.rangeAt b 0 (arr32 f):=fun j v hv=>by
 have hj:j<32:=by
  have:=(List.getElem?_eq_some_iff.1 hv).1
  rwa [arr32_len] at this
 rw [arr32_get f j hj] at hv
 rw [Nat.zero_add,h.cell j hj,hv]
theorem ArrB.there {w:World} {b:Nat} {f:Nat→Int} (h:ArrB w b f):w.there b 0 32:=fun j hj=>by
 rw [Nat.zero_add,h.cell j hj,h.frozen j];simp
theorem arr32_zero:(arr32 fun _=>0).toArray=#[.int .u32 0,.int .u32 0,.int .u32 0,.int .u32 0,.int .u32 0,.int .u32 0,.int .u32 0,.int .u32 0,.int .u32 0,.int .u32 0,.int .u32 0,.int .u32 0,.int .u32 0,.int .u32 0,.int .u32 0,.int .u32 0,.int .u32 0,.int .u32 0,.int .u32 0,.int .u32 0,.int .u32 0,.int .u32 0,.int .u32 0,.int .u32 0,.int .u32 0,.int .u32 0,.int .u32 0,.int .u32 0,.int .u32 0,.int .u32 0,.int .u32 0,.int .u32 0]:=rfl
theorem ArrB.new (w:World) (f:Nat→Int):ArrB (w.alloc (.cells (arr32 f).toArray 44)) w.heap.size f:=by
 unfold ArrB
 show (w.heap.push _)[w.heap.size]?=_
 rw [Array.getElem?_push_size]
theorem ArrB.two (w:World):ArrB ((w.alloc (.cells (arr32 fun _=>0).toArray 44)).alloc (.cells (arr32 fun _=>0).toArray 44)) w.heap.size (fun _=>0)∧ArrB ((w.alloc (.cells (arr32 fun _=>0).toArray 44)).alloc (.cells (arr32 fun _=>0).toArray 44)) (w.heap.size+1) (fun _=>0):=by
 constructor
 ·exact (ArrB.new w _).below ((Below.refl _ _).alloc (Nat.le_refl _) _)
 ·have:=ArrB.new (w.alloc (.cells (arr32 fun _=>0).toArray 44)) (fun _=>0)
  rwa [World.size_alloc] at this
theorem below_two (w:World) (o p:Obj):Below w.heap.size w ((w.alloc o).alloc p):=((Below.refl _ w).alloc (Nat.le_refl _) o).alloc (by simp) p
theorem arr32_one (f:Nat→Int):(arr32 f).toArray.all (·.oneCell')=true:=all_oneCell_toArray fun v hv=>by
 unfold arr32 at hv
 obtain⟨k,_,rfl⟩:=List.mem_map.1 hv
 rfl
theorem info32:(Tryz.prog.info? 44).map (·.size)=some 32:=by kernel_rfl
theorem ArrB.loadVar {w:World} {b:Nat} {f:Nat→Int} (h:ArrB w b f):(loadVar 44 ⟨b,0,none⟩).run Tryz.prog w=.ok (.agg (arr32 f).toArray) w :=
 run_loadVar_mid w b 0 _ (arr32 f) _ h.range Tryz.underlying44 rfl (by rw [arr32_len];exact info32)
theorem ArrB.stored {w:World} {b:Nat} {f:Nat→Int} (h:ArrB w b f) (g:Nat→Int):ArrB (w.setCells b 0 (arr32 g)) b g:=by
 unfold ArrB at h ⊢
 exact setCells_all (arr32 g) h (by rw [List.size_toArray,arr32_len,arr32_len])
theorem below_stored {W w:World} {N b:Nat} (hb:Below N W w) (hW:N≤W.heap.size) (hN:N≤b) (vs:List Value):Below N W (w.setCells b 0 vs) :=
 hb.grown (setCells_grown b vs 0 w) (Nat.le_trans hW hb.size) (fun k e=>by cases e;exact hN)
section
variable {w : World} {ops : Array Oper} {rest : List Oper} {o : Oper} {a : Act} {Q : Exit → Act → World → Prop}
theorem wpList_load32 (hg:o.guard=none) (x:Operand) (ho:o.op=.load 44 x) (b:Nat) (f:Nat→Int) (hx:a.eval x=.pointer (some ⟨b,0,none⟩)) (h:ArrB w b f)
  (hK:wpList Tryz.prog ops Q rest (a.put o.dst (.agg (arr32 f).toArray)) w):wpList Tryz.prog ops Q (o :: rest) a w :=
 wpList_load_mid hg _ x ho b 0 hx (arr32 f) _ h.range Tryz.underlying44 rfl (by rw [arr32_len];exact info32) hK
theorem wpList_store32 (hg:o.guard=none) (x y:Operand) (ho:o.op=.store 44 x y) (b:Nat) (f g:Nat→Int) (hx:a.eval x=.pointer (some ⟨b,0,none⟩)) (hy:a.eval y=.agg (arr32 g).toArray) (h:ArrB w b f)
  (hK:wpList Tryz.prog ops Q rest (a.put o.dst undef) (w.setCells b 0 (arr32 g))):wpList Tryz.prog ops Q (o :: rest) a w :=
 wpList_store_mid hg _ x y ho b 0 (arr32 g).toArray hx hy (by rw [List.size_toArray,arr32_len];exact h.there) (by rw [List.size_toArray,arr32_len];exact info32) (arr32_one g) hK
theorem wpList_load32A (hg:o.guard=none) (x:Operand) (ho:o.op=.load 44 x) (b:Nat) (f:Nat→Int) (hx:a.eval x=.pointer (some ⟨b,0,none⟩)) (h:ArrB w b f)
  (hK:∀ AR,(arr32 f).toArray=AR→wpList Tryz.prog ops Q rest (a.put o.dst (.agg AR)) w):wpList Tryz.prog ops Q (o :: rest) a w :=
 wpList_load32 hg x ho b f hx h (hK _ rfl)
theorem wpList_store32A (hg:o.guard=none) (x y:Operand) (ho:o.op=.store 44 x y) (b:Nat) (f g:Nat→Int) (AR:Array Value) (hx:a.eval x=.pointer (some ⟨b,0,none⟩)) (hy:a.eval y=.agg AR) (hAR:(arr32 g).toArray=AR) (h:ArrB w b f)
  (hK:∀ w',ArrB w' b g→w.grownBy w' (some b)→wpList Tryz.prog ops Q rest (a.put o.dst undef) w'):wpList Tryz.prog ops Q (o :: rest) a w :=
 wpList_store32 hg x y ho b f g hx (by rw [hy,hAR]) h (hK _ (h.stored g) (setCells_grown b (arr32 g) 0 w))
end
set_option maxHeartbeats 4000000 in
theorem refBits_any (a:Int) (w:World) (a0:0≤a) (a1:a<4294967296):Calls Tryz.prog 18 #[.int .u32 a] w fun e w'=>e=.returned (.agg (arr32 (bt a)).toArray)∧Below w.heap.size w w':=by
 have hA:=ArrB.two w
 have hB:=below_two w (.cells (arr32 fun _=>0).toArray 44) (.cells (arr32 fun _=>0).toArray 44)
 rw [arr32_zero] at hA hB
 have HA:=hide hA
 have HB:=hide hB
 clear hA hB
 go_enter Tryz.func18,Tryz.ntmps18
 go_wp2_with fail
 generalize (w.alloc (.cells #[.int .u32 0,.int .u32 0,.int .u32 0,.int .u32 0,.int .u32 0,.int .u32 0,.int .u32 0,.int .u32 0,.int .u32 0,.int .u32 0,.int .u32 0,.int .u32 0,.int .u32 0,.int .u32 0,.int .u32 0,.int .u32 0,.int .u32 0,.int .u32 0,.int .u32 0,.int .u32 0,.int .u32 0,.int .u32 0,.int .u32 0,.int .u32 0,.int .u32 0,.int .u32 0,.int .u32 0,.int .u32 0,.int .u32 0,.int .u32 0,.int .u32 0,.int .u32 0] 44)).alloc (.cells #[.int .u32 0,.int .u32 0,.int .u32 0,.int .u32 0,.int .u32 0,.int .u32 0,.int .u32 0,.int .u32 0,.int .u32 0,.int .u32 0,.int .u32 0,.int .u32 0,.int .u32 0,.int .u32 0,.int .u32 0,.int .u32 0,.int .u32 0,.int .u32 0,.int .u32 0,.int .u32 0,.int .u32 0,.int .u32 0,.int .u32 0,.int .u32 0,.int .u32 0,.int .u32 0,.int .u32 0,.int .u32 0,.int .u32 0,.int .u32 0,.int .u32 0,.int .u32 0] 44)=W0 at *
 go_loopw [0,4] (fun x i wr=>∃ k:Nat,k≤32∧i=.int .i64 k∧x=.int .u32 (a / 2 ^ k)∧ArrB wr w.heap.size (fun _=>0)∧ArrB wr (w.heap.size+1) (fun j=>if j<k then bt a j else 0)∧Below w.heap.size w wr) (fun _ i _=>32 - (intOf i).toNat)
 case atStart=>exact⟨0,by omega,rfl,by simp,HA.out.1,HA.out.2.congr (fun k _=>by simp),HB.out⟩
 case round =>
  obtain⟨k,hk,rfl,rfl,hz,hr,hb⟩:=hrel
  clear HA HB
  have hx0:0≤a / 2 ^ k:=Int.ediv_nonneg a0 (Int.le_of_lt (two_pos k))
  have hx1:a / 2 ^ k<4294967296:=Int.lt_of_le_of_lt (Int.ediv_le_self _ a0) a1
  by_cases hlt:k<32
  ·have hki:(k:Int)<32:=by omega
   have hc:=hr.cell k hlt
   have hf:=hr.frozen k
   have HS:=hide (hr.set k hlt (bt a k))
   have HS2:=hide (fun v=>hz.other (Below.heap_setCell wr ⟨w.heap.size+1,k,none⟩ v w.heap.size (by simp)))
   have HBn:=hide (fun v=>hb.setCell (p:=⟨w.heap.size+1,k,none⟩) (by simp) v)
   have HX:Hid (a / 2 ^ k % 2=bt a k∧a / 2 ^ k / 2=a / 2 ^ (k+1)):=⟨rfl,by rw [two_succ,← Int.ediv_ediv_of_nonneg (Int.le_of_lt (two_pos k))]⟩
   generalize a / 2 ^ k=x at *
   go_wp2
   rw [HX.out.1,HX.out.2]
   exact⟨⟨k+1,by omega,by simp,rfl,HS2.out _,HS.out.congr (fun j hj=>by
    by_cases e1:j=k
    ·subst e1;simp
    ·by_cases e2:j<k
     ·simp [e1,e2,show j<k+1 by omega]
     ·simp [e1,e2,show ¬ j<k+1 by omega]),HBn.out _⟩,by simp [intOf];omega⟩
  ·have e32:k=32:=by omega
   have HR:=hide (hr.congr (g:=bt a) (fun j hj=>by simp [show j<k by omega]))
   have HZ:=hide (hz.stored (bt a)).loadVar
   have HBb:=hide (below_stored hb (Nat.le_refl _) (Nat.le_refl _) (arr32 (bt a)))
   have HZ0:=hide hz
   have hki:¬ (k:Int)<32:=by omega
   clear hr hz hb e32
   go_wp2_with (first | (refine wpList_load32 rfl _ rfl _ _ rfl HR.out ?_) | (refine wpList_store32 rfl _ _ rfl _ _ (bt a) rfl rfl HZ0.out ?_))
   refine bodyPost_ret (v:=.agg (arr32 (bt a)).toArray) ?_ rfl ⟨rfl,HBb.out⟩
   have hz:=HZ.out
   simp only [results,Tryz.results18,List.mapM_toArray,List.mapM_cons,List.mapM_nil,asAddr,Sem.run_bind,Sem.run_pure,Result.andThen_ok,bind_assoc,pure_bind,Sem.run_map,map_pure,hz,Array.getD_eq_getD_getElem?,List.getElem?_toArray,List.getElem?_cons_succ,List.getElem?_cons_zero,Option.getD_some]
   rfl
set_option maxHeartbeats 4000000 in
theorem refOf_any13 (f:Nat→Int) (hf:Is01 f) (w:World):Calls Tryz.prog 20 #[.agg (arr32 f).toArray] w fun e w'=>e=.returned (.int .u32 (hB f 32 0))∧Below w.heap.size w w':=by
 have HA:=hide (ArrB.new w f)
 have HB:=hide ((Below.refl _ w).alloc (Nat.le_refl _) (.cells (arr32 f).toArray 44))
 have HF:=hide hf
 have HI:=hide (fun n m=>hB_in f hf n m)
 clear hf
 generalize hAR:(arr32 f).toArray=AR at *
 go_enter Tryz.func20,Tryz.ntmps20
 go_wp2_with fail
 generalize w.alloc (.cells AR 44)=W0 at *
 go_loopw [3,4] (fun x i wr=>∃ m:Nat,m≤32∧i=.int .i64 (31 - m)∧x=.int .u32 (hB f m (32 - m))∧ArrB wr w.heap.size f∧Below w.heap.size w wr) (fun _ i _=>(intOf i+1).toNat)
 case atStart=>exact⟨0,by omega,rfl,rfl,HA.out,HB.out⟩
 case round =>
  obtain⟨m,hm,rfl,rfl,hr,hb⟩:=hrel
  clear HA HB
  by_cases hlt:m<32
  ·have hc:=hr.cell (31 - m) (by omega)
   have hin:=HI.out m (32 - m)
   have hfk:=HF.out (31 - m)
   have hp:(2:Int) ^ m≤2147483648:=by
    have h1:2 ^ m≤2 ^ 31:=Nat.pow_le_pow_right (by omega) (by omega)
    have h2:((2 ^ m:Nat):Int)=(2:Int) ^ m:=by simp
    omega
   have HX:Hid (f (31 - m)+2 * hB f m (32 - m)=hB f (m+1) (32 - (m+1))):=by
    show _=f (32 - (m+1))+2 * hB f m (32 - (m+1)+1)
    rw [show 32 - (m+1)=31 - m by omega,show 31 - m+1=32 - m by omega]
   have hN:(((31 - m:Nat):Nat):Int)=31 - (m:Int):=by omega
   have hT:(31 - (m:Int)).toNat=31 - m:=by omega
   have h0:(0:Int)≤31 - (m:Int):=by omega
   have h1:(31:Int) - (m:Int)<32:=by omega
   generalize hB f m (32 - m)=x at *
   generalize f (31 - m)=y at *
   go_wp2
   exact⟨⟨m+1,by omega,by rw [show (31:Int) - (m:Int) - 1=31 - ((m+1:Nat):Int) by omega],by rw [← HX.out,Int.add_comm],hr,hb⟩,by simp [intOf];omega⟩
  ·have e32:m=32:=by omega
   subst e32
   clear hr
   go_wp2
   go_ret
   exact⟨rfl,hb⟩
end Go.Proofs.YtonhnflilfjkbaaGreat
