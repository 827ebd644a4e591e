/-
  Texts in one: GraphFind, GraphMerge, LayoutWalk1, DrawAppend, DrawLies.
-/
import Derived.Test.YtlcaedibmlidlaaGreatB10
namespace Go.Proofs.YtlcaedibmlidlaaGreat
open Go.RowKit Go.Maps
set_option linter.unusedVariables false
set_option linter.unusedSimpArgs false
set_option maxRecDepth 10000
def numG (f:Int→Option Int) (x:Int):Int:=(f x).getD 0
def FindQ (w w':World) (f:Int→Option Int) (ls:List Int) (e:Ending):Prop :=
 ((∀ x∈ls,¬ numG f x=0)∧∃ v,e=.returned (.tuple #[v,.bool true])∧w'.ownsRow w.heap.size 3 1 v (ls.map (numG f)).length ((ls.map (numG f)).map (Value.int .i64))∧Below w.heap.size w w') ∨
 ((¬ ∀ x∈ls,¬ numG f x=0)∧e=.returned (.tuple #[.slice none 0 0,.bool false])∧Below w.heap.size w w')
theorem take_snocG (zs:List Int) (k:Nat) (h:k<zs.length):zs.take (k+1)=zs.take k++[nth zs k]:=by
 rw [List.take_add_one,List.getElem?_eq_getElem h]
 simp [nth,List.getD,h]
set_option maxHeartbeats 8000000 in
theorem find_any (M nm:Nat) (f:Int→Option Int) (a:Option Addr) (n c:Nat) (ls:List Int) (w:World) (hm:MapU w 3 .i64 M nm f) (hv:View .u32 w a ls) (hl:ls.length=n) (hn:8 * n≤140737488351232) (hr:∀ x∈ls,0≤x∧x<4294967296) :
  Calls Tryz.prog 92 #[.map (some M),.slice a n c] w fun e w'=>FindQ w w' f ls e:=by
 have HM:=hide hm
 have HV:=hide hv
 have HL:=hide hl
 have HN:=hide hn
 have HR:=hide hr
 have HTT:=hide Tryz.underlying141
 have HTE:=hide Tryz.underlying3
 have hni:(8:Int) * n≤140737488351232:=by omega
 clear hm hv hl hn hr
 go_enter Tryz.func92,Tryz.ntmps92
 go_wp2_with fail
 go_loopw [6,12] (fun v i wr=>∃ k:Nat,k≤n∧i=.int .i64 k∧(∀ x∈ls.take k,¬ numG f x=0)∧wr.ownsRow w.heap.size 3 1 v ((ls.take k).map (numG f)).length (((ls.take k).map (numG f)).map (Value.int .i64))∧Below w.heap.size w wr) (fun _ i _=>n - (intOf i).toNat)
 case atStart=>exact⟨0,Nat.zero_le _,rfl,by simp,World.ownsRow_nil _ _ _ _,Below.refl _ _⟩
 case round =>
  obtain⟨k,hk,rfl,hall,hown,hbr⟩:=hrel
  by_cases hlt:k<n
  ·have hkl:k<ls.length:=by rw [HL.out];exact hlt
   obtain⟨b,off,rfl,hbl,hc⟩:=HV.out k hkl
   have hc':=(hbr.cell (p:=⟨b,off+k,none⟩) hbl).trans hc
   have hmem:nth ls k∈ls:=by
    have:nth ls k=ls[k]:=by simp [nth,List.getD,hkl]
    rw [this];exact List.getElem_mem hkl
   have HMEM:=hide hmem
   have HX:=hide (HR.out _ hmem)
   have HSN:=hide (take_snocG ls k hkl)
   have HTL:Hid (((ls.take k).map (numG f)).length≤k):=by show _≤_;rw [List.length_map,List.length_take];omega
   obtain⟨a4,c4,rfl⟩:=own_shapeG hown
   have hki:(k:Int)<(n:Int):=by omega
   have HLT:=hide hlt
   have HALL:=hide hall
   have HBR:=hide hbr
   have HOWN:=hide hown
   have HMR:=hide (HM.out.below hbr)
   clear hc hmem hkl hbl hown hbr hlt hk hall
   generalize hy:nth ls k=y at *
   have HY:=hide hy
   obtain⟨z,hz⟩:∃ z,z=numG f y:=⟨_,rfl⟩
   have HZ:Hid ((f y).getD 0=z):=hz.symm
   clear hy hz
   by_cases hz0:z=0
   ·have HZ0:=hide hz0
    generalize ((ls.take k).map (numG f)).length=m4 at *
    have hzb:(z==0)=true:=by simpa using hz0
    clear hz0
    go_wp2_with (at_lookup;refine wpList_lookU rfl _ _ 141 rfl 3 .i64 HTT.out HTE.out (zeroI64 _) M nm f rfl HMR.out y rfl HX.out.1 HX.out.2 ?_;rw [HZ.out])
    go_ret2
    exact .inr ⟨fun h=>h y HMEM.out (HZ.out.trans HZ0.out),rfl,HBR.out⟩
   ·have HZ0:=hide hz0
    have hzb:(z==0)=false:=by simpa using hz0
    have HIN:Hid ((ls.take (k+1)).map (numG f)=(ls.take k).map (numG f)++[z]):=by
     show _=_
     rw [HSN.out,List.map_append]
     show _++[numG f y]=_
     rw [show numG f y=z from HZ.out]
    have HAL:Hid (∀ x∈ls.take (k+1),¬ numG f x=0):=by
     intro x hx
     rw [HSN.out] at hx
     rcases List.mem_append.1 hx with h | h
     ·exact HALL.out x h
     ·simp at h
      rw [h,show numG f y=z from HZ.out]
      exact HZ0.out
    generalize (ls.take k).map (numG f)=zs at *
    have ho4:(wr.alloc (.cells #[.int .i64 z] 3)).ownsRow w.heap.size 3 1 (.slice a4 zs.length c4) zs.length (zs.map (Value.int .i64)):=own_below HOWN.out ((Below.refl _ _).alloc (Nat.le_refl _) _)
    have HO4:=hide ho4
    have HB4:Hid (Below w.heap.size w (wr.alloc (.cells #[.int .i64 z] 3))):=HBR.out.alloc HBR.out.size _
    have HNL:Hid (zs.length<17592186044415):=by show _<_;have:=HTL.out;have:=HLT.out;have:=HN.out;omega
    clear hz0 ho4 HALL HSN
    go_wp2_with (first | (at_lookup;refine wpList_lookU rfl _ _ 141 rfl 3 .i64 HTT.out HTE.out (zeroI64 _) M nm f rfl HMR.out y rfl HX.out.1 HX.out.2 ?_;rw [HZ.out]) | (at_builtin;refine wpList_app1 rfl (.tmp 21) (.tmp 23) rfl w.heap.size _ zs z rfl wr.heap.size rfl (allocNew _ _ rfl) HO4.out HNL.out (by have:=HB4.out.size;exact this) ?_))
    intro g cap w5 ho5 hg5 _
    have HB5:Hid (Below w.heap.size w w5):=HB4.out.grown hg5 HB4.out.size (fun q e=>(World.ownsRow.lt HO4.out q e).1)
    have HO5:=hide ho5
    clear ho5 hg5 HO4 HOWN
    go_wp2_with fail
    exact⟨⟨k+1,HLT.out,by simp,HAL.out,by rw [HIN.out];simpa using HO5.out,HB5.out⟩,measZ2 HLT.out⟩
  ·have e:k=n:=by omega
   subst e
   obtain⟨a4,c4,rfl⟩:=own_shapeG hown
   have HTK:Hid (ls.take k=ls):=List.take_of_length_le (by rw [HL.out];exact Nat.le_refl _)
   rw [HTK.out] at hall hown
   have HALL:=hide hall
   have HBR:=hide hbr
   have HOWN:=hide hown
   have HLL:Hid ((List.map (numG f) (ls.take k)).length=(ls.map (numG f)).length):=by show _=_;rw [HTK.out]
   clear hall hown hbr hk
   generalize (List.map (numG f) (ls.take k)).length=m4 at *
   go_wp2_with fail
   go_ret2
   refine .inl ⟨HALL.out,_,rfl,?_,HBR.out⟩
   rw [HLL.out]
   exact HOWN.out
def mgOf (bo lo:Int) (l:List ArgT):Int×List Int :=
 if bo=246 then (2,[(nthA l 0).2.1,(nthA l 1).2.1]) else if bo=247 then (if lo=251 then (3,[(nthA l 0).2.1]) else (1,[(nthA l 0).2.1])) else (0,[])
def MgQ (w w':World) (r:Int×List Int) (e:Ending):Prop:=∃ a c,e=.returned (.tuple #[.int .u8 r.1,.slice a r.2.length c])∧View .u32 w' a r.2∧Below w.heap.size w w'
theorem view_mg1 {w:World} {b:Nat} {k:IntKind} {x:Int} {T:Nat} (h:w.heap[b]?=some (.cells #[.int k x] T (0,0))):View k w (some ⟨b,0,none⟩) [x]:=by
 intro j hj
 have hj0:j=0:=by simp at hj;omega
 subst hj0
 refine⟨b,0,rfl,(Array.getElem?_eq_some_iff.1 h).1,?_⟩
 simp [World.cell?,h,nth]
theorem view_mg2 {w:World} {b:Nat} {k:IntKind} {x y:Int} {T:Nat} (h:w.heap[b]?=some (.cells #[.int k x,.int k y] T (0,0))):View k w (some ⟨b,0,none⟩) [x,y]:=by
 intro j hj
 refine⟨b,0,rfl,(Array.getElem?_eq_some_iff.1 h).1,?_⟩
 have hj2:j=0∨j=1:=by simp at hj;omega
 rcases hj2 with rfl | rfl <;> simp [World.cell?,h,nth]
theorem mg_ret2 {w W:World} (h:Below w.heap.size w W) (q z0 z1:Int) (T:Nat):MgQ w (W.alloc (.cells #[.int .u32 z0,.int .u32 z1] T)).drew (q,[z0,z1]) (.returned (.tuple #[.int .u8 q,.slice (some ⟨W.heap.size,0,none⟩) 2 2])) :=
 ⟨_,_,rfl,view_mg2 (T:=T) (allocNew W _ rfl),(h.alloc h.size _).drew⟩
theorem mg_ret1 {w W:World} (h:Below w.heap.size w W) (q z0:Int) (T:Nat):MgQ w (W.alloc (.cells #[.int .u32 z0] T)).drew (q,[z0]) (.returned (.tuple #[.int .u8 q,.slice (some ⟨W.heap.size,0,none⟩) 1 1])) :=
 ⟨_,_,rfl,view_mg1 (T:=T) (allocNew W _ rfl),(h.alloc h.size _).drew⟩
set_option maxHeartbeats 8000000 in
theorem mergeOf_any (x y:InstT) (a b:Option Addr) (n c m d:Nat) (w:World) (hv:ArgsV w a x.2.2.2) (hl:x.2.2.2.length=n) (h246:x.1=246→2≤n) (h247:x.1=247→1≤n) :
  Calls Tryz.prog 138 #[instV x a n c,instV y b m d] w fun e w'=>MgQ w w' (mgOf x.1 y.1 x.2.2.2) e:=by
 obtain⟨xo,xt,xr,l⟩:=x
 obtain⟨yo,yt,yr,l2⟩:=y
 unfold instV
 simp only at *
 have hba:Below w.heap.size w ((w.alloc (.cells #[.int .u16 xo,.int .u32 xt,.int .u32 xr,.slice a n c] 63)).alloc (.cells #[.int .u16 yo,.int .u32 yt,.int .u32 yr,.slice b m d] 63)):=((Below.refl _ w).alloc (Nat.le_refl _) _).alloc (by simp) _
 have k0:=allocOld (allocNew w (.cells #[.int .u16 xo,.int .u32 xt,.int .u32 xr,.slice a n c] 63) rfl) (.cells #[.int .u16 yo,.int .u32 yt,.int .u32 yr,.slice b m d] 63)
 have k1:=allocNew (w.alloc (.cells #[.int .u16 xo,.int .u32 xt,.int .u32 xr,.slice a n c] 63)) (.cells #[.int .u16 yo,.int .u32 yt,.int .u32 yr,.slice b m d] 63) (n:=w.heap.size+1) (by simp)
 have HBA:=hide hba
 have a0:=(one_block k0).1 0
 have a3:=(one_block k0).1 3
 have b0:=(one_block k1).1 0
 by_cases h1:xo=246
 ·subst h1
  have hn:=h246 rfl
  obtain⟨B,off,rfl,hB,_,e0,_⟩:=hv 0 (by omega)
  obtain⟨B',off',e,hB',_,e1,_⟩:=hv 1 (by omega)
  injection e with e;injection e with e2 e3 _
  subst e2;subst e3
  replace e0:=(hba.cell (p:=⟨B,off+0 * 3+1,none⟩) hB).trans e0
  replace e1:=(hba.cell (p:=⟨B,off+1 * 3+1,none⟩) hB).trans e1
  have HR:Hid (mgOf 246 yo l=(2,[(nthA l 0).2.1,(nthA l 1).2.1])):=by show _=_;unfold mgOf;rw [if_pos rfl]
  rw [HR.out]
  generalize (nthA l 0).2.1=z0 at *
  generalize (nthA l 1).2.1=z1 at *
  have g0:(0:Int)<(n:Int):=by omega
  have g1:(1:Int)<(n:Int):=by omega
  clear hba k0 k1 hv hl h246 h247 hB hB' HR hn
  go_enter Tryz.func138,Tryz.ntmps138
  go_wp2_with fail
  generalize (World.alloc (World.alloc w _) _)=W at *
  simp only [Nat.zero_mul,Nat.add_zero,Nat.one_mul] at e0 e1
  go_region_with (fail)
  all_goals
   go_wp2_with fail
   go_ret2
   exact mg_ret2 HBA.out 2 z0 z1 _
 ·have h1':(xo==246)=false:=by simpa using h1
  by_cases h2:xo=247
  ·subst h2
   have hn:=h247 rfl
   obtain⟨B,off,rfl,hB,_,e0,_⟩:=hv 0 (by omega)
   replace e0:=(hba.cell (p:=⟨B,off+0 * 3+1,none⟩) hB).trans e0
   have HR:Hid (mgOf 247 yo l=if yo=251 then (3,[(nthA l 0).2.1]) else (1,[(nthA l 0).2.1])):=by show _=_;unfold mgOf;rw [if_neg (by decide),if_pos rfl]
   rw [HR.out]
   generalize (nthA l 0).2.1=z0 at *
   have g0:(0:Int)<(n:Int):=by omega
   clear hba k0 k1 hv hl h246 h247 hB HR hn h1 h1'
   by_cases h3:yo=251
   ·subst h3
    rw [if_pos rfl]
    go_enter Tryz.func138,Tryz.ntmps138
    go_wp2_with fail
    generalize (World.alloc (World.alloc w _) _)=W at *
    simp only [Nat.zero_mul,Nat.add_zero,Nat.one_mul] at e0
    go_region_with (fail)
    all_goals
     go_wp2_with fail
     go_ret2
     exact mg_ret1 HBA.out 3 z0 _
   ·rw [if_neg h3]
    have h3':(yo==251)=false:=by simpa using h3
    clear h3
    go_enter Tryz.func138,Tryz.ntmps138
    go_wp2_with fail
    generalize (World.alloc (World.alloc w _) _)=W at *
    simp only [Nat.zero_mul,Nat.add_zero,Nat.one_mul] at e0
    go_region_with (fail)
    all_goals
     go_wp2_with fail
     go_ret2
     exact mg_ret1 HBA.out 1 z0 _
  ·have h2':(xo==247)=false:=by simpa using h2
   have HR:Hid (mgOf xo yo l=(0,[])):=by show _=_;unfold mgOf;rw [if_neg h1,if_neg h2]
   rw [HR.out]
   clear hba k0 k1 hv hl h246 h247 HR h1 h2
   go_enter Tryz.func138,Tryz.ntmps138
   go_wp2_with fail
   go_ret2
   exact⟨none,0,rfl,fun j hj=>absurd hj (Nat.not_lt_zero j),HBA.out⟩
end Go.Proofs.YtlcaedibmlidlaaGreat
namespace Go.Proofs.YtlcaedibmlidlaaGreat
open Go.RowKit
set_option linter.unusedVariables false
set_option linter.unusedSimpArgs false
set_option maxRecDepth 10000
def VarsOk (l:List InstT):Prop:=∀ k,k<l.length→(nthI l k).1=59→1≤(nthI l k).2.2.2.length
theorem KeepB.low {B:Nat} {w0 w w':World} (h:Below w0.heap.size w0 w) (hB:w0.heap.size≤B) (hk:KeepB B w w'):Below w0.heap.size w0 w' :=
 ⟨hk.os.trans h.os,hk.tape.trans h.tape,hk.output.trans h.output,Nat.le_trans h.size hk.size,fun k hk'=>(hk.block k (by have:=h.size;omega) (by omega)).trans (h.block k hk')⟩
set_option maxHeartbeats 8000000 in
theorem look_any (B:Nat) (a:Option Addr) (n c:Nat) (ps:Nat→Int) (fv:Value) (k:Nat) (part kind:Int) (l:List InstT) (w0 w:World) (h:WkB B (.slice a n c) ps fv (k:Int) part kind w) (hv:InstsV w0 a l) (hw:Below w0.heap.size w0 w) (hB:w0.heap.size≤B) (hl:l.length=n) (hn:40 * n≤140737488351232) (hvar:VarsOk l) (hk:k≤n) :
  Calls Tryz.prog 84 #[.pointer (some ⟨B,0,none⟩)] w fun e w'=>e=.returned (.tuple #[])∧WkB B (.slice a n c) ps fv (k:Int) (partAt l k) (kindAt l k) w'∧KeepB B w w':=by
 have HL:=hide hl
 have HV:=hide hv
 have HVAR:=hide hvar
 have h1:=(h.setPart 9).setKind 0
 have HK1:Hid (KeepB B w ((w.setCell ⟨B,23,none⟩ (.int .u8 9)).setCell ⟨B,24,none⟩ (.int .u16 0))):=(KeepB.set w 23 _).trans (KeepB.set _ 24 _)
 have HW1:=hide h1
 have HLOW:=hide (KeepB.low hw hB HK1.out)
 obtain⟨d0,_,_,d22,d23,d24,df⟩:=h.cells
 have hkn:(k:Int)≤(n:Int):=by omega
 clear h hv hl hvar h1 hw
 go_enter Tryz.func84,Tryz.ntmps84
 go_wp2_with fail
 generalize (w.setCell ⟨B,23,none⟩ (.int .u8 9)).setCell ⟨B,24,none⟩ (.int .u16 0)=W1 at *
 clear d0 d22 d23 d24 df
 obtain⟨e0,_,_,e22,e23,e24,ef⟩:=HW1.out.cells
 by_cases hlt:k<n
 ·have hkne:((k:Int)==(n:Int))=false:=by simpa using (by omega:(k:Int)≠(n:Int))
  have hki:(k:Int)<(n:Int):=by omega
  have hk0:(0:Int)≤(k:Int):=by omega
  have hkl:k<l.length:=by rw [HL.out];exact hlt
  have HP:Hid (partAt l k=partI (nthI l k)∧kindAt l k=kindX (nthI l k)):=by unfold partAt kindAt;rw [if_pos hkl,if_pos hkl];exact⟨rfl,rfl⟩
  obtain⟨g1,o1,aj,cj,nj,rfl,hg1,p1,p2,p3,p4,p5,p6,p7⟩:=HV.out.below HLOW.out k hkl
  have hv59:=HVAR.out k hkl
  go_quiet (fail)
  go_wp2_with fail
  have hdr:Below W1.heap.size W1 (W1.drewN nq):=⟨rfl,rfl,rfl,Nat.le_refl _,fun _ _=>rfl⟩
  have HW2:=hide (HW1.out.below hdr)
  have HK2:=hide (HK1.out.trans (.of_below hdr))
  have HL2:=hide (HLOW.out.trans (hdr.mono HLOW.out.size))
  have q1:(W1.drewN nq).cell? ⟨g1,o1+k * 4,none⟩=some (.int .u16 (nthI l k).1):=p1
  have q2:(W1.drewN nq).cell? ⟨g1,o1+k * 4+1,none⟩=some (.int .u32 (nthI l k).2.1):=p2
  have q3:(W1.drewN nq).cell? ⟨g1,o1+k * 4+2,none⟩=some (.int .u32 (nthI l k).2.2.1):=p3
  have q4:(W1.drewN nq).cell? ⟨g1,o1+k * 4+3,none⟩=some (.slice aj nj cj):=p4
  have p6':=p6.below hdr
  have hg2:g1<(W1.drewN nq).heap.size:=hg1
  clear p1 p2 p3 p4 p6 HW1 HK1 HLOW hdr e0 e22 e23 e24 ef hg1
  generalize W1.drewN nq=W2 at *
  obtain⟨e0,_,_,e22,e23,e24,ef⟩:=HW2.out.cells
  have hBl:=HW2.out.lt
  generalize nthI l k=z at *
  obtain⟨zo,zt,zr,zl⟩:=z
  simp only at *
  refine wp_norm ?_
  go_region
  all_goals
   rw [onNormal_normal]
   have hba:Below W2.heap.size W2 (W2.alloc (.cells #[.int .u16 zo,.int .u32 zt,.int .u32 zr,.slice aj nj cj] 63)).drew:=((Below.refl _ W2).alloc (Nat.le_refl _) _).drew
   have hPo:=partOf_any (zo,zt,zr,zl) aj nj cj _ (p6'.below hba) p5 (fun e=>by rw [← p5];exact hv59 e)
   unfold instV at hPo
   simp only at hPo
   have HW3:=hide (HW2.out.below hba)
   have HK3:=hide (HK2.out.trans (.of_below hba))
   have hz0:=(one_block (heap_alloc_new W2 (.cells #[.int .u16 zo,.int .u32 zt,.int .u32 zr,.slice aj nj cj] 63))).1 0
   have HZ:=hide (heap_alloc_new W2 (.cells #[.int .u16 zo,.int .u32 zt,.int .u32 zr,.slice aj nj cj] 63))
   have HZ':Hid ((W2.alloc (.cells #[.int .u16 zo,.int .u32 zt,.int .u32 zr,.slice aj nj cj] 63)).drew.heap[W2.heap.size]?=some (.cells #[.int .u16 zo,.int .u32 zt,.int .u32 zr,.slice aj nj cj] 63 (0,0))):=HZ.out
   have HZL:Hid (W2.heap.size<(W2.alloc (.cells #[.int .u16 zo,.int .u32 zt,.int .u32 zr,.slice aj nj cj] 63)).drew.heap.size):=by show _<(W2.alloc _).heap.size;simp
   have hneB:W2.heap.size≠B:=by omega
   clear q1 q2 q3 q4 p6' hba HW2 HK2 hz0 HZ e0 e22 e23 e24 ef
   generalize (W2.alloc (.cells #[.int .u16 zo,.int .u32 zt,.int .u32 zr,.slice aj nj cj] 63)).drew=W3 at *
   obtain⟨zc,_⟩:=one_block HZ'.out
   have z0:=zc 0
   have z1:=zc 1
   have z2:=zc 2
   have z3:=zc 3
   have hzl:=HZL.out
   clear zc
   go_wp2_with fail
   refine hPo.mono ?_
   rintro e w4 ⟨rfl,hb4⟩
   have HW4:=hide (HW3.out.below hb4)
   have HK4:=hide (HK3.out.trans (.of_below hb4))
   have z4:=(hb4.cell (p:=⟨W2.heap.size,0,none⟩) hzl).trans z0
   have hzl4:W2.heap.size<w4.heap.size:=Nat.lt_of_lt_of_le hzl hb4.size
   have HW5:=hide (HW4.out.setPart (partI (zo,zt,zr,zl)))
   have HK5:=hide (HK4.out.trans (KeepB.set w4 23 (.int .u8 (partI (zo,zt,zr,zl)))))
   obtain⟨_,_,_,_,e23,_,ef⟩:=HW4.out.cells
   clear hPo hb4 HW3 HK3 z0 z1 z2 z3 hzl HZ' HZL
   by_cases h8:partI (zo,zt,zr,zl)=8
   ·have HKD:Hid (kindX (zo,zt,zr,zl)=kindOp zo):=by show _=_;unfold kindX;rw [if_pos h8]
    rw [h8] at HW5 HK5 HP ⊢
    rw [HKD.out] at HP
    have hko:=fun wx=>kindOf_any zo wx
    have HW6:=hide (HW5.out.setKind (kindOp zo))
    have HK6:=hide (HK5.out.trans (KeepB.set _ 24 (.int .u16 (kindOp zo))))
    obtain⟨_,_,_,_,y23,y24,yf⟩:=HW5.out.cells
    go_wp2_with fail
    refine (hko _).mono ?_
    rintro e w6 ⟨rfl,rfl⟩
    clear hko
    go_wp2_with fail
    go_end0
    exact⟨rfl,by rw [HP.out.1,HP.out.2];exact HW6.out,HK6.out⟩
   ·have HKD:Hid (kindX (zo,zt,zr,zl)=0):=by show _=_;unfold kindX;rw [if_neg h8]
    rw [HKD.out] at HP
    have h8':(partI (zo,zt,zr,zl)==8)=false:=by simpa using h8
    generalize partI (zo,zt,zr,zl)=pp at *
    go_wp2_with fail
    go_end0
    exact⟨rfl,by rw [HP.out.1,HP.out.2];exact HW5.out,HK5.out⟩
 ·obtain rfl:k=n:=by omega
  have HP:Hid (partAt l k=9∧kindAt l k=0):=by unfold partAt kindAt;rw [if_neg (by rw [HL.out];omega),if_neg (by rw [HL.out];omega)];exact⟨rfl,rfl⟩
  go_quiet (fail)
  go_wp2_with fail
  have hdr:Below W1.heap.size W1 (W1.drewN nq):=⟨rfl,rfl,rfl,Nat.le_refl _,fun _ _=>rfl⟩
  refine bodyPost_ret (v:=.tuple #[]) (by simp [results,Tryz.results84,go_sem]) rfl ⟨rfl,by rw [HP.out.1,HP.out.2];exact HW1.out.below hdr,HK1.out.trans (.of_below hdr)⟩
set_option maxHeartbeats 4000000 in
theorem step_any (B:Nat) (a:Option Addr) (n c:Nat) (ps:Nat→Int) (fv:Value) (k:Nat) (part kind:Int) (l:List InstT) (w0 w:World) (h:WkB B (.slice a n c) ps fv (k:Int) part kind w) (hv:InstsV w0 a l) (hw:Below w0.heap.size w0 w) (hB:w0.heap.size≤B) (hl:l.length=n) (hn:40 * n≤140737488351232) (hvar:VarsOk l) (hk:k<n) :
  Calls Tryz.prog 132 #[.pointer (some ⟨B,0,none⟩)] w fun e w'=>e=.returned (.tuple #[])∧WkB B (.slice a n c) ps fv ((k+1:Nat):Int) (partAt l (k+1)) (kindAt l (k+1)) w'∧KeepB B w w':=by
 have ek:((k+1:Nat):Int)=(k:Int)+1:=by omega
 have h1:=h.setAt ((k+1:Nat):Int)
 have hK1:=KeepB.set (B:=B) w 22 (.int .i64 ((k+1:Nat):Int))
 have hLk:=look_any B a n c ps fv (k+1) part kind l w0 _ h1 hv (KeepB.low hw hB hK1) hB hl hn hvar (by omega)
 rw [ek] at hK1 hLk ⊢
 have HK1:=hide hK1
 obtain⟨_,_,_,d22,_,_,df⟩:=h.cells
 have hkw:IntKind.i64.wrap ((k:Int)+1)=(k:Int)+1:=by rw [IntKind.wrap_i64];omega
 clear h h1 hv hw hl hn hvar ek hK1
 go_enter Tryz.func132,Tryz.ntmps132
 go_wp2_with fail
 refine hLk.mono ?_
 rintro e w2 ⟨rfl,h2,hk2⟩
 have H2:=hide (And.intro h2 (HK1.out.trans hk2))
 clear hLk h2 hk2
 go_wp2_with fail
 go_end0
 exact⟨rfl,H2.out.1,H2.out.2⟩
set_option maxHeartbeats 4000000 in
/-- What is wrong where the instructions can't go on. -/
theorem fault_any5 (B:Nat) (ins:Value) (ps:Nat→Int) (fv:Value) (at_ part kind:Int) (w:World) (h:WkB B ins ps fv at_ part kind w) :
  Calls Tryz.prog 87 #[.pointer (some ⟨B,0,none⟩)] w fun e w'=>e=.returned (.agg #[.int .i64 (if part=9 then 51 else 50),.int .i64 at_])∧Below w.heap.size w w':=by
 have hba:Below w.heap.size w (w.alloc (.cells #[.int .i64 0,.int .i64 0] 33)):=(Below.refl _ w).alloc (Nat.le_refl _) _
 obtain⟨_,_,_,d22,d23,_,df⟩:=h.cells
 have hl:=h.lt
 have HBA:=hide hba
 clear h hba
 by_cases h9:part=9
 ·subst h9
  rw [if_pos rfl]
  go_enter Tryz.func87,Tryz.ntmps87
  go_wp2_with fail
  refine bodyPost_ret (v:=.agg #[.int .i64 51,.int .i64 at_]) ?_ rfl ⟨rfl,?_⟩
  ·simp [results,Tryz.results87,go_sem,World.setCell,Array.getElem?_modify]
  ·exact (Below.refl _ w).alloc (Nat.le_refl _) _
 ·rw [if_neg h9]
  have h9':(part==9)=false:=by simpa using h9
  clear h9
  go_enter Tryz.func87,Tryz.ntmps87
  go_wp2_with fail
  refine bodyPost_ret (v:=.agg #[.int .i64 50,.int .i64 at_]) ?_ rfl ⟨rfl,?_⟩
  ·simp [results,Tryz.results87,go_sem,World.setCell,Array.getElem?_modify]
  ·exact (Below.refl _ w).alloc (Nat.le_refl _) _
theorem wpIn_normal {F:Fence} {n:Nat} {P:Program} {c:Code} {Q:Exit→Act→World→Prop} {a:Act} {w:World} (h:c.wpIn F n P (fun e a w=>e=.normal∧Q .normal a w) a w):c.wpIn F n P Q a w :=
 Code.wpIn_mono (fun e a w h=>by obtain⟨rfl,h⟩:=h;exact h) h
theorem stepAny_lies {P:Program} (w:World) {F:Fence} (hF:∀ f,F.fn f) {o:Oper} {ops:Array Oper} {a:Act} {K:Act→World→Prop} {Q:Exit→Act→World→Prop} (hgd:o.guard=none) (s x:Operand) (t:TypeId)
  (ho:o.op=.call { callee:=.builtin .append,args:=#[s,x],argTypes:=#[t,t] }) (base:Nat) (e:TypeId) (i:TypeInfo) (z:Value) (size bytes:Nat) (ht:P.underlying t=some (.slice e)) (hi:P.info? e=some i) (hz:i.zero=some z)
  (hsize:i.size=size) (hby:i.bytes=bytes) (hzs:z.cells.size=size) (hsz:0<size) (v:Value) (n:Nat) (xs:List Value) (hs:a.eval s=v) (hown:w.ownsRow base e size v n xs)
  (ad:Addr) (m c:Nat) (news:List Value) (hx:a.eval x=.slice (some ad) m c) (hl:news.length=m * size) (hnews:∀ j u,news[j]?=some u→w.cell? (ad.add j)=some u) (h1:∀ u∈news,u.oneCell'=true)
  (hm:0<m) (h63:n+m≤maxLen) (hbytes:(n+m) * bytes≤140737488355328) (hbase:base≤w.heap.size)
  (h:∀ g cap w',w'.ownsRow base e size (.slice (some ⟨g,0,none⟩) (n+m) cap) (n+m) (xs++news)→w.grownBy w' v.ownBlock→(v.ownBlock=some g∨g=w.heap.size)→K (a.put o.dst (.slice (some ⟨g,0,none⟩) (n+m) cap)) w') :
  if Region.wanted o (yielded ops a.tmps)=true then Oper.wpIn F 0 P o a w K Q else (∀ f,o.about P w a.eval=some f→F.fn f)∧K (a.put o.dst undef) w:=by
 obtain⟨g,cap',w',hr,h2,h3,h4,_⟩:=run_append_lies (P:=P) w t o.type base e i z size bytes ht hi hz hsize hby hzs hsz v n xs hown ad m c news hl hnews h1 hm h63 hbytes hbase w.heap.size rfl
 rw [if_pos (by simp [Region.wanted,hgd])]
 refine⟨fun f _=>hF f,?_⟩
 rw [Oper.semAt_eq _ _ _ (fun c hc=>by rw [ho] at hc;cases hc)]
 unfold execOp
 simp only [ho,resolve,invoke,builtin,Sem.run_bind,Sem.run_pure,Result.andThen_ok,List.map_toArray,List.map_cons,List.map_nil,hs,hx,hr]
 exact h g cap' w' h2 h3 h4
end Go.Proofs.YtlcaedibmlidlaaGreat
