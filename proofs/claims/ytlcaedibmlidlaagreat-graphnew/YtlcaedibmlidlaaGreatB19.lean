/-
  Texts in one: GraphTargetsF.
-/
import Derived.Test.YtlcaedibmlidlaaGreatB18
namespace Go.Proofs.YtlcaedibmlidlaaGreat
open Go.RowKit
set_option linter.unusedVariables false
set_option linter.unusedSimpArgs false
set_option maxRecDepth 10000
theorem TgW.info:(Tryz.prog.info? 22).map (fun i=>(i.zero,i.size,i.bytes))=some (some (.int .u32 0),1,4):=by kernel_rfl
theorem TgK.info:(Tryz.prog.info? 5).map (fun i=>(i.zero,i.size,i.bytes))=some (some (.int .u8 0),1,1):=by kernel_rfl
def AnsW (w w':World) (e:Ending) (l:List Int):Prop:=∃ v,e=.returned v∧w'.ownsRow w.heap.size 22 1 v l.length (l.map (Value.int .u32))∧Below w.heap.size w w'
structure TgS (w wr : World) (k : IntKind) (T : TypeId) (x : InstT) (a : Option Addr) (n c : Nat) (v : Value) (zs : List Int) : Prop where
  own : wr.ownsRow (w.heap.size + 1) T 1 v zs.length (zs.map (Value.int k))
  box : wr.heap[w.heap.size]? = some (.cells #[.int .u16 x.1, .int .u32 x.2.1, .int .u32 x.2.2.1, .slice a n c] 63 (0, 0))
  bel : Below w.heap.size w wr
theorem TgS.below {w wr wr':World} {k:IntKind} {T:TypeId} {x:InstT} {a:Option Addr} {n c:Nat} {v:Value} {zs:List Int} (h:TgS w wr k T x a n c v zs) (hb:Below wr.heap.size wr wr'):TgS w wr' k T x a n c v zs :=
 ⟨own_below h.own hb,(hb.block _ (Array.getElem?_eq_some_iff.1 h.box).1).trans h.box,h.bel.trans (hb.mono h.bel.size)⟩
theorem TgS.push {w wr w5:World} {k:IntKind} {T:TypeId} {x:InstT} {a:Option Addr} {n c:Nat} {v v':Value} {zs zs':List Int} (h:TgS w wr k T x a n c v zs) (hg:wr.grownBy w5 v.ownBlock) (ho:w5.ownsRow (w.heap.size+1) T 1 v' zs'.length (zs'.map (Value.int k))):TgS w w5 k T x a n c v' zs':=by
 have hlo:∀ g,v.ownBlock=some g→w.heap.size+1≤g:=fun g e=>(World.ownsRow.lt h.own g e).1
 refine⟨ho,(hg.block _ (Array.getElem?_eq_some_iff.1 h.box).1 (fun e=>by have:=hlo _ e.symm;omega)).trans h.box,h.bel.grown hg h.bel.size (fun k e=>by have:=hlo k e;omega)⟩
set_option maxHeartbeats 4000000 in
theorem targets_loop (x:InstT) (f s:Nat) (hA:tgA x.1=((f:Int),(s:Int))) (hs1:1≤s) (hs2:s≤2) (hf:f≤1) (good:Nat→Prop) (hg0:good f) (h0:tgP x.1 x.2.2.2 f=[]) (hst:∀ k,good k→k<x.2.2.2.length→good (k+s)∧tgP x.1 x.2.2.2 (k+s)=tgP x.1 x.2.2.2 k++[(nthA x.2.2.2 k).2.1])
  (a:Option Addr) (n c:Nat) (w:World) (hv:ArgsV w a x.2.2.2) (hl:x.2.2.2.length=n) (hm:24 * n≤140737488351232) :
  Calls Tryz.prog 93 #[instV x a n c] w fun e w'=>AnsW w w' e (tgL x):=by
 have HTP:=hide (tgP_len x.1 x.2.2.2)
 have HPA:=hide (tgP_past x.1 x.2.2.2)
 have HTG:Hid (tgL x=if fitB x then tgP x.1 x.2.2.2 x.2.2.2.length else []):=rfl
 have hTA:=fun wx=>targetsAt_any x.1 wx
 rw [hA] at hTA
 have hFT:=fun wx (h:Below w.heap.size w wx)=>graphFits_any x a n c wx (hv.below h) hl hm
 have hn0:x.2.2.2.length=n:=hl
 generalize fitB x=fb at *
 generalize tgL x=RES at *
 have HST:=hide hst
 have HG0:=hide hg0
 have H0:=hide h0
 have HV:=hide hv
 have HL:=hide hl
 have HTA:=hide hTA
 have HFT:=hide hFT
 clear hA hst hg0 h0 hv hl hTA hFT hn0
 obtain⟨xo,xt,xr,l⟩:=x
 unfold instV at *
 simp only at *
 have hba:Below w.heap.size w (w.alloc (.cells #[.int .u16 xo,.int .u32 xt,.int .u32 xr,.slice a n c] 63)):=(Below.refl _ _).alloc (Nat.le_refl _) _
 have hbx:(w.alloc (.cells #[.int .u16 xo,.int .u32 xt,.int .u32 xr,.slice a n c] 63)).heap[w.heap.size]?=some (.cells #[.int .u16 xo,.int .u32 xt,.int .u32 xr,.slice a n c] 63 (0,0)):=allocNew _ _ rfl
 have HBA:=hide hba
 have HBX:=hide hbx
 have hsb:((s:Int)==0)=false:=by
  have:¬ (s:Int)=0:=by omega
  simpa using this
 clear hba hbx
 have hta:=HTA.out (w.alloc (.cells #[.int .u16 xo,.int .u32 xt,.int .u32 xr,.slice a n c] 63))
 have hft:=HFT.out _ HBA.out
 go_enter Tryz.func93,Tryz.ntmps93
 go_wp2_with fail
 refine hta.mono ?_
 rintro e w1 ⟨rfl,rfl⟩
 clear hta
 go_wp2_with fail
 refine hft.mono ?_
 rintro e w2 ⟨rfl,hb2⟩
 have hS2:TgS w w2 .u32 22 (xo,xt,xr,l) a n c (.slice none 0 0) []:=⟨World.ownsRow_nil _ _ _ _,(hb2.block _ (Array.getElem?_eq_some_iff.1 HBX.out).1).trans HBX.out,HBA.out.trans (hb2.mono HBA.out.size)⟩
 have HS2:=hide hS2
 clear hft hb2 hS2
 cases fb with
 | false =>
  have HRE:Hid (RES=[]):=by show _=_;rw [HTG.out];rfl
  go_wp2_with fail
  go_ret
  rw [HRE.out]
  exact⟨_,rfl,World.ownsRow_nil _ _ _ _,HS2.out.bel⟩
 | true =>
  have HRE:Hid (RES=tgP xo l l.length):=by show _=_;rw [HTG.out];rfl
  go_wp2_with fail
  go_loopw [5,6] (fun v i wr=>∃ k:Nat,k≤n+2∧i=.int .i64 k∧good k∧TgS w wr .u32 22 (xo,xt,xr,l) a n c v (tgP xo l k)) (fun _ i _=>n+2 - (intOf i).toNat)
  case atStart=>exact⟨f,by omega,rfl,HG0.out,by rw [H0.out];exact HS2.out⟩
  case round =>
   obtain⟨k,hk,rfl,hgk,hS⟩:=hrel
   obtain⟨av,cv,rfl⟩:=own_shapeG hS.own
   have c3:=(one_block hS.box).1 3
   by_cases hlt:k<n
   ·have hkl:k<l.length:=by rw [HL.out];exact hlt
    obtain⟨b,off,rfl,hb,c1,c2,c4⟩:=HV.out k hkl
    obtain⟨hg',hp'⟩:=HST.out k hgk hkl
    have q2:=(hS.bel.cell (p:=⟨b,off+k * 3+1,none⟩) hb).trans c2
    have HPL:Hid ((tgP xo l k).length<17592186044415):=by show _<_;have:=HTP.out k;rw [HL.out] at this;omega
    generalize tgP xo l k=zs at *
    generalize (nthA l k).2.1=y at *
    have hki:(k:Int)<(n:Int):=by omega
    have HS:=hide (hS.below ((Below.refl _ _).alloc (Nat.le_refl _) (.cells #[.int .u32 y] 22)))
    have HG':=hide hg'
    have HP':=hide hp'
    have HLT:Hid (k+s≤n+2∧k<k+s):=⟨by omega,by omega⟩
    have hsz:w.heap.size<wr.heap.size:=(Array.getElem?_eq_some_iff.1 hS.box).1
    have hks:(k:Int)+(s:Int)<140737488351233:=by omega
    clear hS hgk hg' hp' hk hlt hkl hb c1 c2 c4 HS2
    go_wp2_with (at_builtin;refine wpList_appK rfl (.tmp 29) (.tmp 36) .u32 22 126 4 rfl Tryz.underlying126 TgW.info (by omega) (w.heap.size+1) _ zs y rfl wr.heap.size rfl (allocNew _ _ rfl) HS.out.own HPL.out (by simp;omega) ?_)
    intro g cap w5 ho5 hg5 _
    have HS5:=hide (HS.out.push (zs':=zs++[y]) hg5 (by simpa using ho5))
    clear ho5 hg5 HS
    go_wp2_with fail
    exact⟨⟨k+s,HLT.out.1,by simp,HG'.out,by rw [HP'.out];simpa using HS5.out⟩,by have h1:=HLT.out;simp [intOf];omega⟩
   ·have HPP:=hide (HPA.out k (by rw [HL.out];omega))
    have hki:¬ (k:Int)<(n:Int):=by omega
    have HS:=hide hS
    clear hS hgk HS2 hlt hk
    go_wp2_with fail
    go_ret
    have h1:=HS.out.own
    refine⟨_,rfl,?_,HS.out.bel⟩
    rw [HRE.out,← HPP.out]
    exact own_mono h1 (by omega)
theorem blkTargets_any (x:InstT) (a:Option Addr) (n c:Nat) (w:World) (hv:ArgsV w a x.2.2.2) (hl:x.2.2.2.length=n) (hm:24 * n≤140737488351232) :
  Calls Tryz.prog 93 #[instV x a n c] w fun e w'=>AnsW w w' e (tgL x):=by
 have hone:∀ k,k<x.2.2.2.length→tgB x.1 k=true→tgP x.1 x.2.2.2 (k+1)=tgP x.1 x.2.2.2 k++[(nthA x.2.2.2 k).2.1]:=fun k hk h=>by rw [tgP_one _ _ _ hk,h];rfl
 by_cases h1:x.1=249
 ·refine targets_loop x 0 1 (by simp [tgA,h1]) (by omega) (by omega) (by omega) (fun _=>True) trivial (by simp [tgP]) (fun k _ hk=>⟨trivial,hone k hk (by simp [tgB,h1])⟩) a n c w hv hl hm
 by_cases h2:x.1=250
 ·refine targets_loop x 1 1 (by simp [tgA,h2]) (by omega) (by omega) (by omega) (fun k=>0<k) (by omega) ?_ (fun k hg hk=>⟨by omega,hone k hk (by simp [tgB,h2,hg])⟩) a n c w hv hl hm
  by_cases hz:0<x.2.2.2.length
  ·rw [show (1:Nat)=0+1 from rfl,tgP_one _ _ _ hz]
   simp [tgP,tgB,h2]
  ·have:x.2.2.2.length=0:=by omega
   simp [tgP,this]
 by_cases h3:x.1=251
 ·refine targets_loop x 1 2 (by simp [tgA,h3]) (by omega) (by omega) (by omega) (fun k=>k % 2=1) (by omega) ?_ (fun k hg hk=>⟨by omega,?_⟩) a n c w hv hl hm
  ·by_cases hz:0<x.2.2.2.length
   ·rw [show (1:Nat)=0+1 from rfl,tgP_one _ _ _ hz]
    simp [tgP,tgB,h3]
   ·have:x.2.2.2.length=0:=by omega
    simp [tgP,this]
  ·have e1:=hone k hk (by simp [tgB,h3,hg])
   by_cases hk2:k+1<x.2.2.2.length
   ·rw [show k+2=(k+1)+1 from rfl,tgP_one _ _ _ hk2,e1]
    have:tgB x.1 (k+1)=false:=by simp [tgB,h3];omega
    rw [this];simp
   ·rw [tgP_past _ _ (k+2) (by omega),← e1]
    rw [tgP_past _ _ (k+1) (by omega)]
 ·have hn:∀ j,tgB x.1 j=false:=fun j=>by simp [tgB,h1,h2,h3]
  have HRE:Hid (tgL x=[]):=by show _=_;unfold tgL;rw [tgP_none _ _ _ hn];simp
  have hTA:=fun wx=>targetsAt_any x.1 wx
  have hA:tgA x.1=(0,0):=by simp [tgA,h1,h2,h3]
  rw [hA] at hTA
  generalize tgL x=RES at *
  obtain⟨xo,xt,xr,l⟩:=x
  unfold instV
  have hba:Below w.heap.size w (w.alloc (.cells #[.int .u16 xo,.int .u32 xt,.int .u32 xr,.slice a n c] 63)):=(Below.refl _ _).alloc (Nat.le_refl _) _
  have HBA:=hide hba
  have hta:=hTA (w.alloc (.cells #[.int .u16 xo,.int .u32 xt,.int .u32 xr,.slice a n c] 63))
  clear hba hTA hA hn hone h1 h2 h3 hv hl
  go_enter Tryz.func93,Tryz.ntmps93
  go_wp2_with fail
  refine hta.mono ?_
  rintro e w1 ⟨rfl,rfl⟩
  clear hta
  go_wp2_with fail
  go_ret
  rw [HRE.out]
  exact⟨_,rfl,World.ownsRow_nil _ _ _ _,HBA.out⟩
set_option maxHeartbeats 4000000 in
theorem refTargets14_any (x:InstT) (a:Option Addr) (n c:Nat) (w:World) (hv:ArgsV w a x.2.2.2) (hl:x.2.2.2.length=n) (hm:24 * n≤140737488351232) :
  Calls Tryz.prog 69 #[instV x a n c] w fun e w'=>AnsW w w' e (tgL x):=by
 have HTP:=hide (tgP_len x.1 x.2.2.2)
 have HT1:=hide (tgP_one x.1 x.2.2.2)
 have HTG:Hid (tgL x=if fitB x then tgP x.1 x.2.2.2 x.2.2.2.length else []):=rfl
 have hkl:(kindsL x.2.2.2).length=n:=by rw [kindsL,List.length_map];exact hl
 have hF:=fun ax cx wx (h:View .u8 wx ax (kindsL x.2.2.2))=>refFits_any x.1 ax n cx (kindsL x.2.2.2) wx h hkl (by omega)
 have HFB:Hid ((fitsI (lookF refT x.1).2 (lookF refT x.1).1 (kindsL x.2.2.2)).2=fitB x):=rfl
 generalize fitsI (lookF refT x.1).2 (lookF refT x.1).1 (kindsL x.2.2.2)=fi at *
 have HF:=hide hF
 have HKL:=hide hkl
 have HKN:=hide (kindsL_nth x.2.2.2)
 generalize hfb:fitB x=fb at *
 clear hfb
 generalize tgL x=RES at *
 have HV:=hide hv
 have HL:=hide hl
 clear hv hl hF hkl
 obtain⟨xo,xt,xr,l⟩:=x
 unfold instV at *
 simp only at *
 have hba:Below w.heap.size w (w.alloc (.cells #[.int .u16 xo,.int .u32 xt,.int .u32 xr,.slice a n c] 63)):=(Below.refl _ _).alloc (Nat.le_refl _) _
 have hbx:(w.alloc (.cells #[.int .u16 xo,.int .u32 xt,.int .u32 xr,.slice a n c] 63)).heap[w.heap.size]?=some (.cells #[.int .u16 xo,.int .u32 xt,.int .u32 xr,.slice a n c] 63 (0,0)):=allocNew _ _ rfl
 have HS0:Hid (TgS w (w.alloc (.cells #[.int .u16 xo,.int .u32 xt,.int .u32 xr,.slice a n c] 63)) .u8 5 (xo,xt,xr,l) a n c (.slice none 0 0) ((kindsL l).take 0)):=⟨World.ownsRow_nil _ _ _ _,hbx,hba⟩
 clear hba hbx
 go_enter Tryz.func69,Tryz.ntmps69
 go_wp2_with fail
 go_loopw [4,5] (fun v i wr=>∃ k:Nat,k≤n∧i=.int .i64 k∧TgS w wr .u8 5 (xo,xt,xr,l) a n c v ((kindsL l).take k)) (fun _ i _=>n - (intOf i).toNat)
 case atStart=>exact⟨0,Nat.zero_le _,rfl,HS0.out⟩
 case round =>
  obtain⟨k,hk,rfl,hS⟩:=hrel
  obtain⟨av,cv,rfl⟩:=own_shapeG hS.own
  have c3:=(one_block hS.box).1 3
  by_cases hlt:k<n
  ·have hkl:k<l.length:=by rw [HL.out];exact hlt
   obtain⟨b,off,rfl,hb,c1,c2,c4⟩:=HV.out k hkl
   have q1:=(hS.bel.cell (p:=⟨b,off+k * 3,none⟩) hb).trans c1
   have HSN:=hide (take_snoc (kindsL l) k (by rw [HKL.out];exact hlt))
   have HKK:=hide (HKN.out k hkl)
   rw [HKK.out] at HSN
   have HPL:Hid (((kindsL l).take k).length<17592186044415):=by show _<_;rw [List.length_take];omega
   generalize (kindsL l).take k=zs at *
   generalize (nthA l k).1=y at *
   have hki:(k:Int)<(n:Int):=by omega
   have HS:=hide (hS.below ((Below.refl _ _).alloc (Nat.le_refl _) (.cells #[.int .u8 y] 5)))
   have HLT:=hide hlt
   have hsz:w.heap.size<wr.heap.size:=(Array.getElem?_eq_some_iff.1 hS.box).1
   clear hS hk hlt hkl hb c1 c2 c4 HS0 HKK
   go_wp2_with (at_builtin;refine wpList_appK rfl (.tmp 16) (.tmp 23) .u8 5 171 1 rfl Tryz.underlying171 TgK.info (by omega) (w.heap.size+1) _ zs y rfl wr.heap.size rfl (allocNew _ _ rfl) HS.out.own HPL.out (by simp;omega) ?_)
   intro g cap w5 ho5 hg5 _
   have HS5:=hide (HS.out.push (zs':=zs++[y]) hg5 (by simpa using ho5))
   clear ho5 hg5 HS
   go_wp2_with fail
   exact⟨⟨k+1,HLT.out,by simp,by rw [HSN.out];simpa using HS5.out⟩,measZ2 HLT.out⟩
  ·have e:n=k:=by omega
   subst e
   have HTK:Hid ((kindsL l).take n=kindsL l):=by show _=_;rw [← HKL.out,List.take_length]
   have hV:=View.ofOwn hS.own (by simp)
   rw [HTK.out] at hV
   have hln:((kindsL l).take n).length=n:=by rw [HTK.out];exact HKL.out
   rw [hln]
   have hf:=HF.out av cv _ hV
   have c0:=(one_block hS.box).1 0
   have HBX:=hide hS.box
   have HBL:=hide hS.bel
   clear hS hV HS0 hk hln
   rename World=>wo
   go_wp2_with fail
   refine hf.mono ?_
   rintro e w2 ⟨rfl,hb2⟩
   have hS2:TgS w w2 .u32 22 (xo,xt,xr,l) a n c (.slice none 0 0) (tgP xo l 0):=⟨by simp only [tgP,Nat.zero_min];exact World.ownsRow_nil _ _ _ _,(hb2.block _ (Array.getElem?_eq_some_iff.1 HBX.out).1).trans HBX.out,HBL.out.trans (hb2.mono HBL.out.size)⟩
   have HS2:=hide hS2
   clear hf hb2 hS2 c3 c0 HBX HBL
   obtain⟨fi1,fi2⟩:=fi
   have HF2:Hid (fi2=fb):=HFB.out
   cases fi2 with
   | false =>
    have HRE:Hid (RES=[]):=by show _=_;rw [HTG.out,← HF2.out];rfl
    go_wp2_with fail
    go_ret
    rw [HRE.out]
    exact⟨_,rfl,World.ownsRow_nil _ _ _ _,HS2.out.bel⟩
   | true =>
    have HRE:Hid (RES=tgP xo l l.length):=by show _=_;rw [HTG.out,← HF2.out];rfl
    clear HF2 HFB
    go_wp2_with fail
    go_loopw [3,8] (fun v i wr=>∃ k:Nat,k≤n∧i=.int .i64 k∧TgS w wr .u32 22 (xo,xt,xr,l) a n c v (tgP xo l k)) (fun _ i _=>n - (intOf i).toNat)
    case atStart=>exact⟨0,Nat.zero_le _,rfl,HS2.out⟩
    case round =>
     obtain⟨k,hk,rfl,hS⟩:=hrel
     obtain⟨av,cv,rfl⟩:=own_shapeG hS.own
     have c3:=(one_block hS.box).1 3
     have c0:=(one_block hS.box).1 0
     by_cases hlt:k<n
     ·have hkl:k<l.length:=by rw [HL.out];exact hlt
      obtain⟨b,off,rfl,hb,c1,c2,c4⟩:=HV.out k hkl
      have q2:=(hS.bel.cell (p:=⟨b,off+k * 3+1,none⟩) hb).trans c2
      have HON:=hide (HT1.out k hkl)
      have HPL:Hid ((tgP xo l k).length<17592186044415):=by show _<_;have:=HTP.out k;rw [HL.out] at this;omega
      generalize tgP xo l k=zs at *
      generalize (nthA l k).2.1=y at *
      have hki:(k:Int)<(n:Int):=by omega
      have HLT:=hide hlt
      have hsz:w.heap.size<wr.heap.size:=(Array.getElem?_eq_some_iff.1 hS.box).1
      rcases Decidable.em (xo=249) with h249 | h249
      ·have ht:tgB xo k=true:=by simp [tgB,h249]
       have b1:(xo==249)=true:=by simp [h249]
       clear h249
       have HP':Hid (tgP xo l (k+1)=zs++[y]):=by show _=_;rw [HON.out,ht];rfl
       have HS:=hide (hS.below ((Below.refl _ _).alloc (Nat.le_refl _) (.cells #[.int .u32 y] 22)))
       clear hS hk hlt hkl hb c1 c2 c4 HS2 HON ht
       go_wp2_with (at_builtin;refine wpList_appK rfl (.tmp 64) (.tmp 71) .u32 22 126 4 rfl Tryz.underlying126 TgW.info (by omega) (w.heap.size+1) _ zs y rfl wr.heap.size rfl (allocNew _ _ rfl) HS.out.own HPL.out (by simp;omega) ?_)
       intro g cap w5 ho5 hg5 _
       have HS5:=hide (HS.out.push (zs':=zs++[y]) hg5 (by simpa using ho5))
       clear ho5 hg5 HS
       go_wp2_with fail
       exact⟨⟨k+1,HLT.out,by simp,by rw [HP'.out];simpa using HS5.out⟩,measZ2 HLT.out⟩
      have b1:(xo==249)=false:=by simpa using h249
      rcases Decidable.em (xo=250) with h250 | h250
      ·have b2:(xo==250)=true:=by simp [h250]
       rcases Nat.eq_zero_or_pos k with hk0 | hk0
       ·have ht:tgB xo k=false:=by simp [tgB,h250,hk0]
        subst hk0
        have b4:(xo==251)=false:=by simp [h250]
        clear h249 h250
        have HP':Hid (tgP xo l (0+1)=zs):=by show _=_;rw [HON.out,ht];simp
        have HS:=hide hS
        clear hS hk hlt hkl hb c1 c2 c4 HS2 HON ht
        go_wp2_with fail
        exact⟨⟨0+1,HLT.out,by simp,by rw [HP'.out];exact HS.out⟩,by have h1:=HLT.out;simp [intOf];omega⟩
       ·have ht:tgB xo k=true:=by simp [tgB,h250,hk0]
        have b3:(0:Int)<(k:Int):=by omega
        clear h249 h250 hk0
        have HP':Hid (tgP xo l (k+1)=zs++[y]):=by show _=_;rw [HON.out,ht];rfl
        have HS:=hide (hS.below ((Below.refl _ _).alloc (Nat.le_refl _) (.cells #[.int .u32 y] 22)))
        clear hS hk hlt hkl hb c1 c2 c4 HS2 HON ht
        go_wp2_with (at_builtin;refine wpList_appK rfl (.tmp 64) (.tmp 71) .u32 22 126 4 rfl Tryz.underlying126 TgW.info (by omega) (w.heap.size+1) _ zs y rfl wr.heap.size rfl (allocNew _ _ rfl) HS.out.own HPL.out (by simp;omega) ?_)
        intro g cap w5 ho5 hg5 _
        have HS5:=hide (HS.out.push (zs':=zs++[y]) hg5 (by simpa using ho5))
        clear ho5 hg5 HS
        go_wp2_with fail
        exact⟨⟨k+1,HLT.out,by simp,by rw [HP'.out];simpa using HS5.out⟩,measZ2 HLT.out⟩
      have b2:(xo==250)=false:=by simpa using h250
      rcases Decidable.em (xo=251) with h251 | h251
      ·have b4:(xo==251)=true:=by simp [h251]
       rcases Decidable.em (k % 2=1) with hk0 | hk0
       ·have ht:tgB xo k=true:=by simp [tgB,h251,hk0]
        have b3:((k:Int) % 2==1)=true:=by
         have:(k:Int) % 2=1:=by omega
         simp [this]
        clear h249 h250 h251 hk0
        have HP':Hid (tgP xo l (k+1)=zs++[y]):=by show _=_;rw [HON.out,ht];rfl
        have HS:=hide (hS.below ((Below.refl _ _).alloc (Nat.le_refl _) (.cells #[.int .u32 y] 22)))
        clear hS hk hlt hkl hb c1 c2 c4 HS2 HON ht
        go_wp2_with (at_builtin;refine wpList_appK rfl (.tmp 64) (.tmp 71) .u32 22 126 4 rfl Tryz.underlying126 TgW.info (by omega) (w.heap.size+1) _ zs y rfl wr.heap.size rfl (allocNew _ _ rfl) HS.out.own HPL.out (by simp;omega) ?_)
        intro g cap w5 ho5 hg5 _
        have HS5:=hide (HS.out.push (zs':=zs++[y]) hg5 (by simpa using ho5))
        clear ho5 hg5 HS
        go_wp2_with fail
        exact⟨⟨k+1,HLT.out,by simp,by rw [HP'.out];simpa using HS5.out⟩,measZ2 HLT.out⟩
       ·have ht:tgB xo k=false:=by simp [tgB,h251,hk0]
        have b3:((k:Int) % 2==1)=false:=by
         have:¬ (k:Int) % 2=1:=by omega
         simpa using this
        clear h249 h250 h251 hk0
        have HP':Hid (tgP xo l (k+1)=zs):=by show _=_;rw [HON.out,ht];simp
        have HS:=hide hS
        clear hS hk hlt hkl hb c1 c2 c4 HS2 HON ht
        go_wp2_with fail
        exact⟨⟨k+1,HLT.out,by simp,by rw [HP'.out];exact HS.out⟩,measZ2 HLT.out⟩
      have b4:(xo==251)=false:=by simpa using h251
      have ht:tgB xo k=false:=by simp [tgB,h249,h250,h251]
      clear h249 h250 h251
      have HP':Hid (tgP xo l (k+1)=zs):=by show _=_;rw [HON.out,ht];simp
      have HS:=hide hS
      clear hS hk hlt hkl hb c1 c2 c4 HS2 HON ht
      go_wp2_with fail
      exact⟨⟨k+1,HLT.out,by simp,by rw [HP'.out];exact HS.out⟩,measZ2 HLT.out⟩
     ·have e:n=k:=by omega
      subst e
      have HS:=hide hS
      clear hS HS2 hk
      go_wp2_with fail
      go_ret
      have h1:=HS.out.own
      refine⟨_,rfl,?_,HS.out.bel⟩
      rw [HRE.out,HL.out]
      exact own_mono h1 (by omega)
end Go.Proofs.YtlcaedibmlidlaaGreat
