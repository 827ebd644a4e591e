/-
  Texts in one: LayoutKindE, LayoutKindF, LayoutKindOf, KitInst, KitModule, LayoutWalk0, LayoutEnds, MathK, LayoutRows, LayoutReads.
-/
import Derived.Test.YtlcaedibmlidlaaGreatB08
namespace Go.Proofs.YtlcaedibmlidlaaGreat
open Go.RowKit
set_option linter.unusedVariables false
set_option linter.unusedSimpArgs false
set_option maxHeartbeats 1000000 in
theorem kindOf_255 (w:World):Calls Tryz.prog 131 #[.int .u16 255] w fun e w'=>e=.returned (.int .u16 512)∧w=w':=by
 go_enter Tryz.func131,Tryz.ntmps131
 go_wp2
 go_ret
 simp [or512,or1024,or2048,or2560,or3072,or3584]
set_option maxHeartbeats 1000000 in
theorem kindOf_251 (w:World):Calls Tryz.prog 131 #[.int .u16 251] w fun e w'=>e=.returned (.int .u16 1536)∧w=w':=by
 go_enter Tryz.func131,Tryz.ntmps131
 go_wp2
 go_ret
 simp [or512,or1024,or2048,or2560,or3072,or3584]
set_option maxHeartbeats 1000000 in
theorem kindOf_other (op:Int) (w:World) (h54:(op==54)=false) (h55:(op==55)=false) (h56:(op==56)=false) (h248:(op==248)=false) (h59:(op==59)=false) (h245:(op==245)=false) (h247:(op==247)=false) (h246:(op==246)=false) (h250:(op==250)=false) (h249:(op==249)=false) (h252:(op==252)=false) (h253:(op==253)=false) (h254:(op==254)=false) (h255:(op==255)=false) (h251:(op==251)=false):Calls Tryz.prog 131 #[.int .u16 op] w fun e w'=>e=.returned (.int .u16 64)∧w=w':=by
 go_enter Tryz.func131,Tryz.ntmps131
 go_wp2
 go_ret
 simp
def kindOp (op:Int):Int :=
 if op=54 then 1 else if op=55 then 2 else if op=56 then 4 else if op=248 then 8 else if op=59 then 16 else if op=245 then 32 else if op=247 then 128 else if op=246 then 256
 else if op=250 then 3584 else if op=249 then 2560 else if op=252∨op=253∨op=254∨op=255 then 512 else if op=251 then 1536 else 64
def endsB (op:Int):Bool:=decide (249≤op) && decide (op≤255)
theorem kindOf_any (op:Int) (w:World):Calls Tryz.prog 131 #[.int .u16 op] w fun e w'=>e=.returned (.int .u16 (kindOp op))∧w=w':=by
 by_cases h54:op=54
 ·subst h54;exact kindOf_54 w
 by_cases h55:op=55
 ·subst h55;exact kindOf_55 w
 by_cases h56:op=56
 ·subst h56;exact kindOf_56 w
 by_cases h248:op=248
 ·subst h248;exact kindOf_248 w
 by_cases h59:op=59
 ·subst h59;exact kindOf_59 w
 by_cases h245:op=245
 ·subst h245;exact kindOf_245 w
 by_cases h247:op=247
 ·subst h247;exact kindOf_247 w
 by_cases h246:op=246
 ·subst h246;exact kindOf_246 w
 by_cases h250:op=250
 ·subst h250;exact kindOf_250 w
 by_cases h249:op=249
 ·subst h249;exact kindOf_249 w
 by_cases h252:op=252
 ·subst h252;exact kindOf_252 w
 by_cases h253:op=253
 ·subst h253;exact kindOf_253 w
 by_cases h254:op=254
 ·subst h254;exact kindOf_254 w
 by_cases h255:op=255
 ·subst h255;exact kindOf_255 w
 by_cases h251:op=251
 ·subst h251;exact kindOf_251 w
 have e:kindOp op=64:=by
  unfold kindOp
  simp [h54,h55,h56,h248,h59,h245,h247,h246,h250,h249,h252,h253,h254,h255,h251]
 rw [e]
 exact kindOf_other op w (by simpa using h54) (by simpa using h55) (by simpa using h56) (by simpa using h248) (by simpa using h59) (by simpa using h245) (by simpa using h247) (by simpa using h246) (by simpa using h250) (by simpa using h249) (by simpa using h252) (by simpa using h253) (by simpa using h254) (by simpa using h255) (by simpa using h251)
set_option maxRecDepth 10000
theorem two_boxes (w:World) (o p:Obj):Below w.heap.size w ((w.alloc o).alloc p):=((Below.refl _ w).alloc (Nat.le_refl _) _).alloc (by simp) _
set_option maxHeartbeats 1000000 in
theorem kitInst_any (x y:InstT) (ax ay:Option Addr) (n m cx cy:Nat) (w:World) (hx:ArgsV w ax x.2.2.2) (hy:ArgsV w ay y.2.2.2) (hlx:x.2.2.2.length=n) (hly:y.2.2.2.length=m) (hn:n≤140737488351232) (hm:m≤140737488351232) :
  Calls Tryz.prog 77 #[instV x ax n cx,instV y ay m cy] w fun e w'=>e=.returned (.bool (decide (x=y)))∧Below w.heap.size w w':=by
 obtain⟨xo,xt,xr,xl⟩:=x
 obtain⟨yo,yt,yr,yl⟩:=y
 unfold instV
 simp only at *
 have HLX:Hid (xl.length=n):=hlx
 have HLY:Hid (yl.length=m):=hly
 clear hlx hly
 by_cases H:xo=yo∧xt=yt∧xr=yr∧n=m
 ·obtain⟨rfl,rfl,rfl,rfl⟩:=H
  have e1:decide ((xo,xt,xr,xl)=(xo,xt,xr,yl))=decide (xl=yl):=by simp
  rw [e1]
  go_enter Tryz.func77,Tryz.ntmps77
  go_wp2
  have hB:=two_boxes w (.cells #[.int .u16 xo,.int .u32 xt,.int .u32 xr,.slice ax n cx] 63) (.cells #[.int .u16 xo,.int .u32 xt,.int .u32 xr,.slice ay n cy] 63)
  have hx1:=hx.below hB
  have hy1:=hy.below hB
  have hA:((w.alloc (.cells #[.int .u16 xo,.int .u32 xt,.int .u32 xr,.slice ax n cx] 63)).alloc (.cells #[.int .u16 xo,.int .u32 xt,.int .u32 xr,.slice ay n cy] 63)).cell? ⟨w.heap.size,3,none⟩=some (.slice ax n cx):=by simp [go_sem]
  have hA2:((w.alloc (.cells #[.int .u16 xo,.int .u32 xt,.int .u32 xr,.slice ax n cx] 63)).alloc (.cells #[.int .u16 xo,.int .u32 xt,.int .u32 xr,.slice ay n cy] 63)).cell? ⟨w.heap.size+1,3,none⟩=some (.slice ay n cy):=by simp [go_sem]
  generalize ((w.alloc (.cells #[.int .u16 xo,.int .u32 xt,.int .u32 xr,.slice ax n cx] 63)).alloc (.cells #[.int .u16 xo,.int .u32 xt,.int .u32 xr,.slice ay n cy] 63))=W at *
  clear hx hy
  go_loopw [5] (fun i wr=>∃ k q:Nat,k≤n∧i=.int .i64 k∧wr=W.drewN q∧∀ j,j<k→nthA xl j=nthA yl j) (fun i _=>n - (intOf i).toNat)
  case atStart=>exact⟨0,0,Nat.zero_le _,rfl,rfl,fun j hj=>by omega⟩
  case round =>
   obtain⟨k,q,hk,rfl,rfl,hall⟩:=hrel
   have HALL:Hid (∀ j,j<k→nthA xl j=nthA yl j):=hall
   clear hall
   by_cases hlt:k<n
   ·obtain⟨b1,o1,rfl,_,c1,c2,c3⟩:=hx1 k (by rw [HLX.out];exact hlt)
    obtain⟨b2,o2,rfl,_,d1,d2,d3⟩:=hy1 k (by rw [HLY.out];exact hlt)
    have hk0:(0:Int)≤(k:Int):=by omega
    have hki:(k:Int)<(n:Int):=by omega
    by_cases he:nthA xl k=nthA yl k
    ·rw [← he] at d1 d2 d3
     obtain⟨z,hz⟩:∃ z,z=nthA xl k:=⟨_,rfl⟩
     obtain⟨z1,z2,z3⟩:=z
     rw [← hz] at c1 c2 c3 d1 d2 d3
     have HE:Hid (nthA xl k=nthA yl k):=he
     clear hx1 hy1 hz he
     go_wp2
     go_quiet (fail)
     go_wp2
     go_roundw
     case rel=>exact⟨k+1,_,by omega,by go_num,rfl,fun j hj=>by
      by_cases hjk:j<k
      ·exact HALL.out j hjk
      ·obtain rfl:j=k:=by omega
       exact HE.out⟩
     case measure=>simp [intOf];omega
    ·obtain⟨z,hz⟩:∃ z,z=nthA xl k:=⟨_,rfl⟩
     obtain⟨y,hy⟩:∃ y,y=nthA yl k:=⟨_,rfl⟩
     rw [← hz] at c1 c2 c3
     rw [← hy] at d1 d2 d3
     have HE:Hid (decide (xl=yl)=false):=decide_eq_false (fun h=>he (by rw [h]))
     rw [← hz,← hy] at he
     obtain⟨z1,z2,z3⟩:=z
     obtain⟨y1,y2,y3⟩:=y
     clear hx1 hy1 hz hy
     by_cases h1:z1=y1
     ·subst h1
      by_cases h2:z2=y2
      ·subst h2
       have h3:¬ z3.toList=y3.toList:=fun h=>he (by rw [str_inj h])
       clear he
       go_wp2
       go_quiet (fail)
       go_wp2
       go_ret
       exact⟨by rw [HE.out];rfl,bel_drewN (bel_drewN hB q) _⟩
      ·clear he
       go_wp2
       go_quiet (fail)
       go_wp2
       go_ret
       exact⟨by rw [HE.out];rfl,bel_drewN (bel_drewN hB q) _⟩
     ·clear he
      go_wp2
      go_quiet (fail)
      go_wp2
      go_ret
      exact⟨by rw [HE.out];rfl,bel_drewN (bel_drewN hB q) _⟩
   ·go_wp2
    go_ret
    refine⟨?_,bel_drewN hB q⟩
    obtain rfl:k=n:=by omega
    show Ending.returned (.bool true)=_
    rw [decide_eq_true]
    exact (argsEq_iff _ _).2 ⟨by rw [HLX.out,HLY.out],fun j hj=>HALL.out j (by rw [← HLX.out];exact hj)⟩
 ·have e1:decide ((xo,xt,xr,xl)=(yo,yt,yr,yl))=false:=by
   rw [decide_eq_false]
   intro h
   simp only [Prod.mk.injEq] at h
   obtain⟨rfl,rfl,rfl,rfl⟩:=h
   exact H ⟨rfl,rfl,rfl,HLX.out.symm.trans HLY.out⟩
  rw [e1]
  go_enter Tryz.func77,Tryz.ntmps77
  go_wp2
  all_goals first | (exfalso;apply H;refine⟨rfl,rfl,rfl,?_⟩;omega) | (go_ret;exact⟨rfl,two_boxes _ _ _⟩)
def modV (g b:Int) (a:Option Addr) (n c:Nat):Value:=.agg #[.int .u32 g,.int .u32 b,.slice a n c]
set_option maxHeartbeats 2000000 in
theorem kitModule_any (g1 b1 g2 b2:Int) (l m:List InstT) (ax ay:Option Addr) (nx ny cx cy:Nat) (w:World) (hx:InstsV w ax l) (hy:InstsV w ay m) (hlx:l.length=nx) (hly:m.length=ny) (hokx:InstsOk l) (hoky:InstsOk m) (hnx:nx≤140737488351232) (hny:ny≤140737488351232) (r:Bool) (hr:r=true↔(g1=g2∧b1=b2∧l=m)) :
  Calls Tryz.prog 26 #[modV g1 b1 ax nx cx,modV g2 b2 ay ny cy] w fun e w'=>e=.returned (.bool r)∧Below w.heap.size w w':=by
 have HR:Hid (r=true↔(g1=g2∧b1=b2∧l=m)):=hr
 clear hr
 unfold modV
 have HLX:Hid (l.length=nx):=hlx
 have HLY:Hid (m.length=ny):=hly
 clear hlx hly
 by_cases H:g1=g2∧b1=b2∧nx=ny
 ·obtain⟨rfl,rfl,rfl⟩:=H
  go_enter Tryz.func26,Tryz.ntmps26
  go_wp2
  have hB:=two_boxes w (.cells #[.int .u32 g1,.int .u32 b1,.slice ax nx cx] 25) (.cells #[.int .u32 g1,.int .u32 b1,.slice ay nx cy] 25)
  have hx1:=hx.below hB
  have hy1:=hy.below hB
  have hs:w.heap.size+2=((w.alloc (.cells #[.int .u32 g1,.int .u32 b1,.slice ax nx cx] 25)).alloc (.cells #[.int .u32 g1,.int .u32 b1,.slice ay nx cy] 25)).heap.size:=by simp
  have hA:((w.alloc (.cells #[.int .u32 g1,.int .u32 b1,.slice ax nx cx] 25)).alloc (.cells #[.int .u32 g1,.int .u32 b1,.slice ay nx cy] 25)).cell? ⟨w.heap.size,2,none⟩=some (.slice ax nx cx):=by simp [go_sem]
  have hA2:((w.alloc (.cells #[.int .u32 g1,.int .u32 b1,.slice ax nx cx] 25)).alloc (.cells #[.int .u32 g1,.int .u32 b1,.slice ay nx cy] 25)).cell? ⟨w.heap.size+1,2,none⟩=some (.slice ay nx cy):=by simp [go_sem]
  generalize ((w.alloc (.cells #[.int .u32 g1,.int .u32 b1,.slice ax nx cx] 25)).alloc (.cells #[.int .u32 g1,.int .u32 b1,.slice ay nx cy] 25))=W at *
  clear hx hy
  go_loopw [5] (fun i wr=>∃ k:Nat,k≤nx∧i=.int .i64 k∧Below W.heap.size W wr∧∀ j,j<k→nthI l j=nthI m j) (fun i _=>nx - (intOf i).toNat)
  case atStart=>exact⟨0,Nat.zero_le _,rfl,Below.refl _ _,fun j hj=>by omega⟩
  case round =>
   obtain⟨k,hk,rfl,hbr,hall⟩:=hrel
   have HALL:Hid (∀ j,j<k→nthI l j=nthI m j):=hall
   clear hall
   have hs2:=hbr.size
   have hA1:=(hbr.cell (p:=⟨w.heap.size,2,none⟩) (by show w.heap.size<_;omega)).trans hA
   have hA3:=(hbr.cell (p:=⟨w.heap.size+1,2,none⟩) (by show w.heap.size+1<_;omega)).trans hA2
   by_cases hlt:k<nx
   ·obtain⟨b1,o1,p1,k1,n1,rfl,l1,c1,c2,c3,c4,c5,c6,_⟩:=hx1 k (by rw [HLX.out];exact hlt)
    obtain⟨b2,o2,p2,k2,n2,rfl,l2,d1,d2,d3,d4,d5,d6,_⟩:=hy1 k (by rw [HLY.out];exact hlt)
    have hk0:(0:Int)≤(k:Int):=by omega
    have hki:(k:Int)<(nx:Int):=by omega
    have s1:=(hokx k (by rw [HLX.out];exact hlt)).2.2.2.2.2.2.2
    have s2:=(hoky k (by rw [HLY.out];exact hlt)).2.2.2.2.2.2.2
    rw [c5] at s1
    rw [d5] at s2
    have hC:=fun wx (hb:Below W.heap.size W wx)=>kitInst_any (nthI l k) (nthI m k) p1 p2 n1 n2 k1 k2 wx (c6.below hb) (d6.below hb) c5 d5 (by omega) (by omega)
    unfold instV at hC
    replace c1:=(hbr.cell (p:=⟨b1,o1+k * 4,none⟩) l1).trans c1
    replace c2:=(hbr.cell (p:=⟨b1,o1+k * 4+1,none⟩) l1).trans c2
    replace c3:=(hbr.cell (p:=⟨b1,o1+k * 4+2,none⟩) l1).trans c3
    replace c4:=(hbr.cell (p:=⟨b1,o1+k * 4+3,none⟩) l1).trans c4
    replace d1:=(hbr.cell (p:=⟨b2,o2+k * 4,none⟩) l2).trans d1
    replace d2:=(hbr.cell (p:=⟨b2,o2+k * 4+1,none⟩) l2).trans d2
    replace d3:=(hbr.cell (p:=⟨b2,o2+k * 4+2,none⟩) l2).trans d3
    replace d4:=(hbr.cell (p:=⟨b2,o2+k * 4+3,none⟩) l2).trans d4
    clear hx1 hy1 hA hA2 c5 c6 d5 d6 s1 s2
    by_cases he:nthI l k=nthI m k
    ·have HE:Hid (nthI l k=nthI m k):=he
     rw [decide_eq_true he] at hC
     clear he
     go_wp2
     go_region_with ((go_at_call 77;refine (hC _ (by first | exact hbr | exact hbr.drew)).mono ?_;rintro e w' ⟨rfl,hbC⟩))
     all_goals
      have hbC':Below W.heap.size W w':=by first | exact hbr.trans (hbC.mono hs2) | exact hbr.drew.trans (hbC.mono (by exact hs2))
      clear hbC
      go_wp2
      go_roundw
      case rel=>exact⟨k+1,by omega,by go_num,by first | exact hbC' | exact hbC'.drew,fun j hj=>by
       by_cases hjk:j<k
       ·exact HALL.out j hjk
       ·obtain rfl:j=k:=by omega
        exact HE.out⟩
      case measure=>simp [intOf];omega
    ·have HE:Hid (r=false):=by
      show r=false
      rw [← Bool.not_eq_true]
      intro hr
      obtain⟨_,_,h⟩:=HR.out.1 hr
      exact he (by rw [h])
     rw [decide_eq_false he] at hC
     clear he
     go_wp2
     go_region_with ((go_at_call 77;refine (hC _ (by first | exact hbr | exact hbr.drew)).mono ?_;rintro e w' ⟨rfl,hbC⟩))
     all_goals
      have hbC':Below W.heap.size W w':=by first | exact hbr.trans (hbC.mono hs2) | exact hbr.drew.trans (hbC.mono (by exact hs2))
      clear hbC
      go_wp2
      go_ret
      refine⟨by rw [HE.out];rfl,?_⟩
      first | exact hB.trans (hbC'.mono (by omega)) | exact (hB.trans (hbC'.mono (by omega))).drew
   ·go_wp2
    go_ret
    refine⟨?_,hB.trans (hbr.mono (by omega))⟩
    obtain rfl:k=nx:=by omega
    show Ending.returned (.bool true)=_
    rw [HR.out.2 ⟨trivial,trivial,(instsEq_iff _ _).2 ⟨by rw [HLX.out,HLY.out],fun j hj=>HALL.out j (by rw [← HLX.out];exact hj)⟩⟩]
 ·have e1:r=false:=by
   rw [← Bool.not_eq_true]
   intro hr
   obtain⟨h1,h2,h3⟩:=HR.out.1 hr
   exact H ⟨h1,h2,by rw [← HLX.out,← HLY.out,h3]⟩
  subst e1
  go_enter Tryz.func26,Tryz.ntmps26
  go_wp2
  all_goals first | (exfalso;apply H;refine⟨rfl,rfl,?_⟩;omega) | (go_ret;exact⟨rfl,two_boxes _ _ _⟩)
def partO (op:Int):Int:=if (lookF refT op).2 then (lookF refT op).1.2.2.2.2.2.2 else 0
def partI (x:InstT):Int:=if x.1=59∧(nthA x.2.2.2 0).2.1=7 then 8 else partO x.1
def kindX (x:InstT):Int:=if partI x=8 then kindOp x.1 else 0
def partAt (l:List InstT) (k:Nat):Int:=if k<l.length then partI (nthI l k) else 9
def kindAt (l:List InstT) (k:Nat):Int:=if k<l.length then kindX (nthI l k) else 0
theorem var_args {x:InstT} {b:Int} (h:rawE x b=0) (h5:x.1=59):1≤x.2.2.2.length:=by
 obtain⟨h1,h2,_⟩:=rawWs_ok h
 have h4:=(faultI_zero h2).2.2.2.1
 rw [h5] at h4
 have e1:(lookF refT 59).1.2.2.2.1.size=1:=by kernel_rfl
 unfold wholeN at h4
 rw [e1] at h4
 split at h4
 ·cases h4
 ·omega
structure KeepB (B : Nat) (w w' : World) : Prop where
  os : w'.os = w.os
  tape : w'.tape = w.tape
  output : w'.output = w.output
  size : w.heap.size ≤ w'.heap.size
  block : ∀ k, k < w.heap.size → k ≠ B → w'.heap[k]? = w.heap[k]?
theorem KeepB.refl (B:Nat) (w:World):KeepB B w w:=⟨rfl,rfl,rfl,Nat.le_refl _,fun _ _ _=>rfl⟩
theorem KeepB.trans {B:Nat} {w w' w'':World} (h:KeepB B w w') (h':KeepB B w' w''):KeepB B w w'' :=
 ⟨h'.os.trans h.os,h'.tape.trans h.tape,h'.output.trans h.output,Nat.le_trans h.size h'.size,fun k hk hb=>(h'.block k (Nat.lt_of_lt_of_le hk h.size) hb).trans (h.block k hk hb)⟩
theorem KeepB.of_below {B:Nat} {w w':World} (h:Below w.heap.size w w'):KeepB B w w':=⟨h.os,h.tape,h.output,h.size,fun k hk _=>h.block k hk⟩
theorem KeepB.set {B:Nat} (w:World) (i:Nat) (v:Value):KeepB B w (w.setCell ⟨B,i,none⟩ v):=⟨rfl,rfl,rfl,by rw [World.size_setCell];exact Nat.le_refl _,fun k _ hb=>Below.heap_setCell _ _ _ _ (by simpa using hb)⟩
structure WkB (B : Nat) (ins : Value) (ps : Nat → Int) (fv : Value) (at_ part kind : Int) (W : World) : Prop where
  blk : ∃ cs : Array Value, W.heap[B]? = some (.cells cs 86 (0, 0)) ∧ cs.size = 25 ∧ cs[0]? = some ins ∧ (∀ i, i < 20 → cs[1 + i]? = some (.int .i64 (ps i))) ∧ cs[21]? = some fv ∧ cs[22]? = some (.int .i64 at_) ∧ cs[23]? = some (.int .u8 part) ∧ cs[24]? = some (.int .u16 kind)
theorem WkB.lt {B:Nat} {ins:Value} {ps:Nat→Int} {fv:Value} {at_ part kind:Int} {W:World} (h:WkB B ins ps fv at_ part kind W):B<W.heap.size:=by obtain⟨cs,h1,_⟩:=h.blk;exact (Array.getElem?_eq_some_iff.1 h1).1
theorem WkB.block {B:Nat} {ins:Value} {ps:Nat→Int} {fv:Value} {at_ part kind:Int} {W W':World} (h:WkB B ins ps fv at_ part kind W) (hb:W'.heap[B]?=W.heap[B]?):WkB B ins ps fv at_ part kind W':=by
 obtain⟨cs,h1,h2⟩:=h.blk;exact⟨cs,hb.trans h1,h2⟩
theorem WkB.below {B:Nat} {ins:Value} {ps:Nat→Int} {fv:Value} {at_ part kind:Int} {W W':World} (h:WkB B ins ps fv at_ part kind W) (hb:Below W.heap.size W W'):WkB B ins ps fv at_ part kind W':=h.block (hb.block B h.lt)
theorem WkB.cells {B:Nat} {ins:Value} {ps:Nat→Int} {fv:Value} {at_ part kind:Int} {W:World} (h:WkB B ins ps fv at_ part kind W):W.cell? ⟨B,0,none⟩=some ins∧(∀ i,i<20→W.cell? ⟨B,1+i,none⟩=some (.int .i64 (ps i)))∧W.cell? ⟨B,21,none⟩=some fv∧W.cell? ⟨B,22,none⟩=some (.int .i64 at_)∧W.cell? ⟨B,23,none⟩=some (.int .u8 part)∧W.cell? ⟨B,24,none⟩=some (.int .u16 kind)∧∀ i,W.frozen? ⟨B,i,none⟩=false:=by
 obtain⟨cs,h1,h2,h3,h4,h5,h6,h7,h8⟩:=h.blk
 have e:∀ i,W.cell? ⟨B,i,none⟩=cs[i]?:=fun i=>by simp [World.cell?,h1]
 exact⟨(e 0).trans h3,fun i hi=>(e _).trans (h4 i hi),(e 21).trans h5,(e 22).trans h6,(e 23).trans h7,(e 24).trans h8,fun i=>by simp [World.frozen?,h1]⟩
theorem WkB.put {B:Nat} {ins:Value} {ps:Nat→Int} {fv:Value} {at_ part kind:Int} {W:World} (h:WkB B ins ps fv at_ part kind W) (i:Nat) (v:Value) {ins':Value} {ps':Nat→Int} {fv':Value} {at' part' kind':Int}
  (k0:(if i=0 then v else ins)=ins') (kp:∀ j,j<20→(if i=1+j then v else .int .i64 (ps j))=.int .i64 (ps' j)) (k21:(if i=21 then v else fv)=fv') (k22:(if i=22 then v else .int .i64 at_)=.int .i64 at') (k23:(if i=23 then v else .int .u8 part)=.int .u8 part') (k24:(if i=24 then v else .int .u16 kind)=.int .u16 kind'):WkB B ins' ps' fv' at' part' kind' (W.setCell ⟨B,i,none⟩ v):=by
 obtain⟨cs,h1,h2,h3,h4,h5,h6,h7,h8⟩:=h.blk
 have e:∀ (j:Nat) (u u':Value),j<25→cs[j]?=some u→(if i=j then v else u)=u'→(cs.setIfInBounds i v)[j]?=some u':=fun j u u' hj hu hk=>by
  by_cases hij:i=j
  ·subst hij;rw [if_pos rfl] at hk;rw [Array.getElem?_setIfInBounds_self_of_lt (by omega),hk]
  ·rw [if_neg hij] at hk;rw [Array.getElem?_setIfInBounds_ne hij,hu,hk]
 exact⟨cs.setIfInBounds i v,by simp [World.setCell,Array.getElem?_modify,h1],by simp [h2],e 0 _ _ (by omega) h3 k0,fun j hj=>e (1+j) _ _ (by omega) (h4 j hj) (kp j hj),e 21 _ _ (by omega) h5 k21,e 22 _ _ (by omega) h6 k22,e 23 _ _ (by omega) h7 k23,e 24 _ _ (by omega) h8 k24⟩
theorem WkB.setAt {B:Nat} {ins:Value} {ps:Nat→Int} {fv:Value} {at_ part kind:Int} {W:World} (h:WkB B ins ps fv at_ part kind W) (x:Int):WkB B ins ps fv x part kind (W.setCell ⟨B,22,none⟩ (.int .i64 x)):=h.put 22 _ (by simp) (fun j hj=>by rw [if_neg (by omega)]) (by simp) (by simp) (by simp) (by simp)
theorem WkB.setPart {B:Nat} {ins:Value} {ps:Nat→Int} {fv:Value} {at_ part kind:Int} {W:World} (h:WkB B ins ps fv at_ part kind W) (x:Int):WkB B ins ps fv at_ x kind (W.setCell ⟨B,23,none⟩ (.int .u8 x)):=h.put 23 _ (by simp) (fun j hj=>by rw [if_neg (by omega)]) (by simp) (by simp) (by simp) (by simp)
theorem WkB.setKind {B:Nat} {ins:Value} {ps:Nat→Int} {fv:Value} {at_ part kind:Int} {W:World} (h:WkB B ins ps fv at_ part kind W) (x:Int):WkB B ins ps fv at_ part x (W.setCell ⟨B,24,none⟩ (.int .u16 x)):=h.put 24 _ (by simp) (fun j hj=>by rw [if_neg (by omega)]) (by simp) (by simp) (by simp) (by simp)
theorem WkB.setFuncs {B:Nat} {ins:Value} {ps:Nat→Int} {fv:Value} {at_ part kind:Int} {W:World} (h:WkB B ins ps fv at_ part kind W) (x:Value):WkB B ins ps x at_ part kind (W.setCell ⟨B,21,none⟩ x):=h.put 21 _ (by simp) (fun j hj=>by rw [if_neg (by omega)]) (by simp) (by simp) (by simp) (by simp)
theorem WkB.setSpan {B:Nat} {ins:Value} {ps:Nat→Int} {fv:Value} {at_ part kind:Int} {W:World} (h:WkB B ins ps fv at_ part kind W) (i:Nat) (hi:i<20) (x:Int):WkB B ins (fun j=>if j=i then x else ps j) fv at_ part kind (W.setCell ⟨B,1+i,none⟩ (.int .i64 x)):=h.put (1+i) _ (by rw [if_neg (by omega)]) (fun j hj=>by by_cases e:j=i <;> simp [e];intro e2;exact absurd (by omega) e) (by rw [if_neg (by omega)]) (by rw [if_neg (by omega)]) (by rw [if_neg (by omega)]) (by rw [if_neg (by omega)])
set_option maxHeartbeats 4000000 in
theorem partOf_any (x:InstT) (ax:Option Addr) (n cx:Nat) (w:World) (hv:ArgsV w ax x.2.2.2) (hl:x.2.2.2.length=n) (h59:x.1=59→1≤n) :
  Calls Tryz.prog 130 #[instV x ax n cx] w fun e w'=>e=.returned (.int .u8 (partI x))∧Below w.heap.size w w':=by
 obtain⟨xo,xt,xr,xl⟩:=x
 unfold instV partI
 simp only at *
 have hO:=fun wx=>of_any xo wx
 have hba:Below w.heap.size w (w.alloc (.cells #[.int .u16 xo,.int .u32 xt,.int .u32 xr,.slice ax n cx] 63)):=(Below.refl _ w).alloc (Nat.le_refl _) _
 have HBA:=hide hba
 have hof:∃ nm ty re fx rs mo o,ofV xo=.agg #[.int .u16 o,.string nm,.bool ty,.bool re,.string fx,.string rs,.int .i64 mo,.int .u8 (partO xo)]:=by
  unfold ofV partO formV
  cases h:(lookF refT xo).2 with
  | true=>exact⟨_,_,_,_,_,_,_,by simp;exact⟨rfl,rfl,rfl,rfl,rfl,rfl,rfl⟩⟩
  | false=>exact⟨_,_,_,_,_,_,_,by simp [noFrm];exact⟨rfl,rfl,rfl,rfl,rfl,rfl,rfl⟩⟩
 obtain⟨nm,ty,re,fx,rs,mo,o,ho⟩:=hof
 rw [ho] at hO
 generalize hp:partO xo=po at *
 have OTHER:¬ (xo=59∧(nthA xl 0).2.1=7)→Calls Tryz.prog 130 #[.agg #[.int .u16 xo,.int .u32 xt,.int .u32 xr,.slice ax n cx]] w fun e w'=>e=.returned (.int .u8 po)∧Below w.heap.size w w':=by
  intro hno
  by_cases h1:xo=59
  ·subst h1
   have h7:(nthA xl 0).2.1≠7:=fun e=>hno ⟨rfl,e⟩
   obtain⟨ba,oa,rfl,hb,z0,z1,z2⟩:=hv 0 (by have:=h59 rfl;omega)
   have hn0:(0:Int)<(n:Int):=by have:=h59 rfl;omega
   have zz1:=(hba.cell (p:=⟨ba,oa+0 * 3+1,none⟩) hb).trans z1
   rw [show oa+0 * 3+1=oa+1 by omega] at zz1
   generalize (nthA xl 0).2.1=y at *
   have h7':(y==7)=false:=by simpa using h7
   clear hno h7 hv hl h59 z0 z1 z2 hba hp ho
   go_enter Tryz.func130,Tryz.ntmps130
   go_wp2_with fail
   refine (hO _).mono ?_
   rintro e w1 ⟨rfl,hb1⟩
   have HB1:=hide (HBA.out.trans (hb1.mono HBA.out.size))
   clear hb1 hO zz1
   go_wp2_with fail
   go_ret
   exact⟨rfl,HB1.out.alloc HB1.out.size _⟩
  ·have h1':(xo==59)=false:=by simpa using h1
   clear hno h1 hv hl h59 hba hp ho
   go_enter Tryz.func130,Tryz.ntmps130
   go_wp2_with fail
   refine (hO _).mono ?_
   rintro e w1 ⟨rfl,hb1⟩
   have HB1:=hide (HBA.out.trans (hb1.mono HBA.out.size))
   clear hb1 hO
   go_wp2_with fail
   go_ret
   exact⟨rfl,HB1.out.alloc HB1.out.size _⟩
 by_cases hc:xo=59∧(nthA xl 0).2.1=7
 ·rw [if_pos hc]
  obtain⟨rfl,h7⟩:=hc
  obtain⟨ba,oa,rfl,hb,z0,z1,z2⟩:=hv 0 (by have:=h59 rfl;omega)
  have hn0:(0:Int)<(n:Int):=by have:=h59 rfl;omega
  rw [h7] at z1
  have zz1:=(hba.cell (p:=⟨ba,oa+0 * 3+1,none⟩) hb).trans z1
  rw [show oa+0 * 3+1=oa+1 by omega] at zz1
  clear OTHER h7 hv hl h59 z0 z1 z2 hba hp ho hO
  go_enter Tryz.func130,Tryz.ntmps130
  go_wp2_with fail
  go_ret
  exact⟨rfl,HBA.out⟩
 ·rw [if_neg hc]
  exact OTHER hc
theorem kind_ends (op:Int):(bits .and .u16 (kindOp op) 512==0)=!(endsB op):=by
 by_cases h54:op=54
 ·subst h54;decide +kernel
 by_cases h55:op=55
 ·subst h55;decide +kernel
 by_cases h56:op=56
 ·subst h56;decide +kernel
 by_cases h248:op=248
 ·subst h248;decide +kernel
 by_cases h59:op=59
 ·subst h59;decide +kernel
 by_cases h245:op=245
 ·subst h245;decide +kernel
 by_cases h247:op=247
 ·subst h247;decide +kernel
 by_cases h246:op=246
 ·subst h246;decide +kernel
 by_cases h250:op=250
 ·subst h250;decide +kernel
 by_cases h249:op=249
 ·subst h249;decide +kernel
 by_cases h252:op=252
 ·subst h252;decide +kernel
 by_cases h253:op=253
 ·subst h253;decide +kernel
 by_cases h254:op=254
 ·subst h254;decide +kernel
 by_cases h255:op=255
 ·subst h255;decide +kernel
 by_cases h251:op=251
 ·subst h251;decide +kernel
 have e:kindOp op=64:=by
  unfold kindOp
  simp [h54,h55,h56,h248,h59,h245,h247,h246,h250,h249,h252,h253,h254,h255,h251]
 have e2:endsB op=false:=by unfold endsB;simp;omega
 rw [e,e2]
 decide +kernel
set_option maxHeartbeats 1000000 in
theorem refEnds_any (op:Int) (w:World):Calls Tryz.prog 23 #[.int .u16 op] w fun e w'=>e=.returned (.bool (endsB op))∧w=w':=by
 go_enter Tryz.func23,Tryz.ntmps23
 go_wp2
 all_goals
  go_ret
  refine⟨congrArg (fun b=>Ending.returned (.bool b)) ?_,rfl⟩
  first | (rw [Bool.eq_iff_iff];simp [endsB];omega) | (simp [endsB];omega) | simp_all [endsB]
def overP (l:List InstT) (p:Int):Nat→Bool
 | 0=>false
 | k+1=>overP l p k || decide (p<partI (nthI l k))
def modelsN (l:List InstT):Nat→Nat
 | 0=>0
 | k+1=>modelsN l k+(if partI (nthI l k)=1 then 1 else 0)
theorem modelsN_le (l:List InstT):∀ k,modelsN l k≤k
 | 0=>Nat.le_refl _
 | k+1=>by have:=modelsN_le l k;rw [modelsN];split <;> omega
theorem overP_at {l:List InstT} {p:Int} {k m:Nat} (hk:k<m) (h:p<partI (nthI l k)):overP l p m=true:=by
 induction m with
 | zero=>omega
 | succ m ih =>
  rw [overP]
  by_cases e:k=m
  ·subst e;simp [h]
  ·rw [ih (by omega)];rfl
def aheadO (l:List InstT) (m:Nat):Int:=if 0<m∧partI (nthI l (m - 1))=8 then (nthI l (m - 1)).1 else 0
def blockAt (l:List InstT):Nat→Nat
 | 0=>0
 | k+1=>if (nthI l (k+1)).1=248 then k+1 else blockAt l k
theorem blockAt_le (l:List InstT):∀ k,blockAt l k≤k
 | 0=>Nat.le_refl _
 | k+1=>by have:=blockAt_le l k;rw [blockAt];split <;> omega
theorem blockAt_no (l:List InstT):∀ k i,blockAt l k<i→i≤k→(nthI l i).1≠248
 | 0,i,h1,h2=>by rw [blockAt] at h1;omega
 | k+1,i,h1,h2=>by
  rw [blockAt] at h1
  split at h1
  ·omega
  ·next h =>
   by_cases e:i=k+1
   ·rw [e];exact h
   ·exact blockAt_no l k i h1 (by omega)
def firstB (l:List InstT) (k:Nat):Bool:=decide ((nthI l (blockAt l k - 1)).1=54∨(nthI l (blockAt l k - 1)).1=55)
def mayF (op ah:Int) (fs:Bool):Bool :=
 if op=54 then ah==0 || ah==56
 else if op=55 then ah==54 || ah==55
 else if op=248 then ah==54 || ah==55 || endsB ah
 else if op=56 then endsB ah
 else if (ah==0 || ah==54 || ah==55 || ah==56 || endsB ah)=true then false
 else if op=245 then (ah==248 || ah==245) && !fs
 else if op=59 then (ah==248 || ah==59) && fs
 else if ah=246 then op==249 || op==250
 else if ah=247 then op==250 || op==251
 else true
theorem overP_false {l:List InstT} {p:Int}:∀ {m:Nat},overP l p m=false→∀ i,i<m→partI (nthI l i)≤p
 | 0,_,i,hi=>by omega
 | m+1,h,i,hi=>by
  rw [overP,Bool.or_eq_false_iff] at h
  by_cases e:i=m
  ·subst e;simpa using h.2
  ·exact overP_false h.1 i (by omega)
theorem overP_low {l:List InstT} {p:Int}:∀ {m:Nat},(∀ i,i<m→partI (nthI l i)≤p)→overP l p m=false
 | 0,_=>rfl
 | m+1,h=>by
  rw [overP,overP_low (fun i hi=>h i (by omega)),Bool.false_or]
  have:=h m (by omega)
  simpa using this
theorem modelsN_none {l:List InstT}:∀ {k:Nat},(∀ i,i<k→partI (nthI l i)≠1)→modelsN l k=0
 | 0,_=>rfl
 | k+1,h=>by rw [modelsN,modelsN_none (fun i hi=>h i (by omega)),if_neg (h k (by omega))]
theorem modelsN_mono {l:List InstT} {i k:Nat} (h:i≤k):modelsN l i≤modelsN l k:=by
 induction k with
 | zero=>rw [show i=0 by omega];exact Nat.le_refl _
 | succ k ih =>
  by_cases e:i=k+1
  ·rw [e];exact Nat.le_refl _
  ·have:=ih (by omega);rw [modelsN];omega
def mayL (l:List InstT) (m:Nat):Bool :=
 (!overP l (partI (nthI l m)) m && (if partI (nthI l m)=1 then decide (modelsN l m=0) else !(decide (1<partI (nthI l m)) && decide (modelsN l m=0)))) && (decide (partI (nthI l m)<8) || mayF (nthI l m).1 (aheadO l m) (firstB l (m - 1)))
def okTo (l:List InstT) (k:Nat):Prop:=∀ i,i<k→mayL l i=true
theorem okTo_zero (l:List InstT):okTo l 0:=fun i hi=>by omega
theorem okTo.snoc {l:List InstT} {k:Nat} (h:okTo l k) (hk:mayL l k=true):okTo l (k+1):=fun i hi=>by
 by_cases e:i=k
 ·rw [e];exact hk
 ·exact h i (by omega)
theorem mayL_over {l:List InstT} {k i:Nat} (hi:i<k) (h:partI (nthI l k)<partI (nthI l i)):mayL l k=false:=by
 unfold mayL;rw [overP_at hi h];rfl
theorem mayL_low {l:List InstT} {k:Nat} {p:Int} (hp:partI (nthI l k)=p) (h8:p<8) (ho:∀ i,i<k→partI (nthI l i)≤p) (h1:p=1→modelsN l k=0) (h2:1<p→modelsN l k≠0):mayL l k=true:=by
 unfold mayL
 rw [hp,overP_low ho]
 have h8':decide (p<8)=true:=by simpa using h8
 rw [h8']
 by_cases e:p=1
 ·simp [e,h1 e]
 ·by_cases e2:1<p
  ·simp [e,e2,h2 e2]
  ·simp [e,e2]
theorem mayL_noModel {l:List InstT} {k:Nat} (h:1<partI (nthI l k)) (h0:modelsN l k=0):mayL l k=false:=by
 unfold mayL
 rw [if_neg (by omega)]
 simp [h,h0]
theorem mayL_twoModels {l:List InstT} {k:Nat} (h:partI (nthI l k)=1) (h0:modelsN l k≠0):mayL l k=false:=by
 unfold mayL
 rw [if_pos h]
 simp [h0]
theorem mayL_eight {l:List InstT} {k:Nat} (h:partI (nthI l k)=8) (ho:∀ i,i<k→partI (nthI l i)≤8) (h0:modelsN l k≠0):mayL l k=mayF (nthI l k).1 (aheadO l k) (firstB l (k - 1)):=by
 unfold mayL
 rw [h,overP_low ho]
 simp [h0]
theorem partI_eight (x:InstT):0≤partI x∧partI x≤8:=by
 have h:refT.all (fun r=>decide (0≤r.2.2.2.2.2.2.2) && decide (r.2.2.2.2.2.2.2≤8))=true:=by decide +kernel
 unfold partI
 split
 ·omega
 ·unfold partO
  split
  ·next h1 =>
   have h2:=List.all_eq_true.1 h _ (lookF_true h1)
   simpa using h2
  ·omega
theorem partAt_lt {l:List InstT} {k:Nat} (h:k<l.length):partAt l k=partI (nthI l k):=by unfold partAt;rw [if_pos h]
theorem partAt_end {l:List InstT} {k:Nat} (h:l.length≤k):partAt l k=9:=by unfold partAt;rw [if_neg (by omega)]
theorem partAt_nine {l:List InstT} {k:Nat} (h:partAt l k=9):l.length≤k:=by
 unfold partAt at h
 split at h
 ·have:=partI_eight (nthI l k);omega
 ·omega
theorem partAt_small (l:List InstT) (k:Nat):0≤partAt l k∧partAt l k≤9:=by
 unfold partAt
 split
 ·have:=partI_eight (nthI l k);omega
 ·omega
def cntP (l:List InstT) (p:Nat):Nat→Nat
 | 0=>0
 | k+1=>cntP l p k+(if partI (nthI l k)<p then 1 else 0)
theorem cntP_all {l:List InstT} {p:Nat}:∀ {k:Nat},(∀ i,i<k→partI (nthI l i)<p)→cntP l p k=k
 | 0,_=>rfl
 | k+1,h=>by rw [cntP,cntP_all (fun i hi=>h i (by omega)),if_pos (h k (by omega))]
theorem cntP_more {l:List InstT} {p k:Nat} (h:(p:Int)≤partI (nthI l k)):cntP l p (k+1)=cntP l p k:=by rw [cntP,if_neg (by omega)];rfl
theorem cntP_le (l:List InstT) (p:Nat):∀ k,cntP l p k≤k
 | 0=>Nat.le_refl _
 | k+1=>by have:=cntP_le l p k;rw [cntP];split <;> omega
structure FrM (l : List InstT) (ps : Nat → Int) (j k : Nat) : Prop where
  le : k ≤ l.length
  ok : okTo l k
  parts : ∀ i, i < k → partI (nthI l i) ≤ j
  one : j = 1 → ∀ i, i < k → partI (nthI l i) < 1
  models : 2 ≤ j → modelsN l k ≠ 0
  stuck : partAt l k < j → k < l.length ∧ mayL l k = false
  spans : ∀ i, i ≤ 2 * j → ps i = cntP l ((i + 1) / 2) k
structure FrO (l : List InstT) (ps : Nat → Int) (j k : Nat) : Prop where
  le : k ≤ l.length
  ok : okTo l k
  parts : ∀ i, i < k → partI (nthI l i) < j
  models : 2 ≤ j → modelsN l k ≠ 0
  stuck : partAt l k < j → k < l.length ∧ mayL l k = false
  spans : ∀ i, i < 2 * j → ps i = cntP l ((i + 1) / 2) k
theorem FrO.start (l:List InstT) (ps:Nat→Int):FrO l ps 0 0:=⟨Nat.zero_le _,okTo_zero l,fun i hi=>by omega,fun h=>by omega,fun h=>by have:=partAt_small l 0;omega,fun i hi=>by omega⟩
theorem FrO.more {l:List InstT} {ps:Nat→Int} {j k:Nat} (h:FrO l ps j k):FrM l (fun i=>if i=2 * j then (k:Int) else ps i) j k:=by
 refine⟨h.le,h.ok,fun i hi=>by have:=h.parts i hi;omega,fun e i hi=>by have:=h.parts i hi;omega,h.models,h.stuck,fun i hi=>?_⟩
 by_cases e:i=2 * j
 ·simp only [e,if_true]
  rw [show (2 * j+1) / 2=j by omega,cntP_all h.parts]
 ·simp only [e,if_false]
  exact h.spans i (by omega)
theorem FrM.may {l:List InstT} {ps:Nat→Int} {j k:Nat} (h:FrM l ps j k) (hj:j<8) (hp:partAt l k=j):k<l.length∧mayL l k=true:=by
 have hk:k<l.length:=by
  rcases Nat.lt_or_ge k l.length with h1 | h1
  ·exact h1
  ·rw [partAt_end h1] at hp;omega
 rw [partAt_lt hk] at hp
 refine⟨hk,mayL_low hp (by omega) h.parts (fun e=>modelsN_none fun i hi=>?_) (fun e=>h.models (by omega))⟩
 have:=h.one (by omega) i hi;omega
theorem FrM.step {l:List InstT} {ps:Nat→Int} {j k:Nat} (h:FrM l ps j k) (hj:j<8) (h1:j≠1) (hp:partAt l k=j):FrM l ps j (k+1):=by
 obtain⟨hk,hm⟩:=h.may hj hp
 have hpi:partI (nthI l k)=j:=by rw [← hp,partAt_lt hk]
 refine⟨hk,h.ok.snoc hm,fun i hi=>?_,fun e=>absurd e h1,fun e=>?_,fun e=>?_,fun i hi=>?_⟩
 ·by_cases e:i=k
  ·rw [e,hpi];exact Int.le_refl _
  ·exact h.parts i (by omega)
 ·have:=h.models e;have:=modelsN_mono (l:=l) (show k≤k+1 by omega);omega
 ·rcases Nat.lt_or_ge (k+1) l.length with hl | hl
  ·rw [partAt_lt hl] at e
   exact⟨hl,mayL_over (i:=k) (by omega) (by omega)⟩
  ·rw [partAt_end hl] at e;omega
 ·rw [cntP_more (by rw [hpi];omega)];exact h.spans i hi
theorem FrM.stepModel {l:List InstT} {ps:Nat→Int} {k:Nat} (h:FrM l ps 1 k) (hp:partAt l k=1):FrO l (fun i=>if i=3 then ((k+1:Nat):Int) else ps i) 2 (k+1):=by
 obtain⟨hk,hm⟩:=h.may (by omega) hp
 have hpi:partI (nthI l k)=1:=by rw [← partAt_lt hk];exact hp
 have hmo:modelsN l (k+1)≠0:=by rw [modelsN,if_pos hpi];omega
 have hparts:∀ i,i<k+1→partI (nthI l i)<((2:Nat):Int):=fun i hi=>by
  by_cases e:i=k
  ·rw [e,hpi];omega
  ·have:=h.parts i (by omega);omega
 refine⟨hk,h.ok.snoc hm,hparts,fun _=>hmo,fun e=>?_,fun i hi=>?_⟩
 ·rcases Nat.lt_or_ge (k+1) l.length with hl | hl
  ·rw [partAt_lt hl] at e
   refine⟨hl,?_⟩
   by_cases e1:partI (nthI l (k+1))=1
   ·exact mayL_twoModels e1 hmo
   ·exact mayL_over (i:=k) (by omega) (by omega)
  ·rw [partAt_end hl] at e;omega
 ·by_cases e:i=3
  ·simp only [e,if_true];rw [cntP_all (by simpa using hparts)]
  ·simp only [e,if_false]
   rw [cntP_more (by rw [hpi];omega)];exact h.spans i (by omega)
theorem FrM.close {l:List InstT} {ps:Nat→Int} {j k:Nat} (h:FrM l ps j k) (h1:j≠1) (hp:partAt l k≠j):FrO l (fun i=>if i=2 * j+1 then (k:Int) else ps i) (j+1) k:=by
 have hparts:∀ i,i<k→partI (nthI l i)<((j+1:Nat):Int):=fun i hi=>by have:=h.parts i hi;omega
 refine⟨h.le,h.ok,hparts,fun e=>h.models (by omega),fun e=>h.stuck (by omega),fun i hi=>?_⟩
 by_cases e:i=2 * j+1
 ·simp only [e,if_true];rw [show (2 * j+1+1) / 2=j+1 by omega,cntP_all hparts]
 ·simp only [e,if_false];exact h.spans i (by omega)
def wrongAt (l:List InstT) (k:Nat):Prop:=okTo l k∧(k<l.length∧mayL l k=false∨k=l.length∧(modelsN l k=0∨aheadO l k≠0∧aheadO l k≠56))
theorem FrM.noModel {l:List InstT} {ps:Nat→Int} {k:Nat} (h:FrM l ps 1 k) (hp:partAt l k≠1):wrongAt l k:=by
 have hm:modelsN l k=0:=modelsN_none fun i hi=>by have:=h.one rfl i hi;omega
 refine⟨h.ok,?_⟩
 rcases Nat.lt_or_ge k l.length with hl | hl
 ·refine .inl ⟨hl,?_⟩
  by_cases e:partAt l k<(1:Nat)
  ·exact (h.stuck e).2
  ·rw [partAt_lt hl] at hp e
   exact mayL_noModel (by omega) hm
 ·exact .inr ⟨by have:=h.le;omega,.inl hm⟩
abbrev FuncT:=Int×Int×List Int×List (Int×Int×Int)×Int
def onLast (fs:List FuncT) (g:FuncT→FuncT):List FuncT:=match fs.getLast? with
 | none=>[]
 | some f=>fs.dropLast++[g f]
theorem onLast_snoc (fs:List FuncT) (f:FuncT) (g:FuncT→FuncT):onLast (fs++[f]) g=fs++[g f]:=by simp [onLast]
def withParam (k:Int) (f:FuncT):FuncT:=(f.1,f.2.1,f.2.2.1++[k],f.2.2.2.1,f.2.2.2.2)
def withBlock (lab k:Int) (f:FuncT):FuncT:=(f.1,f.2.1,f.2.2.1,f.2.2.2.1++[(lab,k,0)],f.2.2.2.2)
def withEnd (k:Int) (f:FuncT):FuncT:=(f.1,f.2.1,f.2.2.1,f.2.2.2.1,k)
def endLast (bs:List (Int×Int×Int)) (k:Int):List (Int×Int×Int):=match bs.getLast? with
 | none=>[]
 | some b=>bs.dropLast++[(b.1,b.2.1,k)]
theorem endLast_snoc (bs:List (Int×Int×Int)) (b:Int×Int×Int) (k:Int):endLast (bs++[b]) k=bs++[(b.1,b.2.1,k)]:=by simp [endLast]
def withTo (k:Int) (f:FuncT):FuncT:=(f.1,f.2.1,f.2.2.1,endLast f.2.2.2.1 k,f.2.2.2.2)
def stepC (fs:List FuncT) (x:InstT) (k:Nat):List FuncT :=
 if x.1=54 then fs++[(x.2.2.1,(k:Int),[],[],0)]
 else if x.1=55 then onLast fs (withParam k)
 else if x.1=56 then onLast fs (withEnd k)
 else if x.1=248 then onLast fs (withBlock x.2.2.1 k)
 else if endsB x.1 then onLast fs (withTo ((k+1:Nat):Int))
 else fs
def cutTo (l:List InstT):Nat→List FuncT
 | 0=>[]
 | k+1=>stepC (cutTo l k) (nthI l k) k
theorem part_of_function {x:InstT} (h:x.1=54∨x.1=55∨x.1=56∨x.1=248∨endsB x.1=true):partI x=8:=by
 have h59:x.1≠59:=by
  rcases h with h | h | h | h | h
  ·omega
  ·omega
  ·omega
  ·omega
  ·unfold endsB at h;simp at h;omega
 unfold partI
 rw [if_neg (fun e=>h59 e.1)]
 have key:∀ op:Int,op=54∨op=55∨op=56∨op=248∨op=249∨op=250∨op=251∨op=252∨op=253∨op=254∨op=255→partO op=8:=by
  intro op ho
  rcases ho with e | e | e | e | e | e | e | e | e | e | e <;> subst e <;> decide +kernel
 refine key _ ?_
 rcases h with h | h | h | h | h
 ·omega
 ·omega
 ·omega
 ·omega
 ·unfold endsB at h;simp at h;omega
theorem partO_zero:partO 0≠8:=by decide +kernel
theorem stepC_other {fs:List FuncT} {x:InstT} {k:Nat} (h1:x.1≠54) (h2:x.1≠55) (h3:x.1≠56) (h4:x.1≠248) (h5:endsB x.1=false):stepC fs x k=fs:=by
 unfold stepC;rw [if_neg h1,if_neg h2,if_neg h3,if_neg h4,h5];rfl
theorem cutTo_front {l:List InstT}:∀ {k:Nat},(∀ i,i<k→partI (nthI l i)<8)→cutTo l k=[]
 | 0,_=>rfl
 | k+1,h=>by
  have hp:=h k (by omega)
  have no:∀ {q:Prop},(q→partI (nthI l k)=8)→¬ q:=fun hq h1=>by have:=hq h1;omega
  rw [cutTo,cutTo_front (fun i hi=>h i (by omega))]
  exact stepC_other (no fun e=>part_of_function (.inl e)) (no fun e=>part_of_function (.inr (.inl e))) (no fun e=>part_of_function (.inr (.inr (.inl e)))) (no fun e=>part_of_function (.inr (.inr (.inr (.inl e))))) (by
   cases he:endsB (nthI l k).1 with
   | false=>rfl
   | true=>have:=part_of_function (x:=nthI l k) (.inr (.inr (.inr (.inr he))));omega)
structure Fc (l : List InstT) (k : Nat) : Prop where
  le : k ≤ l.length
  ok : okTo l k
  parts : ∀ i, i < k → partI (nthI l i) ≤ 8
  models : modelsN l k ≠ 0
  stuck : partAt l k < 8 → k < l.length ∧ mayL l k = false
theorem kind_part {l:List InstT} {k:Nat} (h:kindAt l k≠0):k<l.length∧partI (nthI l k)=8∧kindAt l k=kindOp (nthI l k).1:=by
 unfold kindAt kindX at *
 split at h
 ·next hk =>
  split at h
  ·next h8=>rw [if_pos hk,if_pos h8];exact⟨hk,h8,rfl⟩
  ·exact absurd rfl h
 ·exact absurd rfl h
theorem kindAt_eight {l:List InstT} {k:Nat} (hk:k<l.length) (h:partI (nthI l k)=8):kindAt l k=kindOp (nthI l k).1:=by
 unfold kindAt kindX;rw [if_pos hk,if_pos h]
theorem Fc.next {l:List InstT} {k:Nat} (h:Fc l k) (hk:k<l.length) (h8:partI (nthI l k)=8) (hm:mayF (nthI l k).1 (aheadO l k) (firstB l (k - 1))=true):Fc l (k+1)∧aheadO l (k+1)=(nthI l k).1:=by
 refine⟨⟨hk,h.ok.snoc ((mayL_eight h8 h.parts h.models).trans hm),fun i hi=>?_,?_,fun e=>?_⟩,?_⟩
 ·by_cases e:i=k
  ·rw [e,h8];exact Int.le_refl _
  ·exact h.parts i (by omega)
 ·have:=h.models;have:=modelsN_mono (l:=l) (show k≤k+1 by omega);omega
 ·rcases Nat.lt_or_ge (k+1) l.length with hl | hl
  ·rw [partAt_lt hl] at e
   exact⟨hl,mayL_over (i:=k) (by omega) (by omega)⟩
  ·rw [partAt_end hl] at e;omega
 ·unfold aheadO;rw [if_pos ⟨by omega,h8⟩,Nat.add_sub_cancel]
theorem Fc.fail {l:List InstT} {k:Nat} (h:Fc l k) (hm:k<l.length→partI (nthI l k)=8→mayF (nthI l k).1 (aheadO l k) (firstB l (k - 1))=false) (ha:aheadO l k≠0∧aheadO l k≠56∨partAt l k≠9):wrongAt l k:=by
 refine⟨h.ok,?_⟩
 rcases Nat.lt_or_ge k l.length with hl | hl
 ·refine .inl ⟨hl,?_⟩
  by_cases e:partAt l k<8
  ·exact (h.stuck e).2
  ·rw [partAt_lt hl] at e
   have:=partI_eight (nthI l k)
   have h8:partI (nthI l k)=8:=by omega
   rw [mayL_eight h8 h.parts h.models]
   exact hm hl h8
 ·refine .inr ⟨by have:=h.le;omega,.inr ?_⟩
  rcases ha with ha | ha
  ·exact ha
  ·exact absurd (partAt_end hl) ha
theorem firstB_label {l:List InstT} {k:Nat} (hk:1≤k) (h:(nthI l k).1=248):firstB l k=decide ((nthI l (k - 1)).1=54∨(nthI l (k - 1)).1=55)∧blockAt l k=k:=by
 obtain⟨j,rfl⟩:∃ j,k=j+1:=⟨k - 1,by omega⟩
 have:blockAt l (j+1)=j+1:=by rw [blockAt,if_pos h]
 unfold firstB
 rw [this]
 exact⟨rfl,rfl⟩
theorem firstB_other {l:List InstT} {k:Nat} (hk:1≤k) (h:(nthI l k).1≠248):firstB l k=firstB l (k - 1)∧blockAt l k=blockAt l (k - 1):=by
 obtain⟨j,rfl⟩:∃ j,k=j+1:=⟨k - 1,by omega⟩
 have:blockAt l (j+1)=blockAt l j:=by rw [blockAt,if_neg h]
 unfold firstB
 rw [this]
 exact⟨rfl,rfl⟩
def noFunc:FuncT:=(0,0,[],[],0)
def nthF (fs:List FuncT) (j:Nat):FuncT:=fs.getD j noFunc
theorem nthF_lo (fs:List FuncT) (f:FuncT) (j:Nat) (h:j<fs.length):nthF (fs++[f]) j=nthF fs j:=by simp [nthF,List.getD,List.getElem?_append_left h]
theorem nthF_hi (fs:List FuncT) (f:FuncT):nthF (fs++[f]) fs.length=f:=by simp [nthF,List.getD]
def fC (f:FuncT) (pv bv:Value):List Value:=[.int .u32 f.1,.int .i64 f.2.1,pv,bv,.int .i64 f.2.2.2.2]
def bC (b:Int×Int×Int):List Value:=[.int .u32 b.1,.int .i64 b.2.1,.int .i64 b.2.2]
def cellsF (fs:List FuncT) (V:Bool→Nat→Value):Nat→List Value
 | 0=>[]
 | m+1=>cellsF fs V m++fC (nthF fs m) (V false m) (V true m)
theorem cellsF_len (fs:List FuncT) (V:Bool→Nat→Value):∀ m,(cellsF fs V m).length=m * 5
 | 0=>rfl
 | m+1=>by rw [cellsF,List.length_append,cellsF_len fs V m];simp [fC];omega
theorem cellsF_eq {fs fs':List FuncT} {V V':Bool→Nat→Value}:∀ {m:Nat},(∀ j,j<m→nthF fs' j=nthF fs j∧V' false j=V false j∧V' true j=V true j)→cellsF fs' V' m=cellsF fs V m
 | 0,_=>rfl
 | m+1,h=>by
  rw [cellsF,cellsF,cellsF_eq (fun j hj=>h j (by omega))]
  obtain⟨h1,h2,h3⟩:=h m (by omega)
  rw [h1,h2,h3]
theorem cellsF_at (fs:List FuncT) (V:Bool→Nat→Value) (m i:Nat):(cellsF fs V (m+1))[m * 5+i]?=(fC (nthF fs m) (V false m) (V true m))[i]?:=by
 rw [cellsF,List.getElem?_append_right (by rw [cellsF_len];omega),cellsF_len];congr 1;omega
theorem cellsF_set (fs:List FuncT) (V:Bool→Nat→Value) (m i:Nat) (u:Value):(cellsF fs V (m+1)).set (m * 5+i) u=cellsF fs V m++(fC (nthF fs m) (V false m) (V true m)).set i u:=by
 rw [cellsF,List.set_append,if_neg (by rw [cellsF_len];omega),cellsF_len];congr 2;omega
def rowF (fv:Value) (fs:List FuncT) (V:Bool→Nat→Value):Option (Bool×Nat)→RowX
 | none=>⟨29,5,fv,fs.length,cellsF fs V fs.length⟩
 | some (false,j)=>⟨3,1,V false j,(nthF fs j).2.2.1.length,(nthF fs j).2.2.1.map (Value.int .i64)⟩
 | some (true,j)=>⟨65,3,V true j,(nthF fs j).2.2.2.1.length,(nthF fs j).2.2.2.1.flatMap bC⟩
def inF (fs:List FuncT):Option (Bool×Nat)→Prop
 | none=>True
 | some (_,j)=>j<fs.length
def FuncsAt (w:World) (lo:Nat) (fv:Value) (fs:List FuncT):Prop:=∃ V,RowsX w lo (inF fs) (rowF fv fs V)
theorem FuncsAt.nil (w:World) (lo:Nat):FuncsAt w lo (.slice none 0 0) []:=by
 refine⟨fun _ _=>.slice none 0 0,⟨fun q hq=>?_,fun q q' hq hq' hne g e1 e2=>?_⟩⟩
 ·match q,hq with
  | none,_=>exact World.ownsRow_nil _ _ _ _
  | some (_,j),hq=>exact absurd hq (Nat.not_lt_zero j)
 ·match q,q',hq,hq' with
  | none,none,_,_=>exact hne rfl
  | some (_,j),_,hq,_=>exact absurd hq (Nat.not_lt_zero j)
  | none,some (_,j),_,hq=>exact absurd hq (Nat.not_lt_zero j)
theorem FuncsAt.kept {w w':World} {lo:Nat} {fv:Value} {fs:List FuncT} {ob:Option Nat} (h:FuncsAt w lo fv fs) (hg:w.grownBy w' ob) (hob:∀ g,ob=some g→g<lo):FuncsAt w' lo fv fs:=by
 obtain⟨V,hV⟩:=h;exact⟨V,hV.kept hg hob⟩
theorem FuncsAt.below {w w':World} {lo:Nat} {fv:Value} {fs:List FuncT} (h:FuncsAt w lo fv fs) (hb:Below w.heap.size w w'):FuncsAt w' lo fv fs:=h.kept (ob:=none) ⟨hb.os,hb.tape,hb.output,hb.size,fun k hk _=>hb.block k hk⟩ (fun g e=>by cases e)
theorem FuncsAt.row {w:World} {lo:Nat} {fv:Value} {fs:List FuncT} (h:FuncsAt w lo fv fs):∃ cs,w.ownsRow lo 29 5 fv fs.length cs ∧
  ∀ (w':World) (fv':Value) (id at_:Int),w.grownBy w' fv.ownBlock→(fv'.ownBlock=fv.ownBlock∨∀ g,fv'.ownBlock=some g→w.heap.size≤g)→w'.ownsRow lo 29 5 fv' (fs.length+1) (cs++[.int .u32 id,.int .i64 at_,.slice none 0 0,.slice none 0 0,.int .i64 0])→FuncsAt w' lo fv' (fs++[(id,at_,[],[],0)]):=by
 obtain⟨V,hV⟩:=h
 refine⟨cellsF fs V fs.length,hV.own none trivial,fun w' fv' id at_ hg hv how=>?_⟩
 let V':Bool→Nat→Value:=fun b j=>if j=fs.length then .slice none 0 0 else V b j
 have hcell:cellsF (fs++[(id,at_,[],[],0)]) V' (fs.length+1)=cellsF fs V fs.length++[.int .u32 id,.int .i64 at_,.slice none 0 0,.slice none 0 0,.int .i64 0]:=by
  rw [cellsF,cellsF_eq (fs:=fs) (V:=V) (fun j hj=>⟨nthF_lo fs _ j hj,by simp [V',show j≠fs.length by omega],by simp [V',show j≠fs.length by omega]⟩),nthF_hi]
  simp [fC,V']
 have h1:=hV.put (R':=fun q=>if q=none then ⟨29,5,fv',fs.length+1,cellsF fs V fs.length++[.int .u32 id,.int .i64 at_,.slice none 0 0,.slice none 0 0,.int .i64 0]⟩ else rowF fv fs V q) none trivial hg (by rw [if_pos rfl];exact how) (by rw [if_pos rfl];exact hv) (fun q hq hne=>if_neg hne)
 refine⟨V',h1.grow (fun q hq=>?_) (fun q hq=>?_)⟩
 ·match q,hq with
  | none,_=>exact .inl trivial
  | some (b,j),hq =>
   by_cases e:j<fs.length
   ·exact .inl e
   ·have e2:j=fs.length:=by have:j<(fs++[((id,at_,[],[],0):FuncT)]).length:=hq;simp at this;omega
    subst e2
    refine .inr ?_
    cases b
    ·simp [rowF,V',nthF_hi]
    ·simp [rowF,V',nthF_hi]
 ·match q,hq with
  | none,_ =>
   rw [if_pos rfl]
   simp only [rowF,List.length_append,List.length_singleton,hcell]
  | some (b,j),hq =>
   have e:j≠fs.length:=by have:j<fs.length:=hq;omega
   rw [if_neg (by simp)]
   cases b
   ·simp [rowF,V',e,nthF_lo fs _ j hq]
   ·simp [rowF,V',e,nthF_lo fs _ j hq]
structure LastF (w : World) (lo : Nat) (fv : Value) (fs : List FuncT) (f : FuncT) (F c : Nat) (P Q : Value) : Prop where
  val : fv = .slice (some ⟨F, 0, none⟩) (fs.length + 1) c
  low : lo ≤ F
  lt : F < w.heap.size
  cap : fs.length + 1 ≤ c
  frozen : ∀ i, w.frozen? ⟨F, i, none⟩ = false
  c2 : w.cell? ⟨F, fs.length * 5 + 2, none⟩ = some P
  c3 : w.cell? ⟨F, fs.length * 5 + 3, none⟩ = some Q
  c4 : w.cell? ⟨F, fs.length * 5 + 4, none⟩ = some (.int .i64 f.2.2.2.2)
  par : w.ownsRow lo 3 1 P f.2.2.1.length (f.2.2.1.map (Value.int .i64))
  blk : w.ownsRow lo 65 3 Q f.2.2.2.1.length (f.2.2.2.1.flatMap bC)
  pF : P.ownBlock ≠ some F
  qF : Q.ownBlock ≠ some F
  putP : ∀ (w' : World) (P' : Value) (ps : List Int), w.grownBy w' P.ownBlock → (P'.ownBlock = P.ownBlock ∨ ∀ g, P'.ownBlock = some g → w.heap.size ≤ g) → w'.ownsRow lo 3 1 P' ps.length (ps.map (Value.int .i64)) → FuncsAt (w'.setCell ⟨F, fs.length * 5 + 2, none⟩ P') lo fv (fs ++ [(f.1, f.2.1, ps, f.2.2.2.1, f.2.2.2.2)])
  putQ : ∀ (w' : World) (Q' : Value) (bs : List (Int × Int × Int)), w.grownBy w' Q.ownBlock → (Q'.ownBlock = Q.ownBlock ∨ ∀ g, Q'.ownBlock = some g → w.heap.size ≤ g) → w'.ownsRow lo 65 3 Q' bs.length (bs.flatMap bC) → FuncsAt (w'.setCell ⟨F, fs.length * 5 + 3, none⟩ Q') lo fv (fs ++ [(f.1, f.2.1, f.2.2.1, bs, f.2.2.2.2)])
  setQ : ∀ (w' : World) (bs : List (Int × Int × Int)), w.grownBy w' Q.ownBlock → w'.ownsRow lo 65 3 Q bs.length (bs.flatMap bC) → FuncsAt w' lo fv (fs ++ [(f.1, f.2.1, f.2.2.1, bs, f.2.2.2.2)])
  putE : ∀ k : Int, FuncsAt (w.setCell ⟨F, fs.length * 5 + 4, none⟩ (.int .i64 k)) lo fv (fs ++ [(f.1, f.2.1, f.2.2.1, f.2.2.2.1, k)])
theorem FuncsAt.last {w:World} {lo:Nat} {fv:Value} {fs:List FuncT} {f:FuncT} (h:FuncsAt w lo fv (fs++[f])):∃ F c P Q,LastF w lo fv fs f F c P Q:=by
 obtain⟨V,hV⟩:=h
 have hlen:(fs++[f]).length=fs.length+1:=by simp
 have htop:=hV.own none trivial
 have hin:fs.length<(fs++[f]).length:=by omega
 have hp:=hV.own (some (false,fs.length)) hin
 have hq:=hV.own (some (true,fs.length)) hin
 simp only [rowF,RowX.own,nthF_hi,hlen] at htop hp hq
 obtain⟨F,c,e,h1,h2,h3,h4,h5⟩:=own_form htop (by omega)
 have hcell:∀ i,i<5→w.cell? ⟨F,fs.length * 5+i,none⟩=(fC f (V false fs.length) (V true fs.length))[i]?:=fun i hi=>by
  rw [h5 _ (by omega),cellsF_at,nthF_hi]
 have hown:(rowF fv (fs++[f]) V none).v.ownBlock=some F:=by show fv.ownBlock=_;rw [e];rfl
 have ne:∀ b,(some (b,fs.length):Option (Bool×Nat))≠none:=fun b e=>by cases e
 have hpF:(V false fs.length).ownBlock≠some F:=fun e2=>hV.apart (some (false,fs.length)) none hin trivial (ne _) F e2 hown
 have hqF:(V true fs.length).ownBlock≠some F:=fun e2=>hV.apart (some (true,fs.length)) none hin trivial (ne _) F e2 hown
 -- a row turned, then its head in the row of functions
 have turn:∀ (b:Bool) (w':World) (v':Value) (f':FuncT) (i:Nat),w.grownBy w' (V b fs.length).ownBlock→(v'.ownBlock=(V b fs.length).ownBlock∨∀ g,v'.ownBlock=some g→w.heap.size≤g) →
   (rowF fv (fs++[f']) (fun b' j=>if b'=b∧j=fs.length then v' else V b' j) (some (b,fs.length))).own w' lo →
   rowF fv (fs++[f']) (fun b' j=>if b'=b∧j=fs.length then v' else V b' j) (some (!b,fs.length))=rowF fv (fs++[f]) V (some (!b,fs.length)) →
   (fC f (V false fs.length) (V true fs.length)).set i v'=fC f' (if false=b then v' else V false fs.length) (if true=b then v' else V true fs.length) →
   FuncsAt (w'.setCell ⟨F,fs.length * 5+i,none⟩ v') lo fv (fs++[f']):=by
  intro b w' v' f' i hg hv how hoth hset
  have hlen':(fs++[f']).length=fs.length+1:=by simp
  have s1:=hV.put (R':=fun q=>if q=none then rowF fv (fs++[f]) V none else rowF fv (fs++[f']) (fun b' j=>if b'=b∧j=fs.length then v' else V b' j) q) (some (b,fs.length)) hin (by cases b <;> exact hg) (by rw [if_neg (ne _)];exact how) (by
    rw [if_neg (ne _)]
    cases b <;> simpa [rowF] using hv) (fun q hq hne=>by
    match q,hq with
    | none,_=>simp
    | some (b',j),hq =>
     rw [if_neg (by simp)]
     by_cases ej:j=fs.length
     ·subst ej
      have hb:b'=!b:=by cases b <;> cases b' <;> simp at hne ⊢
      rw [hb];exact hoth
     ·have hj:j<fs.length:=by have:j<(fs++[f]).length:=hq;omega
      cases b' <;> simp [rowF,ej,nthF_lo fs _ j hj])
  have htop':=s1.own none trivial
  simp only [if_true,rowF,RowX.own,hlen] at htop'
  rw [e] at htop'
  have hs:=own_setAt htop' (fs.length * 5+i) v'
  rw [cellsF_set,nthF_hi,hset] at hs
  refine⟨_,s1.put (w':=w'.setCell ⟨F,fs.length * 5+i,none⟩ v') (R':=rowF fv (fs++[f']) (fun b' j=>if b'=b∧j=fs.length then v' else V b' j)) none trivial ?_ ?_ ?_ ?_ |> fun h=>⟨fun q hq=>h.own q (by cases q with
    | none=>trivial
    | some x=>have hx:x.2<(fs++[f']).length:=hq;show x.2<(fs++[f]).length;omega),fun q q' hq hq'=>h.apart q q' (by cases q with
    | none=>trivial
    | some x=>have hx:x.2<(fs++[f']).length:=hq;show x.2<(fs++[f]).length;omega) (by cases q' with
    | none=>trivial
    | some x=>have hx:x.2<(fs++[f']).length:=hq';show x.2<(fs++[f]).length;omega)⟩⟩
  ·simp only [if_true];rw [hown];exact grown_cell _ _ _ _
  ·unfold RowX.own
   simp only [rowF]
   rw [hlen',cellsF,cellsF_eq (fs:=fs++[f]) (V:=V) (fun j hj=>⟨by rw [nthF_lo fs _ j hj,nthF_lo fs _ j hj],by simp [show j≠fs.length by omega],by simp [show j≠fs.length by omega]⟩),nthF_hi,e]
   simpa using hs
  ·simp only [if_true];exact .inl rfl
  ·intro q hq hne
   simp only [if_neg hne]
 refine⟨F,c,V false fs.length,V true fs.length,e,h1,h2,h3,h4,hcell 2 (by omega),hcell 3 (by omega),hcell 4 (by omega),hp,hq,hpF,hqF,?_,?_,?_,?_⟩
 ·intro w' P' ps hg hv how
  refine turn false w' P' _ 2 hg hv ?_ ?_ ?_
  ·simp only [rowF,RowX.own,nthF_hi,and_self,if_true];exact how
  ·simp [rowF,nthF_hi]
  ·simp [fC]
 ·intro w' Q' bs hg hv how
  refine turn true w' Q' _ 3 hg hv ?_ ?_ ?_
  ·simp only [rowF,RowX.own,nthF_hi,and_self,if_true];exact how
  ·simp [rowF,nthF_hi]
  ·simp [fC]
 ·intro w' bs hg how
  refine⟨V,(hV.put (R':=rowF fv (fs++[(f.1,f.2.1,f.2.2.1,bs,f.2.2.2.2)]) V) (some (true,fs.length)) hin hg ?_ (.inl rfl) ?_) |> fun h=>⟨fun q hq=>h.own q (by cases q with
    | none=>trivial
    | some x=>have hx:x.2<(fs++[((f.1,f.2.1,f.2.2.1,bs,f.2.2.2.2):FuncT)]).length:=hq;show x.2<(fs++[f]).length;simp at hx ⊢;omega),fun q q' hq hq'=>h.apart q q' (by cases q with
    | none=>trivial
    | some x=>have hx:x.2<(fs++[((f.1,f.2.1,f.2.2.1,bs,f.2.2.2.2):FuncT)]).length:=hq;show x.2<(fs++[f]).length;simp at hx ⊢;omega) (by cases q' with
    | none=>trivial
    | some x=>have hx:x.2<(fs++[((f.1,f.2.1,f.2.2.1,bs,f.2.2.2.2):FuncT)]).length:=hq';show x.2<(fs++[f]).length;simp at hx ⊢;omega)⟩⟩
  ·simp only [rowF,RowX.own,nthF_hi];exact how
  ·intro q hq hne
   match q,hq with
   | none,_ =>
    simp only [rowF,List.length_append,List.length_singleton]
    rw [cellsF,cellsF,cellsF_eq (fs:=fs++[f]) (V:=V) (fun j hj=>⟨by rw [nthF_lo fs _ j hj,nthF_lo fs _ j hj],rfl,rfl⟩),nthF_hi,nthF_hi]
    rfl
   | some (b,j),hq =>
    by_cases ej:j=fs.length
    ·subst ej
     cases b
     ·simp [rowF,nthF_hi]
     ·exact absurd rfl hne
    ·have hj:j<fs.length:=by have:j<(fs++[f]).length:=hq;omega
     cases b <;> simp [rowF,nthF_lo fs _ j hj]
 ·intro k
  have hs:=own_setAt (by rw [e] at htop;exact htop) (fs.length * 5+4) (.int .i64 k)
  rw [cellsF_set,nthF_hi] at hs
  refine⟨V,(hV.put (R':=rowF fv (fs++[(f.1,f.2.1,f.2.2.1,f.2.2.2.1,k)]) V) none trivial (w':=w.setCell ⟨F,fs.length * 5+4,none⟩ (.int .i64 k)) ?_ ?_ (.inl rfl) ?_) |> fun h=>⟨fun q hq=>h.own q (by cases q with
    | none=>trivial
    | some x=>have hx:x.2<(fs++[((f.1,f.2.1,f.2.2.1,f.2.2.2.1,k):FuncT)]).length:=hq;show x.2<(fs++[f]).length;simp at hx ⊢;omega),fun q q' hq hq'=>h.apart q q' (by cases q with
    | none=>trivial
    | some x=>have hx:x.2<(fs++[((f.1,f.2.1,f.2.2.1,f.2.2.2.1,k):FuncT)]).length:=hq;show x.2<(fs++[f]).length;simp at hx ⊢;omega) (by cases q' with
    | none=>trivial
    | some x=>have hx:x.2<(fs++[((f.1,f.2.1,f.2.2.1,f.2.2.2.1,k):FuncT)]).length:=hq';show x.2<(fs++[f]).length;simp at hx ⊢;omega)⟩⟩
  ·rw [hown];exact grown_cell _ _ _ _
  ·unfold RowX.own
   simp only [rowF,List.length_append,List.length_singleton]
   rw [cellsF,cellsF_eq (fs:=fs++[f]) (V:=V) (fun j hj=>⟨by rw [nthF_lo fs _ j hj,nthF_lo fs _ j hj],rfl,rfl⟩),nthF_hi,e]
   exact hs
  ·intro q hq hne
   match q,hq with
   | none,_=>exact absurd rfl hne
   | some (b,j),hq =>
    by_cases ej:j=fs.length
    ·subst ej
     cases b <;> simp [rowF,nthF_hi]
    ·have hj:j<fs.length:=by have:j<(fs++[f]).length:=hq;omega
     cases b <;> simp [rowF,nthF_lo fs _ j hj]
def nthB (bs:List (Int×Int×Int)) (k:Nat):Int×Int×Int:=bs.getD k (0,0,0)
theorem own_len {w:World} {lo e size n:Nat} {v:Value} {xs:List Value} (h:w.ownsRow lo e size v n xs):∃ x c,v=.slice x n c:=by
 obtain⟨_,⟨rfl,rfl⟩ | ⟨g,cap,cur,rfl,_⟩⟩:=h
 ·exact⟨none,0,rfl⟩
 ·exact⟨_,_,rfl⟩
theorem cellsF_get (fs:List FuncT) (V:Bool→Nat→Value):∀ m j i,j<m→i<5→(cellsF fs V m)[j * 5+i]?=(fC (nthF fs j) (V false j) (V true j))[i]?
 | 0,j,i,h,_=>absurd h (Nat.not_lt_zero j)
 | m+1,j,i,h,hi=>by
  by_cases e:j=m
  ·subst e;exact cellsF_at fs V j i
  ·rw [cellsF,List.getElem?_append_left (by rw [cellsF_len];omega)]
   exact cellsF_get fs V m j i (by omega) hi
theorem bC_get:∀ (bs:List (Int×Int×Int)) (k i:Nat),k<bs.length→i<3→(bs.flatMap bC)[k * 3+i]?=(bC (nthB bs k))[i]?
 | [],k,i,h,_=>absurd h (Nat.not_lt_zero k)
 | b :: bs,0,i,h,hi=>by rw [List.flatMap_cons,List.getElem?_append_left (by show _<3;omega)];simp [nthB]
 | b :: bs,k+1,i,h,hi=>by
  rw [List.flatMap_cons,List.getElem?_append_right (by show 3≤_;omega)]
  have:=bC_get bs k i (by simpa using h) hi
  rw [show (k+1) * 3+i - (bC b).length=k * 3+i by show _ - 3=_;omega,this]
  simp [nthB]
end Go.Proofs.YtlcaedibmlidlaaGreat
