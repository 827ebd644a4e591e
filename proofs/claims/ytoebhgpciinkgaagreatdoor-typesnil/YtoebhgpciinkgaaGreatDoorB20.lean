/-
  Texts in one: TypesTake.
-/
import Derived.Test.YtoebhgpciinkgaaGreatDoorB19
namespace Go.Proofs.YtoebhgpciinkgaaGreatDoor
open Go.RowKit Go.Maps
set_option linter.unusedVariables false
set_option linter.unusedSimpArgs false
set_option maxRecDepth 10000
def TakeQ (w w':World) (B q p mb nb kb n:Nat) (t:List TyR) (nf:Int→Option Int) (kf:List UInt8→Bool) (x:InstT) (E:Int) (r:TyR) (e:Ending):Prop :=
 e=.returned (.int .i64 E)∧Below B w w'∧(E=0→∃ ov f,BdB w' B q p mb nb kb (n+2) (if r.kind=0 then t else t++[r]) nf (fun s=>kf s || (isMak x.1 && decide (s=keyL x))) ov f)
theorem keyT {P:World→Prop} {R:Prop} (H:World→Prop) (h1:(∀ X,H X→P X)→R) (h2:∀ X,H X→P X):R:=h1 h2
theorem read_mak {t:List TyR} {nf:Int→Option Int} {x:InstT} (h0:(tyRead t nf x).1=0) (hk:(tyRead t nf x).2.kind≠0):isMak x.1=!decide ((tyRead t nf x).2.kind=5∨(tyRead t nf x).2.kind=6):=by
 unfold isMak
 rcases tyRead_cases h0 hk with ⟨e,hr⟩ | ⟨e,hr⟩ | ⟨e,_,_,hr⟩ | ⟨e,e1,e2,e3,hr⟩ | ⟨e,e1,e2,e3,hr⟩ | ⟨e,e1,e2,e3,hr⟩ | ⟨e,e1,hr⟩ | ⟨e,e1,e2,hr⟩
 all_goals
  rw [hr,e]
  rfl
theorem read_none {t:List TyR} {nf:Int→Option Int} {x:InstT} (h0:(tyRead t nf x).1=0) (hk:(tyRead t nf x).2.kind=0):isMak x.1=false:=by
 unfold isMak
 apply decide_eq_false
 intro h
 unfold tyRead at h0 hk
 rcases h with h | h | h | h | h | h
 all_goals
  rw [h] at h0 hk
  simp at h0 hk
 ·split at h0
  ·cases h0
  ·rename_i c;rw [if_neg c] at hk;cases hk
 ·split at h0
  ·cases h0
  ·rename_i c;rw [if_neg c] at hk
   split at h0
   ·cases h0
   ·rename_i d;rw [if_neg d] at hk;cases hk
 ·split at h0
  ·cases h0
  ·rename_i c;rw [if_neg c] at hk;cases hk
 ·split at h0
  ·cases h0
  ·rename_i c;rw [if_neg c] at hk
   split at h0
   ·cases h0
   ·rename_i d;rw [if_neg d] at hk;cases hk
set_option maxHeartbeats 8000000 in
theorem take_go {B q p mb nb kb n:Nat} {t:List TyR} {nf:Int→Option Int} {kf:List UInt8→Bool} {ov:Value} {f:Int→Value} {b:Int} (l:List InstT) (k:Nat) (op ty res:Int) (xs:List ArgT) (hx:nthI l k=(op,ty,res,xs)) (ax:Option Addr) (na cx:Nat) (w:World) (hB:BdB w B q p mb nb kb n t nf kf ov f) (hv:ArgsV w ax xs) (hl:xs.length=na) (hok:InstOk (op,ty,res,xs)) (hO:OpsK b (op,ty,res,xs)) (hb:b≤65536) (ht:TabK t) (hnf:∀ id,0≤tyNumD nf id∧tyNumD nf id<4294967296) (hn:n<4194304) (hBw:B≤w.heap.size) (htn:TenP w) (h43:op≠43) (hnew:tyF t res=none) (htl:t.length≤1048576)
  (hag:isMak op=true→kf (keyL (op,ty,res,xs))=tyAgain l k) :
  Calls Tryz.prog 42 #[.pointer (some ⟨q,0,none⟩),instV (op,ty,res,xs) ax na cx] w fun e w'=>TakeQ w w' B q p mb nb kb n t nf kf (op,ty,res,xs) (tyTake l k t nf).1 (tyTake l k t nf).2 e:=by
 have hNT:=read_new hb (t:=t) (nf:=nf) hO
 have HX:=hide hx
 have hrn:=read_none (t:=t) (nf:=nf) (x:=(op,ty,res,xs))
 have hrm:=read_mak (t:=t) (nf:=nf) (x:=(op,ty,res,xs))
 have hres:=hO.res
 have hb1:Below w.heap.size w (w.alloc (.cells #[.int .u16 op,.int .u32 ty,.int .u32 res,.slice ax na cx] 71)):=(Below.refl _ w).alloc (Nat.le_refl _) _
 have hrd:=read_any (op,ty,res,xs) ax na cx (w.alloc (.cells #[.int .u16 op,.int .u32 ty,.int .u32 res,.slice ax na cx] 71)) (hB.below hb1) (hv.below hb1) hl hok hO hb hnf
 have hbx:=one_block (heap_alloc_new w (.cells #[.int .u16 op,.int .u32 ty,.int .u32 res,.slice ax na cx] 71))
 have hlx:w.heap.size<(w.alloc (.cells #[.int .u16 op,.int .u32 ty,.int .u32 res,.slice ax na cx] 71)).heap.size:=by simp
 have c2:(w.alloc (.cells #[.int .u16 op,.int .u32 ty,.int .u32 res,.slice ax na cx] 71)).cell? ⟨w.heap.size,2,none⟩=some (.int .u32 res):=hbx.1 2
 have c3:(w.alloc (.cells #[.int .u16 op,.int .u32 ty,.int .u32 res,.slice ax na cx] 71)).cell? ⟨w.heap.size,3,none⟩=some (.slice ax na cx):=hbx.1 3
 have c1:(w.alloc (.cells #[.int .u16 op,.int .u32 ty,.int .u32 res,.slice ax na cx] 71)).cell? ⟨w.heap.size,1,none⟩=some (.int .u32 ty):=hbx.1 1
 have c0:(w.alloc (.cells #[.int .u16 op,.int .u32 ty,.int .u32 res,.slice ax na cx] 71)).cell? ⟨w.heap.size,0,none⟩=some (.int .u16 op):=hbx.1 0
 unfold tyTake
 rw [hx]
 unfold ReadQ at hrd
 have n43:(op==43)=false:=by simpa using h43
 unfold instV at *
 simp only at hrd
 generalize hRR:tyRead t nf (op,ty,res,xs)=RR at *
 obtain⟨E,r⟩:=RR
 simp only at hrd hNT hrn hrm ⊢
 have HB:=hide hB
 have HB1:=hide hb1
 have HBW:=hide hBw
 clear hbx hRR hx
 by_cases hE:E=0
 ·subst hE
  by_cases hk:r.kind=0
  ·have HMK:=hide (hrn rfl hk)
   rw [if_neg (by simp),if_pos hk]
   have hk':((r.kind:Int)==0)=true:=by rw [hk];rfl
   clear hB hv hl hok hO ht hnf htn hnew hag hNT hrn hrm hres hk hb1 hBw
   go_enter Tryz.func42,Tryz.ntmps42
   go_wp2_with (go_at_call 70;refine hrd.mono ?_;rintro e w5 ⟨v,rfl,hev,hb5⟩;obtain⟨a,c,hve,hvw,hcap,hfr⟩:=hev;unfold entV at hve;subst hve)
   go_ret
   refine⟨rfl,(HB1.out.trans ((hb5.alloc hb5.size _).mono HB1.out.size)).mono HBW.out,fun _=>⟨ov,f,?_⟩⟩
   have h:=(HB.out.below (HB1.out.trans ((hb5.alloc hb5.size (.cells #[.int .u8 (r.kind:Int),.int .i64 (r.count:Int),.int .i64 (r.size:Int),.int .i64 (r.depth:Int),.bool r.signed,.int .u32 r.cls,.slice a r.parts.length c] 98)).mono HB1.out.size))).mono (Nat.le_add_right n 2)
   rw [if_pos (show noTy.kind=0 from rfl)]
   exact⟨h.tab,h.blk,h.nums,h.keys.congr (fun s=>by rw [show isMak ((op,ty,res,xs):InstT).1=false from HMK.out];simp),h.apart,h.low⟩
  ·have hN:=hNT rfl hk
   have HMK0:=hide (hrm rfl hk)
   rw [if_neg (by simp),if_neg hk]
   obtain⟨id0,kd,sg,cl,cn,ps,sz,dp⟩:=r
   obtain⟨z1,z2⟩:=hN.zero
   simp only at z1 z2 hk
   subst z1
   subst z2
   generalize hRES:(if kd=5∨kd=6 then (if 4096<sizeR t ⟨id0,kd,sg,cl,cn,ps,0,0⟩ then ((102:Int),noTy) else if 16<depthR t ⟨id0,kd,sg,cl,cn,ps,0,0⟩ then ((4:Int),noTy) else ((0:Int),tyFull t (op,ty,res,xs) ⟨id0,kd,sg,cl,cn,ps,0,0⟩)) else if tyAgain l k=true then ((101:Int),noTy) else ((0:Int),tyFull t (op,ty,res,xs) ⟨id0,kd,sg,cl,cn,ps,0,0⟩))=RES
   have HRES:=hide hRES
   clear hRES
   have hk':((kd:Int)==0)=false:=by simp;omega
   have hk'':¬ (kd:Int)=0:=by omega
   have hSD:∀ (w5:World) (a:Option Addr) (c:Nat),Below (w.alloc (.cells #[.int .u16 op,.int .u32 ty,.int .u32 res,.slice ax na cx] 71)).heap.size (w.alloc (.cells #[.int .u16 op,.int .u32 ty,.int .u32 res,.slice ax na cx] 71)) w5→View .u32 w5 a ps→∀ w6,Below w5.heap.size w5 w6→(Calls Tryz.prog 71 #[.pointer (some ⟨p,0,none⟩),.agg #[.int .u8 (kd:Int),.int .i64 (cn:Int),.int .i64 0,.int .i64 0,.bool sg,.int .u32 cl,.slice a ps.length c]] w6 fun e w'=>e=.returned (.int .i64 (sizeR t ⟨id0,kd,sg,cl,cn,ps,0,0⟩:Int))∧Below w6.heap.size w6 w')∧Calls Tryz.prog 72 #[.pointer (some ⟨p,0,none⟩),.agg #[.int .u8 (kd:Int),.int .i64 (cn:Int),.int .i64 0,.int .i64 0,.bool sg,.int .u32 cl,.slice a ps.length c]] w6 fun e w'=>e=.returned (.int .i64 (depthR t ⟨id0,kd,sg,cl,cn,ps,0,0⟩:Int))∧Below w6.heap.size w6 w':=by
    intro w5 a c h5 h6 w6 h7
    have hT:=(HB.out.below (HB1.out.trans ((h5.trans (h7.mono h5.size)).mono HB1.out.size))).tab
    exact⟨sizeR_any ⟨id0,kd,sg,cl,cn,ps,0,0⟩ a c w6 hT ht hN (h6.below h7),depthR_any ⟨id0,kd,sg,cl,cn,ps,0,0⟩ 0 a c w6 hT ht hN (h6.below h7)⟩
   have HSD:=hide hSD
   clear hSD
   obtain⟨i0,hi,hz0,hz1,hz2⟩:=info_parts Ids.info
   have HI:=hide (And.intro hi (And.intro hz0 (And.intro hz1 hz2)))
   have HNEW:=hide hnew
   have HKD:Hid (¬ kd=0):=hk
   have HRS:Hid (0≤res∧res<4294967296):=⟨hok.2.2.2.2.1,hok.2.2.2.2.2.1⟩
   have HTL:=hide htl
   have HTN:=hide htn
   have HAG:=hide hag
   have HAV:=hide hv
   have HLN:=hide hl
   have HOK:=hide hok
   have HFEW:Hid (na<65536):=by show _<_;have h1:=hO.few;simp only at h1;omega
   clear hi hz0 hz1 hz2
   go_enter Tryz.func42,Tryz.ntmps42
   go_wp2_with (go_at_call 70;refine hrd.mono ?_;rintro e w5 ⟨v,rfl,hev,hb5⟩;obtain⟨a,c,hve,hvw,hcap,hfr⟩:=hev;have hve2:v=.agg #[.int .u8 (kd:Int),.int .i64 (cn:Int),.int .i64 0,.int .i64 0,.bool sg,.int .u32 cl,.slice a ps.length c]:=hve;clear hve;subst hve2)
   have hbA:Below w5.heap.size w5 (w5.alloc (.cells #[.int .u8 (kd:Int),.int .i64 (cn:Int),.int .i64 0,.int .i64 0,.bool sg,.int .u32 cl,.slice a ps.length c] 98)):=(Below.refl _ w5).alloc (Nat.le_refl _) _
   have hent:=heap_alloc_new w5 (.cells #[.int .u8 (kd:Int),.int .i64 (cn:Int),.int .i64 0,.int .i64 0,.bool sg,.int .u32 cl,.slice a ps.length c] 98)
   obtain⟨hgc,hgf⟩:=one_block hent
   have g0:=hgc 0
   have g1:=hgc 1
   have g2:=hgc 2
   have g3:=hgc 3
   have g4:=hgc 4
   have g5:=hgc 5
   have g6:=hgc 6
   have hbW:=hb5.trans (hbA.mono hb5.size)
   have hBd:=HB.out.below (HB1.out.trans (hbW.mono HB1.out.size))
   have q0:=hBd.cells.1
   have hql:=(Array.getElem?_eq_some_iff.1 hBd.blk).1
   have hsA:w5.heap.size<(w5.alloc (.cells #[.int .u8 (kd:Int),.int .i64 (cn:Int),.int .i64 0,.int .i64 0,.bool sg,.int .u32 cl,.slice a ps.length c] 98)).heap.size:=by simp
   have hS:=fun w6 h6=>(HSD.out _ a c hbW (hvw.below hbA) w6 h6).1
   have hD:=fun w6 h6=>(HSD.out _ a c hbW (hvw.below hbA) w6 h6).2
   generalize hWX:w5.alloc (.cells #[.int .u8 (kd:Int),.int .i64 (cn:Int),.int .i64 0,.int .i64 0,.bool sg,.int .u32 cl,.slice a ps.length c] 98)=WX at *
   have hGl:w5.heap.size<WX.heap.size:=hsA
   have HCX:Hid (∀ w6,Below WX.heap.size WX w6→(w6.cell? ⟨w5.heap.size,0,none⟩=some (.int .u8 (kd:Int))∧w6.cell? ⟨w5.heap.size,1,none⟩=some (.int .i64 (cn:Int))∧w6.cell? ⟨w5.heap.size,2,none⟩=some (.int .i64 0)∧w6.cell? ⟨w5.heap.size,3,none⟩=some (.int .i64 0)∧w6.cell? ⟨w5.heap.size,4,none⟩=some (.bool sg)∧w6.cell? ⟨w5.heap.size,5,none⟩=some (.int .u32 cl)∧w6.cell? ⟨w5.heap.size,6,none⟩=some (.slice a ps.length c))∧w6.frozen? ⟨w5.heap.size,2,none⟩=false∧w6.frozen? ⟨w5.heap.size,3,none⟩=false):=fun w6 h6=>by
    have hk:=(h6.block _ hGl).trans hent
    obtain⟨x1,x2⟩:=one_block hk
    exact⟨⟨x1 0,x1 1,x1 2,x1 3,x1 4,x1 5,x1 6⟩,x2 2,x2 3⟩
   have HE0:=hide (HCX.out WX.drew (Below.refl _ _).drew).1
   have HCW:Hid (∀ w6,Below WX.heap.size WX w6→Below w5.heap.size w5 w6∧∃ s d:Value,w6.heap[w5.heap.size]?=some (.cells #[.int .u8 (kd:Int),.int .i64 (cn:Int),s,d,.bool sg,.int .u32 cl,.slice a ps.length c] 98 (0,0))):=fun w6 h6=>⟨hbA.trans (h6.mono hbA.size),.int .i64 0,.int .i64 0,(h6.block _ hGl).trans hent⟩
   have HC0:=hide (HCW.out WX.drew (Below.refl _ _).drew)
   have HSET:Hid (∀ (w6:World) (j:Nat) (u:Value),j=2∨j=3→(Below w5.heap.size w5 w6∧∃ s d:Value,w6.heap[w5.heap.size]?=some (.cells #[.int .u8 (kd:Int),.int .i64 (cn:Int),s,d,.bool sg,.int .u32 cl,.slice a ps.length c] 98 (0,0)))→Below w5.heap.size w5 (w6.setCell ⟨w5.heap.size,j,none⟩ u)∧∃ s d:Value,(w6.setCell ⟨w5.heap.size,j,none⟩ u).heap[w5.heap.size]?=some (.cells #[.int .u8 (kd:Int),.int .i64 (cn:Int),s,d,.bool sg,.int .u32 cl,.slice a ps.length c] 98 (0,0))):=fun w6 j u hj h=>by
    obtain⟨h1,s,d,h2⟩:=h
    refine⟨h1.setCell (p:=⟨w5.heap.size,j,none⟩) (Nat.le_refl _) u,?_⟩
    rcases hj with rfl | rfl
    ·exact⟨u,d,by simp [World.setCell,Array.getElem?_modify,h2]⟩
    ·exact⟨s,u,by simp [World.setCell,Array.getElem?_modify,h2]⟩
   have hq5:q<w5.heap.size:=Nat.lt_of_lt_of_le (Array.getElem?_eq_some_iff.1 HB.out.blk).1 (Nat.le_trans HB1.out.size hb5.size)
   have hB5:=HB.out.below (HB1.out.trans (hb5.mono HB1.out.size))
   have HQ:Hid (∀ w6,Below w5.heap.size w5 w6→w6.cell? ⟨q,0,none⟩=some (.pointer (some ⟨p,0,none⟩))):=fun w6 h6=>(h6.cell (p:=⟨q,0,none⟩) hq5).trans hB5.cells.1
   generalize hSZ:(sizeR t ⟨id0,kd,sg,cl,cn,ps,0,0⟩:Int)=SZ at *
   generalize hDP:(depthR t ⟨id0,kd,sg,cl,cn,ps,0,0⟩:Int)=DP at *
   have HSZ:=hide hSZ
   have HDP:=hide hDP
   have HS0:=hide (hS WX.drew (Below.refl _ _).drew)
   have HD:=hide hD
   have HW5:=hide hb5
   have HVW:=hide hvw
   have HEN:=hide hent
   have HBA:=hide hbA
   have HFR:=hide (And.intro hcap hfr)
   clear hSZ hDP hgc hgf hS hD hbA hWX hent g0 g1 g2 g3 g4 g5 g6 hbW hBd q0 hql hsA hq5 hB5 hb5 hvw
   apply keyT (fun (X:World)=>∃ w7,Below WX.heap.size WX w7∧X=(w7.setCell ⟨w5.heap.size,2,none⟩ (.int .i64 SZ)).setCell ⟨w5.heap.size,3,none⟩ (.int .i64 DP)) ?h1 ?h2
   case h1 =>
    intro HKEY0
   --REGION7
    have hmix:Tryz.prog.follows .mixedOrders=true:=by kernel_rfl
    refine (wpIn_wide (n:=0)).1 ?_
    refine wpIn_normal (wpIn_region_any hmix (wpAnyC_sound (C:=fun w':World=>Below w5.heap.size w5 w'∧∃ s d:Value,w'.heap[w5.heap.size]?=some (.cells #[.int .u8 (kd:Int),.int .i64 (cn:Int),s,d,.bool sg,.int .u32 cl,.slice a ps.length c] 98 (0,0))) _ _ _ _ ?_))
    change wpAnyC _ _ _ _ _ _ _ _ _ _ (World.drew _)
    have hC:=HC0.out
    refine wpAnyC_takeD (i:=0) (some 28) (v:=.pointer (some ⟨q,0,none⟩)) (fun _=>trivial) (by kernel_rfl) rfl rfl (by kernel_rfl) (by kernel_rfl) (by kernel_rfl) (fun _ _ _ h=>by cases h.1) hC (Or.inl ⟨by kernel_rfl,fun w' hC=>by clear hC;go_simp⟩) ?_
    simp only [Act.put,ap1,ap2,ap3]
    refine wpAnyC_takeD (i:=1) (some 29) (v:=.pointer (some ⟨q,0,none⟩)) (fun _=>trivial) (by kernel_rfl) rfl rfl (by kernel_rfl) (by kernel_rfl) (by kernel_rfl) (fun _ _ _ h=>by cases h.1) hC (Or.inl ⟨by kernel_rfl,fun w' hC=>by clear hC;go_simp⟩) ?_
    simp only [Act.put,ap1,ap2,ap3]
    refine wpAnyC_takeD (i:=2) (some 30) (v:=.pointer (some ⟨q,0,none⟩)) (fun _=>trivial) (by kernel_rfl) rfl rfl (by kernel_rfl) (by kernel_rfl) (by kernel_rfl) (fun _ _ _ h=>by cases h.1) hC (Or.inl ⟨by kernel_rfl,fun w' hC=>by clear hC;go_simp⟩) ?_
    simp only [Act.put,ap1,ap2,ap3]
    refine wpAnyC_takeD (i:=3) (some 31) (v:=.pointer (some ⟨p,0,none⟩)) (fun _=>trivial) (by kernel_rfl) rfl rfl (by kernel_rfl) (by kernel_rfl) (by kernel_rfl) (fun _ _ _ h=>by cases h.1) hC (Or.inl ⟨by kernel_rfl,fun w' hC=>by have x0:=HQ.out w' hC.1;clear hC;go_simp⟩) ?_
    simp only [Act.put,ap1,ap2,ap3]
    refine wpAnyC_takeD (i:=6) (some 34) (v:=.pointer (some ⟨q,0,none⟩)) (fun _=>trivial) (by kernel_rfl) rfl rfl (by kernel_rfl) (by kernel_rfl) (by kernel_rfl) (fun _ _ _ h=>by cases h.1) hC (Or.inl ⟨by kernel_rfl,fun w' hC=>by clear hC;go_simp⟩) ?_
    simp only [Act.put,ap1,ap2,ap3]
    refine wpAnyC_takeD (i:=7) (some 35) (v:=.pointer (some ⟨q,0,none⟩)) (fun _=>trivial) (by kernel_rfl) rfl rfl (by kernel_rfl) (by kernel_rfl) (by kernel_rfl) (fun _ _ _ h=>by cases h.1) hC (Or.inl ⟨by kernel_rfl,fun w' hC=>by clear hC;go_simp⟩) ?_
    simp only [Act.put,ap1,ap2,ap3]
    refine wpAnyC_takeD (i:=8) (some 36) (v:=.pointer (some ⟨q,0,none⟩)) (fun _=>trivial) (by kernel_rfl) rfl rfl (by kernel_rfl) (by kernel_rfl) (by kernel_rfl) (fun _ _ _ h=>by cases h.1) hC (Or.inl ⟨by kernel_rfl,fun w' hC=>by clear hC;go_simp⟩) ?_
    simp only [Act.put,ap1,ap2,ap3]
    refine wpAnyC_takeD (i:=9) (some 37) (v:=.pointer (some ⟨p,0,none⟩)) (fun _=>trivial) (by kernel_rfl) rfl rfl (by kernel_rfl) (by kernel_rfl) (by kernel_rfl) (fun _ _ _ h=>by cases h.1) hC (Or.inl ⟨by kernel_rfl,fun w' hC=>by have x0:=HQ.out w' hC.1;clear hC;go_simp⟩) ?_
    simp only [Act.put,ap1,ap2,ap3]
    refine wpAnyC_ready (rs:=[4,10]) (by kernel_rfl) (by simp) ?_
    refine AllC.cons rfl (fun K hK=>?_) (AllC.cons rfl (fun K hK=>?_) AllC.nil)
    ·obtain⟨e0,e1,e2,e3,e4,e5,e6⟩:=HE0.out
     go_simp
     refine hK _ _ hC ?_
     clear hK K e0 e1 e2 e3 e4 e5 e6
     try simp only [Act.put,ap1,ap2,ap3]
     refine wpAnyC_ready (rs:=[5,10]) (by kernel_rfl) (by simp) ?_
     refine AllC.cons rfl (fun K hK=>?_) (AllC.cons rfl (fun K hK=>?_) AllC.nil)
     ·go_simp
      refine⟨trivial,rfl,(callsIn_wide.2 HS0.out).mono ?_⟩
      rintro e w6 ⟨rfl,hb6⟩
      dsimp only
      have hb6':=((Below.refl _ WX).drew).trans (show Below WX.heap.size WX.drew w6 from hb6)
      have hC6:=HCW.out w6 hb6'
      refine hK _ _ hC6 ?_
      clear hK K hC
      have hC:=hC6
      clear hC6
      try simp only [Act.put,ap1,ap2,ap3]
      refine wpAnyC_ready (rs:=[10]) (by kernel_rfl) (by simp) ?_
      refine AllC.cons rfl (fun K hK=>?_) AllC.nil
      obtain⟨e0,e1,e2,e3,e4,e5,e6⟩:=(HCX.out w6 hb6').1
      go_simp
      refine hK _ _ hC ?_
      clear hK K e0 e1 e2 e3 e4 e5 e6
      try simp only [Act.put,ap1,ap2,ap3]
      refine wpAnyC_takeD (i:=12) (some 40) (v:=.pointer (some ⟨w5.heap.size,0,none⟩)) (fun _=>trivial) (by kernel_rfl) rfl rfl (by kernel_rfl) (by kernel_rfl) (by kernel_rfl) (fun _ _ _ h=>by cases h.1) hC (Or.inl ⟨by kernel_rfl,fun w' hC=>by clear hC;go_simp⟩) ?_
      simp only [Act.put,ap1,ap2,ap3]
      refine wpAnyC_takeD (i:=13) (some 41) (v:=.pointer (some ⟨w5.heap.size,2,none⟩)) (fun _=>trivial) (by kernel_rfl) rfl rfl (by kernel_rfl) (by kernel_rfl) (by kernel_rfl) (fun _ _ _ h=>by cases h.1) hC (Or.inl ⟨by kernel_rfl,fun w' hC=>by clear hC;go_simp⟩) ?_
      simp only [Act.put,ap1,ap2,ap3]
      refine wpAnyC_ready (rs:=[11]) (by kernel_rfl) (by simp) ?_
      refine AllC.cons rfl (fun K hK=>?_) AllC.nil
      go_simp
      refine⟨trivial,rfl,(callsIn_wide.2 (HD.out w6 hb6')).mono ?_⟩
      rintro e w7 ⟨rfl,hb7⟩
      dsimp only
      have hb7':=hb6'.trans (hb7.mono hb6'.size)
      have hC7:=HCW.out w7 hb7'
      refine hK _ _ hC7 ?_
      clear hK K hC
      have hC:=hC7
      clear hC7
      try simp only [Act.put,ap1,ap2,ap3]
      obtain⟨⟨e0,e1,e2,e3,e4,e5,e6⟩,f2,f3⟩:=HCX.out w7 hb7'
      refine wpAnyC_ready (rs:=[14]) (by kernel_rfl) (by simp) ?_
      refine AllC.cons rfl (fun K hK=>?_) AllC.nil
      go_simp
      have hC8:=HSET.out w7 2 (.int .i64 SZ) (.inl rfl) hC
      refine hK _ _ hC8 ?_
      clear hK K hC
      have hC:=hC8
      clear hC8
      try simp only [Act.put,ap1,ap2,ap3]
      refine wpAnyC_takeD (i:=15) (some 42) (v:=.pointer (some ⟨w5.heap.size,0,none⟩)) (fun _=>trivial) (by kernel_rfl) rfl rfl (by kernel_rfl) (by kernel_rfl) (by kernel_rfl) (fun _ _ _ h=>by cases h.1) hC (Or.inl ⟨by kernel_rfl,fun w' hC=>by clear hC;go_simp⟩) ?_
      simp only [Act.put,ap1,ap2,ap3]
      refine wpAnyC_takeD (i:=16) (some 43) (v:=.pointer (some ⟨w5.heap.size,3,none⟩)) (fun _=>trivial) (by kernel_rfl) rfl rfl (by kernel_rfl) (by kernel_rfl) (by kernel_rfl) (fun _ _ _ h=>by cases h.1) hC (Or.inl ⟨by kernel_rfl,fun w' hC=>by clear hC;go_simp⟩) ?_
      simp only [Act.put,ap1,ap2,ap3]
      refine wpAnyC_ready (rs:=[17]) (by kernel_rfl) (by simp) ?_
      refine AllC.cons rfl (fun K hK=>?_) AllC.nil
      go_simp
      have hC9:=HSET.out _ 3 (.int .i64 DP) (.inr rfl) hC
      refine hK _ _ hC9 ?_
      clear hK K hC hC9
      try simp only [Act.put,ap1,ap2,ap3]
      clear e0 e1 e2 e3 e4 e5 e6 f2 f3
      refine wpAnyC_done (by kernel_rfl) ?_ _
      refine⟨rfl,?_⟩
      exact HKEY0 _ ⟨w7,hb7',rfl⟩
     ·obtain⟨e0,e1,e2,e3,e4,e5,e6⟩:=HE0.out
      go_simp
      refine hK _ _ hC ?_
      clear hK K e0 e1 e2 e3 e4 e5 e6
      try simp only [Act.put,ap1,ap2,ap3]
      refine wpAnyC_ready (rs:=[5]) (by kernel_rfl) (by simp) ?_
      refine AllC.cons rfl (fun K hK=>?_) AllC.nil
      go_simp
      refine⟨trivial,rfl,(callsIn_wide.2 HS0.out).mono ?_⟩
      rintro e w6 ⟨rfl,hb6⟩
      dsimp only
      have hb6':=((Below.refl _ WX).drew).trans (show Below WX.heap.size WX.drew w6 from hb6)
      have hC6:=HCW.out w6 hb6'
      refine hK _ _ hC6 ?_
      clear hK K hC
      have hC:=hC6
      clear hC6
      try simp only [Act.put,ap1,ap2,ap3]
      refine wpAnyC_takeD (i:=12) (some 40) (v:=.pointer (some ⟨w5.heap.size,0,none⟩)) (fun _=>trivial) (by kernel_rfl) rfl rfl (by kernel_rfl) (by kernel_rfl) (by kernel_rfl) (fun _ _ _ h=>by cases h.1) hC (Or.inl ⟨by kernel_rfl,fun w' hC=>by clear hC;go_simp⟩) ?_
      simp only [Act.put,ap1,ap2,ap3]
      refine wpAnyC_takeD (i:=13) (some 41) (v:=.pointer (some ⟨w5.heap.size,2,none⟩)) (fun _=>trivial) (by kernel_rfl) rfl rfl (by kernel_rfl) (by kernel_rfl) (by kernel_rfl) (fun _ _ _ h=>by cases h.1) hC (Or.inl ⟨by kernel_rfl,fun w' hC=>by clear hC;go_simp⟩) ?_
      simp only [Act.put,ap1,ap2,ap3]
      refine wpAnyC_ready (rs:=[11]) (by kernel_rfl) (by simp) ?_
      refine AllC.cons rfl (fun K hK=>?_) AllC.nil
      go_simp
      refine⟨trivial,rfl,(callsIn_wide.2 (HD.out w6 hb6')).mono ?_⟩
      rintro e w7 ⟨rfl,hb7⟩
      dsimp only
      have hb7':=hb6'.trans (hb7.mono hb6'.size)
      have hC7:=HCW.out w7 hb7'
      refine hK _ _ hC7 ?_
      clear hK K hC
      have hC:=hC7
      clear hC7
      try simp only [Act.put,ap1,ap2,ap3]
      obtain⟨⟨e0,e1,e2,e3,e4,e5,e6⟩,f2,f3⟩:=HCX.out w7 hb7'
      refine wpAnyC_ready (rs:=[14]) (by kernel_rfl) (by simp) ?_
      refine AllC.cons rfl (fun K hK=>?_) AllC.nil
      go_simp
      have hC8:=HSET.out w7 2 (.int .i64 SZ) (.inl rfl) hC
      refine hK _ _ hC8 ?_
      clear hK K hC
      have hC:=hC8
      clear hC8
      try simp only [Act.put,ap1,ap2,ap3]
      refine wpAnyC_takeD (i:=15) (some 42) (v:=.pointer (some ⟨w5.heap.size,0,none⟩)) (fun _=>trivial) (by kernel_rfl) rfl rfl (by kernel_rfl) (by kernel_rfl) (by kernel_rfl) (fun _ _ _ h=>by cases h.1) hC (Or.inl ⟨by kernel_rfl,fun w' hC=>by clear hC;go_simp⟩) ?_
      simp only [Act.put,ap1,ap2,ap3]
      refine wpAnyC_takeD (i:=16) (some 43) (v:=.pointer (some ⟨w5.heap.size,3,none⟩)) (fun _=>trivial) (by kernel_rfl) rfl rfl (by kernel_rfl) (by kernel_rfl) (by kernel_rfl) (fun _ _ _ h=>by cases h.1) hC (Or.inl ⟨by kernel_rfl,fun w' hC=>by clear hC;go_simp⟩) ?_
      simp only [Act.put,ap1,ap2,ap3]
      refine wpAnyC_ready (rs:=[17]) (by kernel_rfl) (by simp) ?_
      refine AllC.cons rfl (fun K hK=>?_) AllC.nil
      go_simp
      have hC9:=HSET.out _ 3 (.int .i64 DP) (.inr rfl) hC
      refine hK _ _ hC9 ?_
      clear hK K hC hC9
      try simp only [Act.put,ap1,ap2,ap3]
      clear e0 e1 e2 e3 e4 e5 e6 f2 f3
      refine wpAnyC_done (by kernel_rfl) ?_ _
      refine⟨rfl,?_⟩
      exact HKEY0 _ ⟨w7,hb7',rfl⟩
    ·obtain⟨e0,e1,e2,e3,e4,e5,e6⟩:=HE0.out
     go_simp
     refine hK _ _ hC ?_
     clear hK K e0 e1 e2 e3 e4 e5 e6
     try simp only [Act.put,ap1,ap2,ap3]
     refine wpAnyC_ready (rs:=[4]) (by kernel_rfl) (by simp) ?_
     refine AllC.cons rfl (fun K hK=>?_) AllC.nil
     obtain⟨e0,e1,e2,e3,e4,e5,e6⟩:=HE0.out
     go_simp
     refine hK _ _ hC ?_
     clear hK K e0 e1 e2 e3 e4 e5 e6
     try simp only [Act.put,ap1,ap2,ap3]
     refine wpAnyC_ready (rs:=[5]) (by kernel_rfl) (by simp) ?_
     refine AllC.cons rfl (fun K hK=>?_) AllC.nil
     go_simp
     refine⟨trivial,rfl,(callsIn_wide.2 HS0.out).mono ?_⟩
     rintro e w6 ⟨rfl,hb6⟩
     dsimp only
     have hb6':=((Below.refl _ WX).drew).trans (show Below WX.heap.size WX.drew w6 from hb6)
     have hC6:=HCW.out w6 hb6'
     refine hK _ _ hC6 ?_
     clear hK K hC
     have hC:=hC6
     clear hC6
     try simp only [Act.put,ap1,ap2,ap3]
     refine wpAnyC_takeD (i:=12) (some 40) (v:=.pointer (some ⟨w5.heap.size,0,none⟩)) (fun _=>trivial) (by kernel_rfl) rfl rfl (by kernel_rfl) (by kernel_rfl) (by kernel_rfl) (fun _ _ _ h=>by cases h.1) hC (Or.inl ⟨by kernel_rfl,fun w' hC=>by clear hC;go_simp⟩) ?_
     simp only [Act.put,ap1,ap2,ap3]
     refine wpAnyC_takeD (i:=13) (some 41) (v:=.pointer (some ⟨w5.heap.size,2,none⟩)) (fun _=>trivial) (by kernel_rfl) rfl rfl (by kernel_rfl) (by kernel_rfl) (by kernel_rfl) (fun _ _ _ h=>by cases h.1) hC (Or.inl ⟨by kernel_rfl,fun w' hC=>by clear hC;go_simp⟩) ?_
     simp only [Act.put,ap1,ap2,ap3]
     refine wpAnyC_ready (rs:=[11]) (by kernel_rfl) (by simp) ?_
     refine AllC.cons rfl (fun K hK=>?_) AllC.nil
     go_simp
     refine⟨trivial,rfl,(callsIn_wide.2 (HD.out w6 hb6')).mono ?_⟩
     rintro e w7 ⟨rfl,hb7⟩
     dsimp only
     have hb7':=hb6'.trans (hb7.mono hb6'.size)
     have hC7:=HCW.out w7 hb7'
     refine hK _ _ hC7 ?_
     clear hK K hC
     have hC:=hC7
     clear hC7
     try simp only [Act.put,ap1,ap2,ap3]
     obtain⟨⟨e0,e1,e2,e3,e4,e5,e6⟩,f2,f3⟩:=HCX.out w7 hb7'
     refine wpAnyC_ready (rs:=[14]) (by kernel_rfl) (by simp) ?_
     refine AllC.cons rfl (fun K hK=>?_) AllC.nil
     go_simp
     have hC8:=HSET.out w7 2 (.int .i64 SZ) (.inl rfl) hC
     refine hK _ _ hC8 ?_
     clear hK K hC
     have hC:=hC8
     clear hC8
     try simp only [Act.put,ap1,ap2,ap3]
     refine wpAnyC_takeD (i:=15) (some 42) (v:=.pointer (some ⟨w5.heap.size,0,none⟩)) (fun _=>trivial) (by kernel_rfl) rfl rfl (by kernel_rfl) (by kernel_rfl) (by kernel_rfl) (fun _ _ _ h=>by cases h.1) hC (Or.inl ⟨by kernel_rfl,fun w' hC=>by clear hC;go_simp⟩) ?_
     simp only [Act.put,ap1,ap2,ap3]
     refine wpAnyC_takeD (i:=16) (some 43) (v:=.pointer (some ⟨w5.heap.size,3,none⟩)) (fun _=>trivial) (by kernel_rfl) rfl rfl (by kernel_rfl) (by kernel_rfl) (by kernel_rfl) (fun _ _ _ h=>by cases h.1) hC (Or.inl ⟨by kernel_rfl,fun w' hC=>by clear hC;go_simp⟩) ?_
     simp only [Act.put,ap1,ap2,ap3]
     refine wpAnyC_ready (rs:=[17]) (by kernel_rfl) (by simp) ?_
     refine AllC.cons rfl (fun K hK=>?_) AllC.nil
     go_simp
     have hC9:=HSET.out _ 3 (.int .i64 DP) (.inr rfl) hC
     refine hK _ _ hC9 ?_
     clear hK K hC hC9
     try simp only [Act.put,ap1,ap2,ap3]
     clear e0 e1 e2 e3 e4 e5 e6 f2 f3
     refine wpAnyC_done (by kernel_rfl) ?_ _
     refine⟨rfl,?_⟩
     exact HKEY0 _ ⟨w7,hb7',rfl⟩
   --END7
   case h2 =>
    rintro Z0 ⟨w7,hb7,hZ0⟩
    have hHZ:Z0.heap[w5.heap.size]?=some (.cells #[.int .u8 (kd:Int),.int .i64 (cn:Int),.int .i64 SZ,.int .i64 DP,.bool sg,.int .u32 cl,.slice a ps.length c] 98 (0,0)):=by
     rw [hZ0]
     obtain⟨⟨x0,x1,x2,x3,x4,x5,x6⟩,_⟩:=HCX.out w7 hb7
     have hk7:=(hb7.block _ hGl).trans HEN.out
     simp [World.setCell,Array.getElem?_modify,hk7]
    have hbZ:Below w5.heap.size w5 Z0:=by
     rw [hZ0]
     exact ((HBA.out.trans (hb7.mono HBA.out.size)).setCell (p:=⟨w5.heap.size,2,none⟩) (Nat.le_refl _) _).setCell (p:=⟨w5.heap.size,3,none⟩) (Nat.le_refl _) _
    have hbWZ:Below (w.alloc (.cells #[.int .u16 op,.int .u32 ty,.int .u32 res,.slice ax na cx] 71)).heap.size (w.alloc (.cells #[.int .u16 op,.int .u32 ty,.int .u32 res,.slice ax na cx] 71)) Z0:=HW5.out.trans (hbZ.mono HW5.out.size)
    have y0:=(hbWZ.cell (p:=⟨w.heap.size,0,none⟩) hlx).trans c0
    have y1:=(hbWZ.cell (p:=⟨w.heap.size,1,none⟩) hlx).trans c1
    have y2:=(hbWZ.cell (p:=⟨w.heap.size,2,none⟩) hlx).trans c2
    have y3:=(hbWZ.cell (p:=⟨w.heap.size,3,none⟩) hlx).trans c3
    obtain⟨hgc,hgf⟩:=one_block hHZ
    have g0:Z0.cell? ⟨w5.heap.size,0,none⟩=some (.int .u8 (kd:Int)):=hgc 0
    have g2:Z0.cell? ⟨w5.heap.size,2,none⟩=some (.int .i64 SZ):=hgc 2
    have g3:Z0.cell? ⟨w5.heap.size,3,none⟩=some (.int .i64 DP):=hgc 3
    have HZB:=hide hbWZ
    have HBZ:=hide (HB.out.below (HB1.out.trans (hbWZ.mono HB1.out.size)))
    have HVZ:=hide (HVW.out.below hbZ)
    have HHZ:=hide hHZ
    have hMK:isMak op=!decide (kd=5∨kd=6):=HMK0.out
    have HLX:=hide hlx
    have HCC:=hide (And.intro c2 c3)
    have HFRW:Hid (∀ b o,a=some ⟨b,o,none⟩→w.heap.size≤b):=fun b o e=>Nat.le_trans HB1.out.size (HFR.out.2 b o e)
    have HTF:Hid (∀ (W9:World) (m k:Nat),MapV W9 m k zeroE (fun y=>if y=res then .agg #[.int .u8 (kd:Int),.int .i64 (cn:Int),.int .i64 SZ,.int .i64 DP,.bool sg,.int .u32 cl,.slice a ps.length c] else f y)→MapV W9 m k zeroE (fun y=>if y=(tyFull t (op,ty,res,xs) ⟨id0,kd,sg,cl,cn,ps,0,0⟩).id then entV (tyFull t (op,ty,res,xs) ⟨id0,kd,sg,cl,cn,ps,0,0⟩) a (tyFull t (op,ty,res,xs) ⟨id0,kd,sg,cl,cn,ps,0,0⟩).parts.length c else f y)):=fun W9 m k h=>by
     have e:entV (tyFull t (op,ty,res,xs) ⟨id0,kd,sg,cl,cn,ps,0,0⟩) a (tyFull t (op,ty,res,xs) ⟨id0,kd,sg,cl,cn,ps,0,0⟩).parts.length c=.agg #[.int .u8 (kd:Int),.int .i64 (cn:Int),.int .i64 SZ,.int .i64 DP,.bool sg,.int .u32 cl,.slice a ps.length c]:=by rw [← HSZ.out,← HDP.out];rfl
     rw [e];exact h
    clear hZ0 hb7 hHZ hbZ hbWZ hgc hgf HCX HSET HC0 HCW HE0 HQ HS0 HD HSD hrm hN hNT hrn c0 c1 c2 c3
    have HV2:Hid (Z0.cell? ⟨w.heap.size,2,none⟩=some (.int .u32 res)):=y2
    have HSZ2:Hid ((w.alloc (.cells #[.int .u16 op,.int .u32 ty,.int .u32 res,.slice ax na cx] 71)).heap.size≤Z0.heap.size):=HZB.out.size
    have HBB:Hid (Below B w Z0):=(HB1.out.trans (HZB.out.mono HB1.out.size)).mono HBW.out
    by_cases h56:kd=5∨kd=6
    ·have HMK:Hid (isMak op=false):=by show _=_;rw [hMK,decide_eq_true h56];rfl
     by_cases hs:4096<sizeR t ⟨id0,kd,sg,cl,cn,ps,0,0⟩
     ·have HRX:Hid (RES=(102,noTy)):=by show _=_;rw [← HRES.out,if_pos h56,if_pos hs]
      have hs':SZ > 4096:=by have:=HSZ.out;omega
      clear hs hMK
      rcases h56 with h56 | h56
      ·have hq5:((kd:Int)==5)=true:=by rw [h56];rfl
       have hp5:(kd:Int)=5:=by rw [h56];rfl
       clear h56 hp5
       go_wp2_with fail
       go_ret
       rw [HRX.out]
       exact⟨rfl,(HB1.out.trans (HZB.out.mono HB1.out.size)).mono HBW.out,fun h=>by cases h⟩
      ·have hq5:((kd:Int)==5)=false:=by rw [h56];rfl
       have hq6:((kd:Int)==6)=true:=by rw [h56];rfl
       clear h56
       go_wp2_with fail
       go_ret
       rw [HRX.out]
       exact⟨rfl,(HB1.out.trans (HZB.out.mono HB1.out.size)).mono HBW.out,fun h=>by cases h⟩
     ·have hs':SZ≤4096:=by have:=HSZ.out;omega
      by_cases hd:16<depthR t ⟨id0,kd,sg,cl,cn,ps,0,0⟩
      ·have HRX:Hid (RES=(4,noTy)):=by show _=_;rw [← HRES.out,if_pos h56,if_neg hs,if_pos hd]
       have hd':DP > 16:=by have:=HDP.out;omega
       clear hs hd hMK
       rcases h56 with h56 | h56
       ·have hq5:((kd:Int)==5)=true:=by rw [h56];rfl
        have hp5:(kd:Int)=5:=by rw [h56];rfl
        clear h56 hp5
        go_wp2_with fail
        go_ret
        rw [HRX.out]
        exact⟨rfl,(HB1.out.trans (HZB.out.mono HB1.out.size)).mono HBW.out,fun h=>by cases h⟩
       ·have hq5:((kd:Int)==5)=false:=by rw [h56];rfl
        have hq6:((kd:Int)==6)=true:=by rw [h56];rfl
        clear h56
        go_wp2_with fail
        go_ret
        rw [HRX.out]
        exact⟨rfl,(HB1.out.trans (HZB.out.mono HB1.out.size)).mono HBW.out,fun h=>by cases h⟩
      ·have HRX:Hid (RES=(0,tyFull t (op,ty,res,xs) ⟨id0,kd,sg,cl,cn,ps,0,0⟩)):=by show _=_;rw [← HRES.out,if_pos h56,if_neg hs,if_neg hd]
       have hd':DP≤16:=by have:=HDP.out;omega
       have HBF:Hid (BdB Z0 B q p mb nb kb (n+1) t nf (fun s=>kf s || (isMak op && decide (s=keyL (op,ty,res,xs)))) ov f):=by
        have h:=HBZ.out.mono (Nat.le_succ n)
        exact⟨h.tab,h.blk,h.nums,h.keys.congr (fun s=>by rw [HMK.out];simp),h.apart,h.low⟩
       clear hs hd hMK
       rcases h56 with h56 | h56
       ·have hq5:((kd:Int)==5)=true:=by rw [h56];rfl
        have hp5:(kd:Int)=5:=by rw [h56];rfl
        clear h56 hp5
        go_wp2_with fail
        have hB2:=HBF.out
        have hmv:MapV Z0.drew mb (n+1) zeroE f:=hB2.tab.map.block rfl
        obtain⟨w9,hrun,hm9,hg9⟩:=hmv.put 89 98 Tryz.underlying89 (by unfold maxLen;omega) res (.agg #[.int .u8 (kd:Int),.int .i64 (cn:Int),.int .i64 SZ,.int .i64 DP,.bool sg,.int .u32 cl,.slice a ps.length c]) HRS.out.1 HRS.out.2
        have hZB2:=HSZ2.out
        have v2:=HV2.out
        have u0:=(one_block hB2.blk).1 0
        have t0:=(one_block hB2.tab.blk).1 0
        obtain⟨hgc,hgf⟩:=one_block HHZ.out
        have g0:Z0.cell? ⟨w5.heap.size,0,none⟩=some (.int .u8 (kd:Int)):=hgc 0
        have g1:Z0.cell? ⟨w5.heap.size,1,none⟩=some (.int .i64 (cn:Int)):=hgc 1
        have g2:Z0.cell? ⟨w5.heap.size,2,none⟩=some (.int .i64 SZ):=hgc 2
        have g3:Z0.cell? ⟨w5.heap.size,3,none⟩=some (.int .i64 DP):=hgc 3
        have g4:Z0.cell? ⟨w5.heap.size,4,none⟩=some (.bool sg):=hgc 4
        have g5:Z0.cell? ⟨w5.heap.size,5,none⟩=some (.int .u32 cl):=hgc 5
        have g6:Z0.cell? ⟨w5.heap.size,6,none⟩=some (.slice a ps.length c):=hgc 6
        have u0':Z0.cell? ⟨q,0,none⟩=some (.pointer (some ⟨p,0,none⟩)):=u0
        have t0':Z0.cell? ⟨p,0,none⟩=some (.map (some mb)):=t0
        clear hgc hgf hmv u0 t0
        have hmix:Tryz.prog.follows .mixedOrders=true:=by kernel_rfl
        refine (wpIn_wide (n:=0)).1 ?_
        refine wpIn_normal (wpIn_region_any hmix (wpAnyE_sound (C:=fun w':World=>w'=Z0.drew) (E:=fun i=>i==10) _ _ _ _ ?_))
        change wpAnyE _ _ _ _ _ _ _ _ _ _ _ (World.drew _)
        have hCZ:Z0.drew=Z0.drew:=rfl
        refine wpAnyE_takeD (i:=0) (some 62) (v:=.pointer (some ⟨q,0,none⟩)) (fun _=>trivial) (by kernel_rfl) rfl rfl (by kernel_rfl) (by kernel_rfl) (by kernel_rfl) (by kernel_rfl) (fun _ _ _ h=>by cases h.1) hCZ (Or.inl ⟨by rfl,fun w' hC=>by subst hC;go_simp⟩) ?_
        simp only [Act.put,ap1,ap2,ap3]
        refine wpAnyE_takeD (i:=1) (some 63) (v:=.pointer (some ⟨q,0,none⟩)) (fun _=>trivial) (by kernel_rfl) rfl rfl (by kernel_rfl) (by kernel_rfl) (by kernel_rfl) (by kernel_rfl) (fun _ _ _ h=>by cases h.1) hCZ (Or.inl ⟨by rfl,fun w' hC=>by subst hC;go_simp⟩) ?_
        simp only [Act.put,ap1,ap2,ap3]
        refine wpAnyE_takeD (i:=2) (some 64) (v:=.pointer (some ⟨q,0,none⟩)) (fun _=>trivial) (by kernel_rfl) rfl rfl (by kernel_rfl) (by kernel_rfl) (by kernel_rfl) (by kernel_rfl) (fun _ _ _ h=>by cases h.1) hCZ (Or.inl ⟨by rfl,fun w' hC=>by subst hC;go_simp⟩) ?_
        simp only [Act.put,ap1,ap2,ap3]
        refine wpAnyE_takeD (i:=3) (some 65) (v:=.pointer (some ⟨p,0,none⟩)) (fun _=>trivial) (by kernel_rfl) rfl rfl (by kernel_rfl) (by kernel_rfl) (by kernel_rfl) (by kernel_rfl) (fun _ _ _ h=>by cases h.1) hCZ (Or.inl ⟨by rfl,fun w' hC=>by subst hC;go_simp⟩) ?_
        simp only [Act.put,ap1,ap2,ap3]
        refine wpAnyE_takeD (i:=4) (some 66) (v:=.pointer (some ⟨p,0,none⟩)) (fun _=>trivial) (by kernel_rfl) rfl rfl (by kernel_rfl) (by kernel_rfl) (by kernel_rfl) (by kernel_rfl) (fun _ _ _ h=>by cases h.1) hCZ (Or.inl ⟨by rfl,fun w' hC=>by subst hC;go_simp⟩) ?_
        simp only [Act.put,ap1,ap2,ap3]
        refine wpAnyE_takeD (i:=5) (some 67) (v:=.pointer (some ⟨p,0,none⟩)) (fun _=>trivial) (by kernel_rfl) rfl rfl (by kernel_rfl) (by kernel_rfl) (by kernel_rfl) (by kernel_rfl) (fun _ _ _ h=>by cases h.1) hCZ (Or.inl ⟨by rfl,fun w' hC=>by subst hC;go_simp⟩) ?_
        simp only [Act.put,ap1,ap2,ap3]
        refine wpAnyE_takeD (i:=6) (some 68) (v:=.map (some mb)) (fun _=>trivial) (by kernel_rfl) rfl rfl (by kernel_rfl) (by kernel_rfl) (by kernel_rfl) (by kernel_rfl) (fun _ _ _ h=>by cases h.1) hCZ (Or.inl ⟨by rfl,fun w' hC=>by subst hC;go_simp⟩) ?_
        simp only [Act.put,ap1,ap2,ap3]
        refine wpAnyE_takeD (i:=7) (some 69) (v:=.pointer (some ⟨w.heap.size,2,none⟩)) (fun _=>trivial) (by kernel_rfl) rfl rfl (by kernel_rfl) (by kernel_rfl) (by kernel_rfl) (by kernel_rfl) (fun _ _ _ h=>by cases h.1) hCZ (Or.inl ⟨by rfl,fun w' hC=>by subst hC;go_simp⟩) ?_
        simp only [Act.put,ap1,ap2,ap3]
        refine wpAnyE_takeD (i:=8) (some 70) (v:=.int .u32 res) (fun _=>trivial) (by kernel_rfl) rfl rfl (by kernel_rfl) (by kernel_rfl) (by kernel_rfl) (by kernel_rfl) (fun _ _ _ h=>by cases h.1) hCZ (Or.inl ⟨by rfl,fun w' hC=>by subst hC;go_simp⟩) ?_
        simp only [Act.put,ap1,ap2,ap3]
        refine wpAnyE_takeD (i:=9) (some 71) (v:=.agg #[.int .u8 (kd:Int),.int .i64 (cn:Int),.int .i64 SZ,.int .i64 DP,.bool sg,.int .u32 cl,.slice a ps.length c]) (fun _=>trivial) (by kernel_rfl) rfl rfl (by kernel_rfl) (by kernel_rfl) (by kernel_rfl) (by kernel_rfl) (fun _ _ _ h=>by cases h.1) hCZ (Or.inl ⟨by rfl,fun w' hC=>by subst hC;go_simp⟩) ?_
        simp only [Act.put,ap1,ap2,ap3]
        refine wpAnyE_ready (rs:=[10]) (by kernel_rfl) (by simp) ?_
        refine AllE.cons rfl (fun K hK=>?_) AllE.nil
        go_simp
        refine hK _ _ (.inl rfl) ?_
        clear hK K hCZ
        try simp only [Act.put,ap1,ap2,ap3]
        refine wpAnyE_done (by kernel_rfl) ⟨rfl,?_⟩ _
        clear g0 g1 g2 g3 g4 g5 g6 u0' t0' v2
        have hK1:(w9.heap[q]?=some (.cells #[.pointer (some ⟨p,0,none⟩),.map (some nb),.map (some kb)] 84 (0,0))∧w9.heap[p]?=some (.cells #[.map (some mb),ov] 91 (0,0)))∧w9.cell? ⟨w.heap.size,2,none⟩=some (.int .u32 res):=by
         have hmo:=hB2.tab.map.obj
         obtain⟨es,ck,hmo⟩:=hmo
         have e1:q≠mb:=fun e=>by rw [← e,hB2.blk] at hmo;cases hmo
         have e2:p≠mb:=fun e=>by rw [← e,hB2.tab.blk] at hmo;cases hmo
         have e3:w.heap.size≠mb:=fun e=>by
          have:=HV2.out
          rw [e] at this;simp [World.cell?,hmo] at this
         refine⟨⟨(hg9.block q (Array.getElem?_eq_some_iff.1 hB2.blk).1 (fun e=>e1 (Option.some.inj e))).trans hB2.blk,(hg9.block p hB2.tab.plt (fun e=>e2 (Option.some.inj e))).trans hB2.tab.blk⟩,?_⟩
         have h3:=hg9.block w.heap.size (Nat.lt_of_lt_of_le HLX.out hZB2) (fun e=>e3 (Option.some.inj e))
         have h4:=HV2.out
         simp only [World.cell?] at h4 ⊢
         rw [h3];exact h4
        have hO9:w9.ownsRow B 22 1 ov t.length ((t.map (·.id)).map (Value.int .u32)):=own_map (w:=Z0.drew) hB2.tab.order hg9 hB2.tab.map.obj
        have HLC:Hid (∀ w':World,((w'.heap[q]?=some (.cells #[.pointer (some ⟨p,0,none⟩),.map (some nb),.map (some kb)] 84 (0,0))∧w'.heap[p]?=some (.cells #[.map (some mb),ov] 91 (0,0)))∧w'.cell? ⟨w.heap.size,2,none⟩=some (.int .u32 res))→w'.cell? ⟨q,0,none⟩=some (.pointer (some ⟨p,0,none⟩))∧w'.cell? ⟨p,1,none⟩=some ov∧w'.cell? ⟨w.heap.size,2,none⟩=some (.int .u32 res)):=fun w' h=>⟨(one_block h.1.1).1 0,(one_block h.1.2).1 1,h.2⟩
        go_wp2_with fail
        have hmix:Tryz.prog.follows .mixedOrders=true:=by kernel_rfl
        refine (wpIn_wide (n:=0)).1 ?_
        refine wpIn_normal (wpIn_region_any hmix (wpAnyE_sound (C:=fun w':World=>(w'.heap[q]?=some (.cells #[.pointer (some ⟨p,0,none⟩),.map (some nb),.map (some kb)] 84 (0,0))∧w'.heap[p]?=some (.cells #[.map (some mb),ov] 91 (0,0)))∧w'.cell? ⟨w.heap.size,2,none⟩=some (.int .u32 res)) (E:=fun i=>i==17) _ _ _ _ ?_))
        change wpAnyE _ _ _ _ _ _ _ _ _ _ _ (World.drew _)
        have hC:=hK1
        refine wpAnyE_takeD (i:=0) (some 72) (v:=.pointer (some ⟨q,0,none⟩)) (fun _=>trivial) (by kernel_rfl) rfl rfl (by kernel_rfl) (by kernel_rfl) (by kernel_rfl) (by kernel_rfl) (fun _ _ _ h=>by cases h.1) hC (Or.inl ⟨by rfl,fun w' hC=>by clear hC;go_simp⟩) ?_
        simp only [Act.put,ap1,ap2,ap3]
        refine wpAnyE_takeD (i:=1) (some 73) (v:=.pointer (some ⟨q,0,none⟩)) (fun _=>trivial) (by kernel_rfl) rfl rfl (by kernel_rfl) (by kernel_rfl) (by kernel_rfl) (by kernel_rfl) (fun _ _ _ h=>by cases h.1) hC (Or.inl ⟨by rfl,fun w' hC=>by clear hC;go_simp⟩) ?_
        simp only [Act.put,ap1,ap2,ap3]
        refine wpAnyE_takeD (i:=2) (some 74) (v:=.pointer (some ⟨q,0,none⟩)) (fun _=>trivial) (by kernel_rfl) rfl rfl (by kernel_rfl) (by kernel_rfl) (by kernel_rfl) (by kernel_rfl) (fun _ _ _ h=>by cases h.1) hC (Or.inl ⟨by rfl,fun w' hC=>by clear hC;go_simp⟩) ?_
        simp only [Act.put,ap1,ap2,ap3]
        refine wpAnyE_takeD (i:=3) (some 75) (v:=.pointer (some ⟨p,0,none⟩)) (fun _=>trivial) (by kernel_rfl) rfl rfl (by kernel_rfl) (by kernel_rfl) (by kernel_rfl) (by kernel_rfl) (fun _ _ _ h=>by cases h.1) hC (Or.inl ⟨by rfl,fun w' hC=>by have x0:=(HLC.out w' hC).1;clear hC;go_simp⟩) ?_
        simp only [Act.put,ap1,ap2,ap3]
        refine wpAnyE_takeD (i:=4) (some 76) (v:=.pointer (some ⟨q,0,none⟩)) (fun _=>trivial) (by kernel_rfl) rfl rfl (by kernel_rfl) (by kernel_rfl) (by kernel_rfl) (by kernel_rfl) (fun _ _ _ h=>by cases h.1) hC (Or.inl ⟨by rfl,fun w' hC=>by clear hC;go_simp⟩) ?_
        simp only [Act.put,ap1,ap2,ap3]
        refine wpAnyE_takeD (i:=5) (some 77) (v:=.pointer (some ⟨q,0,none⟩)) (fun _=>trivial) (by kernel_rfl) rfl rfl (by kernel_rfl) (by kernel_rfl) (by kernel_rfl) (by kernel_rfl) (fun _ _ _ h=>by cases h.1) hC (Or.inl ⟨by rfl,fun w' hC=>by clear hC;go_simp⟩) ?_
        simp only [Act.put,ap1,ap2,ap3]
        refine wpAnyE_takeD (i:=6) (some 78) (v:=.pointer (some ⟨q,0,none⟩)) (fun _=>trivial) (by kernel_rfl) rfl rfl (by kernel_rfl) (by kernel_rfl) (by kernel_rfl) (by kernel_rfl) (fun _ _ _ h=>by cases h.1) hC (Or.inl ⟨by rfl,fun w' hC=>by clear hC;go_simp⟩) ?_
        simp only [Act.put,ap1,ap2,ap3]
        refine wpAnyE_takeD (i:=7) (some 79) (v:=.pointer (some ⟨p,0,none⟩)) (fun _=>trivial) (by kernel_rfl) rfl rfl (by kernel_rfl) (by kernel_rfl) (by kernel_rfl) (by kernel_rfl) (fun _ _ _ h=>by cases h.1) hC (Or.inl ⟨by rfl,fun w' hC=>by have x0:=(HLC.out w' hC).1;clear hC;go_simp⟩) ?_
        simp only [Act.put,ap1,ap2,ap3]
        refine wpAnyE_takeD (i:=8) (some 80) (v:=.pointer (some ⟨p,0,none⟩)) (fun _=>trivial) (by kernel_rfl) rfl rfl (by kernel_rfl) (by kernel_rfl) (by kernel_rfl) (by kernel_rfl) (fun _ _ _ h=>by cases h.1) hC (Or.inl ⟨by rfl,fun w' hC=>by clear hC;go_simp⟩) ?_
        simp only [Act.put,ap1,ap2,ap3]
        refine wpAnyE_takeD (i:=9) (some 81) (v:=.pointer (some ⟨p,1,none⟩)) (fun _=>trivial) (by kernel_rfl) rfl rfl (by kernel_rfl) (by kernel_rfl) (by kernel_rfl) (by kernel_rfl) (fun _ _ _ h=>by cases h.1) hC (Or.inl ⟨by rfl,fun w' hC=>by clear hC;go_simp⟩) ?_
        simp only [Act.put,ap1,ap2,ap3]
        refine wpAnyE_takeD (i:=10) (some 82) (v:=ov) (fun _=>trivial) (by kernel_rfl) rfl rfl (by kernel_rfl) (by kernel_rfl) (by kernel_rfl) (by kernel_rfl) (fun _ _ _ h=>by cases h.1) hC (Or.inl ⟨by rfl,fun w' hC=>by have x0:=(HLC.out w' hC).2.1;clear hC;go_simp⟩) ?_
        simp only [Act.put,ap1,ap2,ap3]
        refine wpAnyE_takeD (i:=11) (some 83) (v:=.pointer (some ⟨w.heap.size,2,none⟩)) (fun _=>trivial) (by kernel_rfl) rfl rfl (by kernel_rfl) (by kernel_rfl) (by kernel_rfl) (by kernel_rfl) (fun _ _ _ h=>by cases h.1) hC (Or.inl ⟨by rfl,fun w' hC=>by clear hC;go_simp⟩) ?_
        simp only [Act.put,ap1,ap2,ap3]
        refine wpAnyE_takeD (i:=12) (some 84) (v:=.int .u32 res) (fun _=>trivial) (by kernel_rfl) rfl rfl (by kernel_rfl) (by kernel_rfl) (by kernel_rfl) (by kernel_rfl) (fun _ _ _ h=>by cases h.1) hC (Or.inl ⟨by rfl,fun w' hC=>by have x0:=(HLC.out w' hC).2.2;clear hC;go_simp⟩) ?_
        simp only [Act.put,ap1,ap2,ap3]
        refine wpAnyE_ready (rs:=[13]) (by kernel_rfl) (by simp) ?_
        refine AllE.cons rfl (fun K hK=>?_) AllE.nil
        go_simp
        generalize hWA:(w9.alloc (.cells #[.int .u32 res] 22)).drew=WA at *
        have hb9:Below w9.heap.size w9 WA:=by rw [← hWA];exact ((Below.refl _ w9).alloc (Nat.le_refl _) _).drew
        have hNW:WA.heap[w9.heap.size]?=some (.cells #[.int .u32 res] 22 (0,0)):=by rw [← hWA];exact heap_alloc_new w9 _
        have hsA:w9.heap.size<WA.heap.size:=(Array.getElem?_eq_some_iff.1 hNW).1
        have hC1:(WA.heap[q]?=some (.cells #[.pointer (some ⟨p,0,none⟩),.map (some nb),.map (some kb)] 84 (0,0))∧WA.heap[p]?=some (.cells #[.map (some mb),ov] 91 (0,0)))∧WA.cell? ⟨w.heap.size,2,none⟩=some (.int .u32 res):=⟨⟨(hb9.block q (Array.getElem?_eq_some_iff.1 hC.1.1).1).trans hC.1.1,(hb9.block p (Array.getElem?_eq_some_iff.1 hC.1.2).1).trans hC.1.2⟩,(hb9.cell (p:=⟨w.heap.size,2,none⟩) (Nat.lt_of_lt_of_le HLX.out (Nat.le_trans hZB2 hg9.size))).trans hC.2⟩
        refine hK _ _ (.inr hC1) ?_
        clear hK K
        try simp only [Act.put,ap1,ap2,ap3]
        have hOA:=own_below hO9 hb9
        refine wpAnyE_ready (rs:=[14]) (by kernel_rfl) (by simp) ?_
        refine AllE.cons rfl (fun K hK=>?_) AllE.nil
        refine stepAny_lies _ (fun _=>trivial) rfl (.tmp 82) (.tmp 85) 26 rfl B 22 i0 (.int .u32 0) 1 4 Tryz.underlying26 HI.out.1 HI.out.2.1 HI.out.2.2.1 HI.out.2.2.2 rfl (by decide) ov t.length _ rfl hOA ⟨w9.heap.size,0,none⟩ 1 1 [.int .u32 res] rfl rfl (World.news_of_block (cs:=#[.int .u32 res]) (t:=22) (fr:=(0,0)) hNW) (by simp [Value.oneCell']) (by decide) (by have:=HTL.out;unfold maxLen;omega) (by have:=HTL.out;omega) (by have h1:=HBW.out;have h2:=HLX.out;have h3:=hZB2;have h4:=hg9.size;have h5:Z0.drew.heap.size=Z0.heap.size:=rfl;omega) ?_
        intro g7 cap7 w10 hown10 hgr10 hat10
        have hnoq:∀ x T cs,WA.heap[x]?=some (.cells cs T (0,0))→T≠22→ov.ownBlock≠some x:=fun x T cs hx hT e=>by
         rcases hOA.2 with ⟨e1,_⟩ | ⟨g2,cap2,cur,e1,_,e2,_⟩
         ·rw [e1] at e;cases e
         ·rw [e1] at e
          have:g2=x:=by simpa [Value.ownBlock] using e
          subst this
          rw [hx] at e2;injection e2 with e2;injection e2 with _ e2;exact hT e2
        have hOVL:∀ x,ov.ownBlock=some x→x<w.heap.size:=fun x e=>(HB.out.tab.order.lt x e).2
        have hC2:(w10.heap[q]?=some (.cells #[.pointer (some ⟨p,0,none⟩),.map (some nb),.map (some kb)] 84 (0,0))∧w10.heap[p]?=some (.cells #[.map (some mb),ov] 91 (0,0)))∧w10.cell? ⟨w.heap.size,2,none⟩=some (.int .u32 res):=by
         refine⟨⟨(hgr10.block q (Array.getElem?_eq_some_iff.1 hC1.1.1).1 (fun e=>hnoq q _ _ hC1.1.1 (by decide) e.symm)).trans hC1.1.1,(hgr10.block p (Array.getElem?_eq_some_iff.1 hC1.1.2).1 (fun e=>hnoq p _ _ hC1.1.2 (by decide) e.symm)).trans hC1.1.2⟩,?_⟩
         have h3:=hgr10.block w.heap.size (Nat.lt_of_lt_of_le HLX.out (Nat.le_trans hZB2 (Nat.le_trans hg9.size hb9.size))) (fun e=>by have:=hOVL _ e.symm;omega)
         have h4:=hC1.2
         simp only [World.cell?] at h4 ⊢
         rw [h3];exact h4
        refine hK _ _ (.inr hC2) ?_
        clear hK K
        have HFB:=hide (take_end (w9:=w9) (w9b:=WA) hB2 (r:=tyFull t (op,ty,res,xs) ⟨id0,kd,sg,cl,cn,ps,0,0⟩) HNEW.out (a:=a) (c:=c) HVZ.out HFR.out.1 (lo:=w.heap.size) HBW.out HFRW.out hOVL HB.out.tab.plt (HTF.out w9 mb (n+1+1) hm9) ⟨hg9.os,hg9.tape,hg9.output,hg9.size,hg9.block⟩ hb9 hown10 hgr10 hat10)
        have HB10:Hid (Below B w (w10.setCell ⟨p,1,none⟩ (.slice (some ⟨g7,0,none⟩) (t.length+1) cap7))):=by
         have h1:Below B w Z0:=HBB.out
         have h2:Below B w w9:=Below.grown (w:=Z0.drew) h1.drew hg9 (Nat.le_trans HBW.out (Nat.le_trans HB1.out.size hZB2)) (fun g e=>by cases e;exact HB.out.tab.mB)
         have h3:Below B w WA:=h2.trans (hb9.mono (Nat.le_trans HBW.out h2.size))
         have h4:Below B w w10:=h3.grown hgr10 (Nat.le_trans HBW.out h3.size) (fun g e=>(HB.out.tab.order.lt g e).1)
         exact h4.setCell (p:=⟨p,1,none⟩) HB.out.tab.pB _
        have hpx:=one_block hC2.1.2
        have pp1:w10.cell? ⟨p,1,none⟩=some ov:=hpx.1 1
        have pf1:=hpx.2 1
        clear hpx hown10 hgr10 hat10 hOA hNW hsA hWA hb9 hC1 hm9 hg9 hrun hO9 hK1 hnoq hOVL hC
        refine wpAnyE_ready (rs:=[15]) (by kernel_rfl) (by simp) ?_
        refine AllE.cons rfl (fun K hK=>?_) AllE.nil
        go_simp
        refine hK _ _ (.inr hC2) ?_
        clear hK K
        try simp only [Act.put,ap1,ap2,ap3]
        refine wpAnyE_ready (rs:=[16]) (by kernel_rfl) (by simp) ?_
        refine AllE.cons rfl (fun K hK=>?_) AllE.nil
        go_simp
        refine hK _ _ (.inr hC2) ?_
        clear hK K
        try simp only [Act.put,ap1,ap2,ap3]
        refine wpAnyE_ready (rs:=[17]) (by kernel_rfl) (by simp) ?_
        refine AllE.cons rfl (fun K hK=>?_) AllE.nil
        go_simp
        refine hK _ _ (.inl rfl) ?_
        clear hK K hC2 pp1 pf1
        try simp only [Act.put,ap1,ap2,ap3]
        refine wpAnyE_done (by kernel_rfl) ⟨rfl,?_⟩ _
        generalize w10.setCell ⟨p,1,none⟩ (.slice (some ⟨g7,0,none⟩) (t.length+1) cap7)=ZF at *
        go_wp2_with fail
        go_ret
        rw [HRX.out]
        refine⟨rfl,HB10.out,fun _=>?_⟩
        rw [if_neg (show ¬ (tyFull t (op,ty,res,xs) ⟨id0,kd,sg,cl,cn,ps,0,0⟩).kind=0 from HKD.out)]
        exact⟨_,_,HFB.out⟩
       ·have hq5:((kd:Int)==5)=false:=by rw [h56];rfl
        have hq6:((kd:Int)==6)=true:=by rw [h56];rfl
        clear h56
        go_wp2_with fail
        have hB2:=HBF.out
        have hmv:MapV Z0.drew mb (n+1) zeroE f:=hB2.tab.map.block rfl
        obtain⟨w9,hrun,hm9,hg9⟩:=hmv.put 89 98 Tryz.underlying89 (by unfold maxLen;omega) res (.agg #[.int .u8 (kd:Int),.int .i64 (cn:Int),.int .i64 SZ,.int .i64 DP,.bool sg,.int .u32 cl,.slice a ps.length c]) HRS.out.1 HRS.out.2
        have hZB2:=HSZ2.out
        have v2:=HV2.out
        have u0:=(one_block hB2.blk).1 0
        have t0:=(one_block hB2.tab.blk).1 0
        obtain⟨hgc,hgf⟩:=one_block HHZ.out
        have g0:Z0.cell? ⟨w5.heap.size,0,none⟩=some (.int .u8 (kd:Int)):=hgc 0
        have g1:Z0.cell? ⟨w5.heap.size,1,none⟩=some (.int .i64 (cn:Int)):=hgc 1
        have g2:Z0.cell? ⟨w5.heap.size,2,none⟩=some (.int .i64 SZ):=hgc 2
        have g3:Z0.cell? ⟨w5.heap.size,3,none⟩=some (.int .i64 DP):=hgc 3
        have g4:Z0.cell? ⟨w5.heap.size,4,none⟩=some (.bool sg):=hgc 4
        have g5:Z0.cell? ⟨w5.heap.size,5,none⟩=some (.int .u32 cl):=hgc 5
        have g6:Z0.cell? ⟨w5.heap.size,6,none⟩=some (.slice a ps.length c):=hgc 6
        have u0':Z0.cell? ⟨q,0,none⟩=some (.pointer (some ⟨p,0,none⟩)):=u0
        have t0':Z0.cell? ⟨p,0,none⟩=some (.map (some mb)):=t0
        clear hgc hgf hmv u0 t0
        have hmix:Tryz.prog.follows .mixedOrders=true:=by kernel_rfl
        refine (wpIn_wide (n:=0)).1 ?_
        refine wpIn_normal (wpIn_region_any hmix (wpAnyE_sound (C:=fun w':World=>w'=Z0.drew) (E:=fun i=>i==10) _ _ _ _ ?_))
        change wpAnyE _ _ _ _ _ _ _ _ _ _ _ (World.drew _)
        have hCZ:Z0.drew=Z0.drew:=rfl
        refine wpAnyE_takeD (i:=0) (some 62) (v:=.pointer (some ⟨q,0,none⟩)) (fun _=>trivial) (by kernel_rfl) rfl rfl (by kernel_rfl) (by kernel_rfl) (by kernel_rfl) (by kernel_rfl) (fun _ _ _ h=>by cases h.1) hCZ (Or.inl ⟨by rfl,fun w' hC=>by subst hC;go_simp⟩) ?_
        simp only [Act.put,ap1,ap2,ap3]
        refine wpAnyE_takeD (i:=1) (some 63) (v:=.pointer (some ⟨q,0,none⟩)) (fun _=>trivial) (by kernel_rfl) rfl rfl (by kernel_rfl) (by kernel_rfl) (by kernel_rfl) (by kernel_rfl) (fun _ _ _ h=>by cases h.1) hCZ (Or.inl ⟨by rfl,fun w' hC=>by subst hC;go_simp⟩) ?_
        simp only [Act.put,ap1,ap2,ap3]
        refine wpAnyE_takeD (i:=2) (some 64) (v:=.pointer (some ⟨q,0,none⟩)) (fun _=>trivial) (by kernel_rfl) rfl rfl (by kernel_rfl) (by kernel_rfl) (by kernel_rfl) (by kernel_rfl) (fun _ _ _ h=>by cases h.1) hCZ (Or.inl ⟨by rfl,fun w' hC=>by subst hC;go_simp⟩) ?_
        simp only [Act.put,ap1,ap2,ap3]
        refine wpAnyE_takeD (i:=3) (some 65) (v:=.pointer (some ⟨p,0,none⟩)) (fun _=>trivial) (by kernel_rfl) rfl rfl (by kernel_rfl) (by kernel_rfl) (by kernel_rfl) (by kernel_rfl) (fun _ _ _ h=>by cases h.1) hCZ (Or.inl ⟨by rfl,fun w' hC=>by subst hC;go_simp⟩) ?_
        simp only [Act.put,ap1,ap2,ap3]
        refine wpAnyE_takeD (i:=4) (some 66) (v:=.pointer (some ⟨p,0,none⟩)) (fun _=>trivial) (by kernel_rfl) rfl rfl (by kernel_rfl) (by kernel_rfl) (by kernel_rfl) (by kernel_rfl) (fun _ _ _ h=>by cases h.1) hCZ (Or.inl ⟨by rfl,fun w' hC=>by subst hC;go_simp⟩) ?_
        simp only [Act.put,ap1,ap2,ap3]
        refine wpAnyE_takeD (i:=5) (some 67) (v:=.pointer (some ⟨p,0,none⟩)) (fun _=>trivial) (by kernel_rfl) rfl rfl (by kernel_rfl) (by kernel_rfl) (by kernel_rfl) (by kernel_rfl) (fun _ _ _ h=>by cases h.1) hCZ (Or.inl ⟨by rfl,fun w' hC=>by subst hC;go_simp⟩) ?_
        simp only [Act.put,ap1,ap2,ap3]
        refine wpAnyE_takeD (i:=6) (some 68) (v:=.map (some mb)) (fun _=>trivial) (by kernel_rfl) rfl rfl (by kernel_rfl) (by kernel_rfl) (by kernel_rfl) (by kernel_rfl) (fun _ _ _ h=>by cases h.1) hCZ (Or.inl ⟨by rfl,fun w' hC=>by subst hC;go_simp⟩) ?_
        simp only [Act.put,ap1,ap2,ap3]
        refine wpAnyE_takeD (i:=7) (some 69) (v:=.pointer (some ⟨w.heap.size,2,none⟩)) (fun _=>trivial) (by kernel_rfl) rfl rfl (by kernel_rfl) (by kernel_rfl) (by kernel_rfl) (by kernel_rfl) (fun _ _ _ h=>by cases h.1) hCZ (Or.inl ⟨by rfl,fun w' hC=>by subst hC;go_simp⟩) ?_
        simp only [Act.put,ap1,ap2,ap3]
        refine wpAnyE_takeD (i:=8) (some 70) (v:=.int .u32 res) (fun _=>trivial) (by kernel_rfl) rfl rfl (by kernel_rfl) (by kernel_rfl) (by kernel_rfl) (by kernel_rfl) (fun _ _ _ h=>by cases h.1) hCZ (Or.inl ⟨by rfl,fun w' hC=>by subst hC;go_simp⟩) ?_
        simp only [Act.put,ap1,ap2,ap3]
        refine wpAnyE_takeD (i:=9) (some 71) (v:=.agg #[.int .u8 (kd:Int),.int .i64 (cn:Int),.int .i64 SZ,.int .i64 DP,.bool sg,.int .u32 cl,.slice a ps.length c]) (fun _=>trivial) (by kernel_rfl) rfl rfl (by kernel_rfl) (by kernel_rfl) (by kernel_rfl) (by kernel_rfl) (fun _ _ _ h=>by cases h.1) hCZ (Or.inl ⟨by rfl,fun w' hC=>by subst hC;go_simp⟩) ?_
        simp only [Act.put,ap1,ap2,ap3]
        refine wpAnyE_ready (rs:=[10]) (by kernel_rfl) (by simp) ?_
        refine AllE.cons rfl (fun K hK=>?_) AllE.nil
        go_simp
        refine hK _ _ (.inl rfl) ?_
        clear hK K hCZ
        try simp only [Act.put,ap1,ap2,ap3]
        refine wpAnyE_done (by kernel_rfl) ⟨rfl,?_⟩ _
        clear g0 g1 g2 g3 g4 g5 g6 u0' t0' v2
        have hK1:(w9.heap[q]?=some (.cells #[.pointer (some ⟨p,0,none⟩),.map (some nb),.map (some kb)] 84 (0,0))∧w9.heap[p]?=some (.cells #[.map (some mb),ov] 91 (0,0)))∧w9.cell? ⟨w.heap.size,2,none⟩=some (.int .u32 res):=by
         have hmo:=hB2.tab.map.obj
         obtain⟨es,ck,hmo⟩:=hmo
         have e1:q≠mb:=fun e=>by rw [← e,hB2.blk] at hmo;cases hmo
         have e2:p≠mb:=fun e=>by rw [← e,hB2.tab.blk] at hmo;cases hmo
         have e3:w.heap.size≠mb:=fun e=>by
          have:=HV2.out
          rw [e] at this;simp [World.cell?,hmo] at this
         refine⟨⟨(hg9.block q (Array.getElem?_eq_some_iff.1 hB2.blk).1 (fun e=>e1 (Option.some.inj e))).trans hB2.blk,(hg9.block p hB2.tab.plt (fun e=>e2 (Option.some.inj e))).trans hB2.tab.blk⟩,?_⟩
         have h3:=hg9.block w.heap.size (Nat.lt_of_lt_of_le HLX.out hZB2) (fun e=>e3 (Option.some.inj e))
         have h4:=HV2.out
         simp only [World.cell?] at h4 ⊢
         rw [h3];exact h4
        have hO9:w9.ownsRow B 22 1 ov t.length ((t.map (·.id)).map (Value.int .u32)):=own_map (w:=Z0.drew) hB2.tab.order hg9 hB2.tab.map.obj
        have HLC:Hid (∀ w':World,((w'.heap[q]?=some (.cells #[.pointer (some ⟨p,0,none⟩),.map (some nb),.map (some kb)] 84 (0,0))∧w'.heap[p]?=some (.cells #[.map (some mb),ov] 91 (0,0)))∧w'.cell? ⟨w.heap.size,2,none⟩=some (.int .u32 res))→w'.cell? ⟨q,0,none⟩=some (.pointer (some ⟨p,0,none⟩))∧w'.cell? ⟨p,1,none⟩=some ov∧w'.cell? ⟨w.heap.size,2,none⟩=some (.int .u32 res)):=fun w' h=>⟨(one_block h.1.1).1 0,(one_block h.1.2).1 1,h.2⟩
        go_wp2_with fail
        have hmix:Tryz.prog.follows .mixedOrders=true:=by kernel_rfl
        refine (wpIn_wide (n:=0)).1 ?_
        refine wpIn_normal (wpIn_region_any hmix (wpAnyE_sound (C:=fun w':World=>(w'.heap[q]?=some (.cells #[.pointer (some ⟨p,0,none⟩),.map (some nb),.map (some kb)] 84 (0,0))∧w'.heap[p]?=some (.cells #[.map (some mb),ov] 91 (0,0)))∧w'.cell? ⟨w.heap.size,2,none⟩=some (.int .u32 res)) (E:=fun i=>i==17) _ _ _ _ ?_))
        change wpAnyE _ _ _ _ _ _ _ _ _ _ _ (World.drew _)
        have hC:=hK1
        refine wpAnyE_takeD (i:=0) (some 72) (v:=.pointer (some ⟨q,0,none⟩)) (fun _=>trivial) (by kernel_rfl) rfl rfl (by kernel_rfl) (by kernel_rfl) (by kernel_rfl) (by kernel_rfl) (fun _ _ _ h=>by cases h.1) hC (Or.inl ⟨by rfl,fun w' hC=>by clear hC;go_simp⟩) ?_
        simp only [Act.put,ap1,ap2,ap3]
        refine wpAnyE_takeD (i:=1) (some 73) (v:=.pointer (some ⟨q,0,none⟩)) (fun _=>trivial) (by kernel_rfl) rfl rfl (by kernel_rfl) (by kernel_rfl) (by kernel_rfl) (by kernel_rfl) (fun _ _ _ h=>by cases h.1) hC (Or.inl ⟨by rfl,fun w' hC=>by clear hC;go_simp⟩) ?_
        simp only [Act.put,ap1,ap2,ap3]
        refine wpAnyE_takeD (i:=2) (some 74) (v:=.pointer (some ⟨q,0,none⟩)) (fun _=>trivial) (by kernel_rfl) rfl rfl (by kernel_rfl) (by kernel_rfl) (by kernel_rfl) (by kernel_rfl) (fun _ _ _ h=>by cases h.1) hC (Or.inl ⟨by rfl,fun w' hC=>by clear hC;go_simp⟩) ?_
        simp only [Act.put,ap1,ap2,ap3]
        refine wpAnyE_takeD (i:=3) (some 75) (v:=.pointer (some ⟨p,0,none⟩)) (fun _=>trivial) (by kernel_rfl) rfl rfl (by kernel_rfl) (by kernel_rfl) (by kernel_rfl) (by kernel_rfl) (fun _ _ _ h=>by cases h.1) hC (Or.inl ⟨by rfl,fun w' hC=>by have x0:=(HLC.out w' hC).1;clear hC;go_simp⟩) ?_
        simp only [Act.put,ap1,ap2,ap3]
        refine wpAnyE_takeD (i:=4) (some 76) (v:=.pointer (some ⟨q,0,none⟩)) (fun _=>trivial) (by kernel_rfl) rfl rfl (by kernel_rfl) (by kernel_rfl) (by kernel_rfl) (by kernel_rfl) (fun _ _ _ h=>by cases h.1) hC (Or.inl ⟨by rfl,fun w' hC=>by clear hC;go_simp⟩) ?_
        simp only [Act.put,ap1,ap2,ap3]
        refine wpAnyE_takeD (i:=5) (some 77) (v:=.pointer (some ⟨q,0,none⟩)) (fun _=>trivial) (by kernel_rfl) rfl rfl (by kernel_rfl) (by kernel_rfl) (by kernel_rfl) (by kernel_rfl) (fun _ _ _ h=>by cases h.1) hC (Or.inl ⟨by rfl,fun w' hC=>by clear hC;go_simp⟩) ?_
        simp only [Act.put,ap1,ap2,ap3]
        refine wpAnyE_takeD (i:=6) (some 78) (v:=.pointer (some ⟨q,0,none⟩)) (fun _=>trivial) (by kernel_rfl) rfl rfl (by kernel_rfl) (by kernel_rfl) (by kernel_rfl) (by kernel_rfl) (fun _ _ _ h=>by cases h.1) hC (Or.inl ⟨by rfl,fun w' hC=>by clear hC;go_simp⟩) ?_
        simp only [Act.put,ap1,ap2,ap3]
        refine wpAnyE_takeD (i:=7) (some 79) (v:=.pointer (some ⟨p,0,none⟩)) (fun _=>trivial) (by kernel_rfl) rfl rfl (by kernel_rfl) (by kernel_rfl) (by kernel_rfl) (by kernel_rfl) (fun _ _ _ h=>by cases h.1) hC (Or.inl ⟨by rfl,fun w' hC=>by have x0:=(HLC.out w' hC).1;clear hC;go_simp⟩) ?_
        simp only [Act.put,ap1,ap2,ap3]
        refine wpAnyE_takeD (i:=8) (some 80) (v:=.pointer (some ⟨p,0,none⟩)) (fun _=>trivial) (by kernel_rfl) rfl rfl (by kernel_rfl) (by kernel_rfl) (by kernel_rfl) (by kernel_rfl) (fun _ _ _ h=>by cases h.1) hC (Or.inl ⟨by rfl,fun w' hC=>by clear hC;go_simp⟩) ?_
        simp only [Act.put,ap1,ap2,ap3]
        refine wpAnyE_takeD (i:=9) (some 81) (v:=.pointer (some ⟨p,1,none⟩)) (fun _=>trivial) (by kernel_rfl) rfl rfl (by kernel_rfl) (by kernel_rfl) (by kernel_rfl) (by kernel_rfl) (fun _ _ _ h=>by cases h.1) hC (Or.inl ⟨by rfl,fun w' hC=>by clear hC;go_simp⟩) ?_
        simp only [Act.put,ap1,ap2,ap3]
        refine wpAnyE_takeD (i:=10) (some 82) (v:=ov) (fun _=>trivial) (by kernel_rfl) rfl rfl (by kernel_rfl) (by kernel_rfl) (by kernel_rfl) (by kernel_rfl) (fun _ _ _ h=>by cases h.1) hC (Or.inl ⟨by rfl,fun w' hC=>by have x0:=(HLC.out w' hC).2.1;clear hC;go_simp⟩) ?_
        simp only [Act.put,ap1,ap2,ap3]
        refine wpAnyE_takeD (i:=11) (some 83) (v:=.pointer (some ⟨w.heap.size,2,none⟩)) (fun _=>trivial) (by kernel_rfl) rfl rfl (by kernel_rfl) (by kernel_rfl) (by kernel_rfl) (by kernel_rfl) (fun _ _ _ h=>by cases h.1) hC (Or.inl ⟨by rfl,fun w' hC=>by clear hC;go_simp⟩) ?_
        simp only [Act.put,ap1,ap2,ap3]
        refine wpAnyE_takeD (i:=12) (some 84) (v:=.int .u32 res) (fun _=>trivial) (by kernel_rfl) rfl rfl (by kernel_rfl) (by kernel_rfl) (by kernel_rfl) (by kernel_rfl) (fun _ _ _ h=>by cases h.1) hC (Or.inl ⟨by rfl,fun w' hC=>by have x0:=(HLC.out w' hC).2.2;clear hC;go_simp⟩) ?_
        simp only [Act.put,ap1,ap2,ap3]
        refine wpAnyE_ready (rs:=[13]) (by kernel_rfl) (by simp) ?_
        refine AllE.cons rfl (fun K hK=>?_) AllE.nil
        go_simp
        generalize hWA:(w9.alloc (.cells #[.int .u32 res] 22)).drew=WA at *
        have hb9:Below w9.heap.size w9 WA:=by rw [← hWA];exact ((Below.refl _ w9).alloc (Nat.le_refl _) _).drew
        have hNW:WA.heap[w9.heap.size]?=some (.cells #[.int .u32 res] 22 (0,0)):=by rw [← hWA];exact heap_alloc_new w9 _
        have hsA:w9.heap.size<WA.heap.size:=(Array.getElem?_eq_some_iff.1 hNW).1
        have hC1:(WA.heap[q]?=some (.cells #[.pointer (some ⟨p,0,none⟩),.map (some nb),.map (some kb)] 84 (0,0))∧WA.heap[p]?=some (.cells #[.map (some mb),ov] 91 (0,0)))∧WA.cell? ⟨w.heap.size,2,none⟩=some (.int .u32 res):=⟨⟨(hb9.block q (Array.getElem?_eq_some_iff.1 hC.1.1).1).trans hC.1.1,(hb9.block p (Array.getElem?_eq_some_iff.1 hC.1.2).1).trans hC.1.2⟩,(hb9.cell (p:=⟨w.heap.size,2,none⟩) (Nat.lt_of_lt_of_le HLX.out (Nat.le_trans hZB2 hg9.size))).trans hC.2⟩
        refine hK _ _ (.inr hC1) ?_
        clear hK K
        try simp only [Act.put,ap1,ap2,ap3]
        have hOA:=own_below hO9 hb9
        refine wpAnyE_ready (rs:=[14]) (by kernel_rfl) (by simp) ?_
        refine AllE.cons rfl (fun K hK=>?_) AllE.nil
        refine stepAny_lies _ (fun _=>trivial) rfl (.tmp 82) (.tmp 85) 26 rfl B 22 i0 (.int .u32 0) 1 4 Tryz.underlying26 HI.out.1 HI.out.2.1 HI.out.2.2.1 HI.out.2.2.2 rfl (by decide) ov t.length _ rfl hOA ⟨w9.heap.size,0,none⟩ 1 1 [.int .u32 res] rfl rfl (World.news_of_block (cs:=#[.int .u32 res]) (t:=22) (fr:=(0,0)) hNW) (by simp [Value.oneCell']) (by decide) (by have:=HTL.out;unfold maxLen;omega) (by have:=HTL.out;omega) (by have h1:=HBW.out;have h2:=HLX.out;have h3:=hZB2;have h4:=hg9.size;have h5:Z0.drew.heap.size=Z0.heap.size:=rfl;omega) ?_
        intro g7 cap7 w10 hown10 hgr10 hat10
        have hnoq:∀ x T cs,WA.heap[x]?=some (.cells cs T (0,0))→T≠22→ov.ownBlock≠some x:=fun x T cs hx hT e=>by
         rcases hOA.2 with ⟨e1,_⟩ | ⟨g2,cap2,cur,e1,_,e2,_⟩
         ·rw [e1] at e;cases e
         ·rw [e1] at e
          have:g2=x:=by simpa [Value.ownBlock] using e
          subst this
          rw [hx] at e2;injection e2 with e2;injection e2 with _ e2;exact hT e2
        have hOVL:∀ x,ov.ownBlock=some x→x<w.heap.size:=fun x e=>(HB.out.tab.order.lt x e).2
        have hC2:(w10.heap[q]?=some (.cells #[.pointer (some ⟨p,0,none⟩),.map (some nb),.map (some kb)] 84 (0,0))∧w10.heap[p]?=some (.cells #[.map (some mb),ov] 91 (0,0)))∧w10.cell? ⟨w.heap.size,2,none⟩=some (.int .u32 res):=by
         refine⟨⟨(hgr10.block q (Array.getElem?_eq_some_iff.1 hC1.1.1).1 (fun e=>hnoq q _ _ hC1.1.1 (by decide) e.symm)).trans hC1.1.1,(hgr10.block p (Array.getElem?_eq_some_iff.1 hC1.1.2).1 (fun e=>hnoq p _ _ hC1.1.2 (by decide) e.symm)).trans hC1.1.2⟩,?_⟩
         have h3:=hgr10.block w.heap.size (Nat.lt_of_lt_of_le HLX.out (Nat.le_trans hZB2 (Nat.le_trans hg9.size hb9.size))) (fun e=>by have:=hOVL _ e.symm;omega)
         have h4:=hC1.2
         simp only [World.cell?] at h4 ⊢
         rw [h3];exact h4
        refine hK _ _ (.inr hC2) ?_
        clear hK K
        have HFB:=hide (take_end (w9:=w9) (w9b:=WA) hB2 (r:=tyFull t (op,ty,res,xs) ⟨id0,kd,sg,cl,cn,ps,0,0⟩) HNEW.out (a:=a) (c:=c) HVZ.out HFR.out.1 (lo:=w.heap.size) HBW.out HFRW.out hOVL HB.out.tab.plt (HTF.out w9 mb (n+1+1) hm9) ⟨hg9.os,hg9.tape,hg9.output,hg9.size,hg9.block⟩ hb9 hown10 hgr10 hat10)
        have HB10:Hid (Below B w (w10.setCell ⟨p,1,none⟩ (.slice (some ⟨g7,0,none⟩) (t.length+1) cap7))):=by
         have h1:Below B w Z0:=HBB.out
         have h2:Below B w w9:=Below.grown (w:=Z0.drew) h1.drew hg9 (Nat.le_trans HBW.out (Nat.le_trans HB1.out.size hZB2)) (fun g e=>by cases e;exact HB.out.tab.mB)
         have h3:Below B w WA:=h2.trans (hb9.mono (Nat.le_trans HBW.out h2.size))
         have h4:Below B w w10:=h3.grown hgr10 (Nat.le_trans HBW.out h3.size) (fun g e=>(HB.out.tab.order.lt g e).1)
         exact h4.setCell (p:=⟨p,1,none⟩) HB.out.tab.pB _
        have hpx:=one_block hC2.1.2
        have pp1:w10.cell? ⟨p,1,none⟩=some ov:=hpx.1 1
        have pf1:=hpx.2 1
        clear hpx hown10 hgr10 hat10 hOA hNW hsA hWA hb9 hC1 hm9 hg9 hrun hO9 hK1 hnoq hOVL hC
        refine wpAnyE_ready (rs:=[15]) (by kernel_rfl) (by simp) ?_
        refine AllE.cons rfl (fun K hK=>?_) AllE.nil
        go_simp
        refine hK _ _ (.inr hC2) ?_
        clear hK K
        try simp only [Act.put,ap1,ap2,ap3]
        refine wpAnyE_ready (rs:=[16]) (by kernel_rfl) (by simp) ?_
        refine AllE.cons rfl (fun K hK=>?_) AllE.nil
        go_simp
        refine hK _ _ (.inr hC2) ?_
        clear hK K
        try simp only [Act.put,ap1,ap2,ap3]
        refine wpAnyE_ready (rs:=[17]) (by kernel_rfl) (by simp) ?_
        refine AllE.cons rfl (fun K hK=>?_) AllE.nil
        go_simp
        refine hK _ _ (.inl rfl) ?_
        clear hK K hC2 pp1 pf1
        try simp only [Act.put,ap1,ap2,ap3]
        refine wpAnyE_done (by kernel_rfl) ⟨rfl,?_⟩ _
        generalize w10.setCell ⟨p,1,none⟩ (.slice (some ⟨g7,0,none⟩) (t.length+1) cap7)=ZF at *
        go_wp2_with fail
        go_ret
        rw [HRX.out]
        refine⟨rfl,HB10.out,fun _=>?_⟩
        rw [if_neg (show ¬ (tyFull t (op,ty,res,xs) ⟨id0,kd,sg,cl,cn,ps,0,0⟩).kind=0 from HKD.out)]
        exact⟨_,_,HFB.out⟩
    ·have HMK:Hid (isMak op=true):=by show _=_;rw [hMK,decide_eq_false h56];rfl
     have hq5:((kd:Int)==5)=false:=by simp;omega
     have hq6:((kd:Int)==6)=false:=by simp;omega
     have hN:=isNew_any (op,ty,res,xs) ax na cx Z0 HBZ.out ((HAV.out.below (HB1.out.trans (HZB.out.mono HB1.out.size)))) HLN.out HOK.out HFEW.out hn (HTN.out.below (HB1.out.trans (HZB.out.mono HB1.out.size))) (Nat.le_trans HBW.out HBB.out.size)
     have hkf:=HAG.out HMK.out
     unfold instV at hN
     simp only at hN
     cases hta:tyAgain l k with
     | true =>
      rw [hta] at hkf
      rw [hkf] at hN
      have HRX:Hid (RES=(101,noTy)):=by show _=_;rw [← HRES.out,if_neg h56,if_pos hta]
      clear h56 hMK hta hkf
      go_wp2_with (go_at_call 73;refine hN.mono ?_;rintro e w8 ⟨rfl,hbd8,hb8,hk8⟩)
      go_ret
      rw [HRX.out]
      exact⟨rfl,HBB.out.trans hb8,fun h=>by cases h⟩
     | false =>
      rw [hta] at hkf
      rw [hkf] at hN
      have HRX:Hid (RES=(0,tyFull t (op,ty,res,xs) ⟨id0,kd,sg,cl,cn,ps,0,0⟩)):=by show _=_;rw [← HRES.out,if_neg h56,if_neg (by rw [hta];simp)]
      clear h56 hMK hta hkf
      go_wp2_with (go_at_call 73;refine hN.mono ?_;rintro e w8 ⟨rfl,hbd8,hb8,hk8⟩)
      have hkbm:∃ es ck,Z0.heap[kb]?=some (.map es ck):=HBZ.out.keys.obj
      have hkbZ:=HBZ.out.keys.lt
      have HHZ8:Hid (w8.heap[w5.heap.size]?=some (.cells #[.int .u8 (kd:Int),.int .i64 (cn:Int),.int .i64 SZ,.int .i64 DP,.bool sg,.int .u32 cl,.slice a ps.length c] 98 (0,0))):=(hk8 _ (Array.getElem?_eq_some_iff.1 HHZ.out).1 (fun e=>by obtain⟨es,ck,hkbm⟩:=hkbm;rw [← e,HHZ.out] at hkbm;cases hkbm)).trans HHZ.out
      have HV28:Hid (w8.cell? ⟨w.heap.size,2,none⟩=some (.int .u32 res)):=by
       have h3:=hk8 w.heap.size (Nat.lt_of_lt_of_le HLX.out HSZ2.out) (fun e=>by
        obtain⟨es,ck,hkbm⟩:=hkbm
        have h4:=HV2.out
        show False
        rw [e] at h4
        simp [World.cell?,hkbm] at h4)
       have h4:=HV2.out
       show _=_
       simp only [World.cell?] at h4 ⊢
       rw [h3];exact h4
      have HSZ28:Hid ((w.alloc (.cells #[.int .u16 op,.int .u32 ty,.int .u32 res,.slice ax na cx] 71)).heap.size≤w8.heap.size):=Nat.le_trans HSZ2.out hb8.size
      have HBB8:Hid (Below B w w8):=HBB.out.trans hb8
      have HVZ8:Hid (View .u32 w8 a ps):=by
       intro j hj
       obtain⟨b2,o2,e2,hlt2,hcl⟩:=HVZ.out j hj
       have hnb:b2≠kb:=fun e=>by obtain⟨es,ck,hkbm⟩:=hkbm;subst e;simp [World.cell?,hkbm] at hcl
       refine⟨b2,o2,e2,Nat.lt_of_lt_of_le hlt2 hb8.size,?_⟩
       have:=hk8 b2 hlt2 hnb
       simp only [World.cell?,this] at hcl ⊢
       exact hcl
      have HBF8:Hid (BdB w8 B q p mb nb kb (n+1) t nf (fun s=>kf s || (isMak op && decide (s=keyL (op,ty,res,xs)))) ov f) :=
       ⟨hbd8.tab,hbd8.blk,hbd8.nums,hbd8.keys.congr (fun s=>by rw [HMK.out];simp),hbd8.apart,hbd8.low⟩
      clear hbd8 hb8 hk8 hkbm hkbZ hN y0 y1 y2 y3 g0 g2 g3
      have hB2:=HBF8.out
      have hmv:MapV w8.drew mb (n+1) zeroE f:=hB2.tab.map.block rfl
      obtain⟨w9,hrun,hm9,hg9⟩:=hmv.put 89 98 Tryz.underlying89 (by unfold maxLen;omega) res (.agg #[.int .u8 (kd:Int),.int .i64 (cn:Int),.int .i64 SZ,.int .i64 DP,.bool sg,.int .u32 cl,.slice a ps.length c]) HRS.out.1 HRS.out.2
      have hZB2:=HSZ28.out
      have v2:=HV28.out
      have u0:=(one_block hB2.blk).1 0
      have t0:=(one_block hB2.tab.blk).1 0
      obtain⟨hgc,hgf⟩:=one_block HHZ8.out
      have g0:w8.cell? ⟨w5.heap.size,0,none⟩=some (.int .u8 (kd:Int)):=hgc 0
      have g1:w8.cell? ⟨w5.heap.size,1,none⟩=some (.int .i64 (cn:Int)):=hgc 1
      have g2:w8.cell? ⟨w5.heap.size,2,none⟩=some (.int .i64 SZ):=hgc 2
      have g3:w8.cell? ⟨w5.heap.size,3,none⟩=some (.int .i64 DP):=hgc 3
      have g4:w8.cell? ⟨w5.heap.size,4,none⟩=some (.bool sg):=hgc 4
      have g5:w8.cell? ⟨w5.heap.size,5,none⟩=some (.int .u32 cl):=hgc 5
      have g6:w8.cell? ⟨w5.heap.size,6,none⟩=some (.slice a ps.length c):=hgc 6
      have u0':w8.cell? ⟨q,0,none⟩=some (.pointer (some ⟨p,0,none⟩)):=u0
      have t0':w8.cell? ⟨p,0,none⟩=some (.map (some mb)):=t0
      clear hgc hgf hmv u0 t0
      have hmix:Tryz.prog.follows .mixedOrders=true:=by kernel_rfl
      refine (wpIn_wide (n:=0)).1 ?_
      refine wpIn_normal (wpIn_region_any hmix (wpAnyE_sound (C:=fun w':World=>w'=w8.drew) (E:=fun i=>i==10) _ _ _ _ ?_))
      change wpAnyE _ _ _ _ _ _ _ _ _ _ _ (World.drew _)
      have hCZ:w8.drew=w8.drew:=rfl
      refine wpAnyE_takeD (i:=0) (some 62) (v:=.pointer (some ⟨q,0,none⟩)) (fun _=>trivial) (by kernel_rfl) rfl rfl (by kernel_rfl) (by kernel_rfl) (by kernel_rfl) (by kernel_rfl) (fun _ _ _ h=>by cases h.1) hCZ (Or.inl ⟨by rfl,fun w' hC=>by subst hC;go_simp⟩) ?_
      simp only [Act.put,ap1,ap2,ap3]
      refine wpAnyE_takeD (i:=1) (some 63) (v:=.pointer (some ⟨q,0,none⟩)) (fun _=>trivial) (by kernel_rfl) rfl rfl (by kernel_rfl) (by kernel_rfl) (by kernel_rfl) (by kernel_rfl) (fun _ _ _ h=>by cases h.1) hCZ (Or.inl ⟨by rfl,fun w' hC=>by subst hC;go_simp⟩) ?_
      simp only [Act.put,ap1,ap2,ap3]
      refine wpAnyE_takeD (i:=2) (some 64) (v:=.pointer (some ⟨q,0,none⟩)) (fun _=>trivial) (by kernel_rfl) rfl rfl (by kernel_rfl) (by kernel_rfl) (by kernel_rfl) (by kernel_rfl) (fun _ _ _ h=>by cases h.1) hCZ (Or.inl ⟨by rfl,fun w' hC=>by subst hC;go_simp⟩) ?_
      simp only [Act.put,ap1,ap2,ap3]
      refine wpAnyE_takeD (i:=3) (some 65) (v:=.pointer (some ⟨p,0,none⟩)) (fun _=>trivial) (by kernel_rfl) rfl rfl (by kernel_rfl) (by kernel_rfl) (by kernel_rfl) (by kernel_rfl) (fun _ _ _ h=>by cases h.1) hCZ (Or.inl ⟨by rfl,fun w' hC=>by subst hC;go_simp⟩) ?_
      simp only [Act.put,ap1,ap2,ap3]
      refine wpAnyE_takeD (i:=4) (some 66) (v:=.pointer (some ⟨p,0,none⟩)) (fun _=>trivial) (by kernel_rfl) rfl rfl (by kernel_rfl) (by kernel_rfl) (by kernel_rfl) (by kernel_rfl) (fun _ _ _ h=>by cases h.1) hCZ (Or.inl ⟨by rfl,fun w' hC=>by subst hC;go_simp⟩) ?_
      simp only [Act.put,ap1,ap2,ap3]
      refine wpAnyE_takeD (i:=5) (some 67) (v:=.pointer (some ⟨p,0,none⟩)) (fun _=>trivial) (by kernel_rfl) rfl rfl (by kernel_rfl) (by kernel_rfl) (by kernel_rfl) (by kernel_rfl) (fun _ _ _ h=>by cases h.1) hCZ (Or.inl ⟨by rfl,fun w' hC=>by subst hC;go_simp⟩) ?_
      simp only [Act.put,ap1,ap2,ap3]
      refine wpAnyE_takeD (i:=6) (some 68) (v:=.map (some mb)) (fun _=>trivial) (by kernel_rfl) rfl rfl (by kernel_rfl) (by kernel_rfl) (by kernel_rfl) (by kernel_rfl) (fun _ _ _ h=>by cases h.1) hCZ (Or.inl ⟨by rfl,fun w' hC=>by subst hC;go_simp⟩) ?_
      simp only [Act.put,ap1,ap2,ap3]
      refine wpAnyE_takeD (i:=7) (some 69) (v:=.pointer (some ⟨w.heap.size,2,none⟩)) (fun _=>trivial) (by kernel_rfl) rfl rfl (by kernel_rfl) (by kernel_rfl) (by kernel_rfl) (by kernel_rfl) (fun _ _ _ h=>by cases h.1) hCZ (Or.inl ⟨by rfl,fun w' hC=>by subst hC;go_simp⟩) ?_
      simp only [Act.put,ap1,ap2,ap3]
      refine wpAnyE_takeD (i:=8) (some 70) (v:=.int .u32 res) (fun _=>trivial) (by kernel_rfl) rfl rfl (by kernel_rfl) (by kernel_rfl) (by kernel_rfl) (by kernel_rfl) (fun _ _ _ h=>by cases h.1) hCZ (Or.inl ⟨by rfl,fun w' hC=>by subst hC;go_simp⟩) ?_
      simp only [Act.put,ap1,ap2,ap3]
      refine wpAnyE_takeD (i:=9) (some 71) (v:=.agg #[.int .u8 (kd:Int),.int .i64 (cn:Int),.int .i64 SZ,.int .i64 DP,.bool sg,.int .u32 cl,.slice a ps.length c]) (fun _=>trivial) (by kernel_rfl) rfl rfl (by kernel_rfl) (by kernel_rfl) (by kernel_rfl) (by kernel_rfl) (fun _ _ _ h=>by cases h.1) hCZ (Or.inl ⟨by rfl,fun w' hC=>by subst hC;go_simp⟩) ?_
      simp only [Act.put,ap1,ap2,ap3]
      refine wpAnyE_ready (rs:=[10]) (by kernel_rfl) (by simp) ?_
      refine AllE.cons rfl (fun K hK=>?_) AllE.nil
      go_simp
      refine hK _ _ (.inl rfl) ?_
      clear hK K hCZ
      try simp only [Act.put,ap1,ap2,ap3]
      refine wpAnyE_done (by kernel_rfl) ⟨rfl,?_⟩ _
      clear g0 g1 g2 g3 g4 g5 g6 u0' t0' v2
      have hK1:(w9.heap[q]?=some (.cells #[.pointer (some ⟨p,0,none⟩),.map (some nb),.map (some kb)] 84 (0,0))∧w9.heap[p]?=some (.cells #[.map (some mb),ov] 91 (0,0)))∧w9.cell? ⟨w.heap.size,2,none⟩=some (.int .u32 res):=by
       have hmo:=hB2.tab.map.obj
       obtain⟨es,ck,hmo⟩:=hmo
       have e1:q≠mb:=fun e=>by rw [← e,hB2.blk] at hmo;cases hmo
       have e2:p≠mb:=fun e=>by rw [← e,hB2.tab.blk] at hmo;cases hmo
       have e3:w.heap.size≠mb:=fun e=>by
        have:=HV28.out
        rw [e] at this;simp [World.cell?,hmo] at this
       refine⟨⟨(hg9.block q (Array.getElem?_eq_some_iff.1 hB2.blk).1 (fun e=>e1 (Option.some.inj e))).trans hB2.blk,(hg9.block p hB2.tab.plt (fun e=>e2 (Option.some.inj e))).trans hB2.tab.blk⟩,?_⟩
       have h3:=hg9.block w.heap.size (Nat.lt_of_lt_of_le HLX.out hZB2) (fun e=>e3 (Option.some.inj e))
       have h4:=HV28.out
       simp only [World.cell?] at h4 ⊢
       rw [h3];exact h4
      have hO9:w9.ownsRow B 22 1 ov t.length ((t.map (·.id)).map (Value.int .u32)):=own_map (w:=w8.drew) hB2.tab.order hg9 hB2.tab.map.obj
      have HLC:Hid (∀ w':World,((w'.heap[q]?=some (.cells #[.pointer (some ⟨p,0,none⟩),.map (some nb),.map (some kb)] 84 (0,0))∧w'.heap[p]?=some (.cells #[.map (some mb),ov] 91 (0,0)))∧w'.cell? ⟨w.heap.size,2,none⟩=some (.int .u32 res))→w'.cell? ⟨q,0,none⟩=some (.pointer (some ⟨p,0,none⟩))∧w'.cell? ⟨p,1,none⟩=some ov∧w'.cell? ⟨w.heap.size,2,none⟩=some (.int .u32 res)):=fun w' h=>⟨(one_block h.1.1).1 0,(one_block h.1.2).1 1,h.2⟩
      go_wp2_with fail
      have hmix:Tryz.prog.follows .mixedOrders=true:=by kernel_rfl
      refine (wpIn_wide (n:=0)).1 ?_
      refine wpIn_normal (wpIn_region_any hmix (wpAnyE_sound (C:=fun w':World=>(w'.heap[q]?=some (.cells #[.pointer (some ⟨p,0,none⟩),.map (some nb),.map (some kb)] 84 (0,0))∧w'.heap[p]?=some (.cells #[.map (some mb),ov] 91 (0,0)))∧w'.cell? ⟨w.heap.size,2,none⟩=some (.int .u32 res)) (E:=fun i=>i==17) _ _ _ _ ?_))
      change wpAnyE _ _ _ _ _ _ _ _ _ _ _ (World.drew _)
      have hC:=hK1
      refine wpAnyE_takeD (i:=0) (some 72) (v:=.pointer (some ⟨q,0,none⟩)) (fun _=>trivial) (by kernel_rfl) rfl rfl (by kernel_rfl) (by kernel_rfl) (by kernel_rfl) (by kernel_rfl) (fun _ _ _ h=>by cases h.1) hC (Or.inl ⟨by rfl,fun w' hC=>by clear hC;go_simp⟩) ?_
      simp only [Act.put,ap1,ap2,ap3]
      refine wpAnyE_takeD (i:=1) (some 73) (v:=.pointer (some ⟨q,0,none⟩)) (fun _=>trivial) (by kernel_rfl) rfl rfl (by kernel_rfl) (by kernel_rfl) (by kernel_rfl) (by kernel_rfl) (fun _ _ _ h=>by cases h.1) hC (Or.inl ⟨by rfl,fun w' hC=>by clear hC;go_simp⟩) ?_
      simp only [Act.put,ap1,ap2,ap3]
      refine wpAnyE_takeD (i:=2) (some 74) (v:=.pointer (some ⟨q,0,none⟩)) (fun _=>trivial) (by kernel_rfl) rfl rfl (by kernel_rfl) (by kernel_rfl) (by kernel_rfl) (by kernel_rfl) (fun _ _ _ h=>by cases h.1) hC (Or.inl ⟨by rfl,fun w' hC=>by clear hC;go_simp⟩) ?_
      simp only [Act.put,ap1,ap2,ap3]
      refine wpAnyE_takeD (i:=3) (some 75) (v:=.pointer (some ⟨p,0,none⟩)) (fun _=>trivial) (by kernel_rfl) rfl rfl (by kernel_rfl) (by kernel_rfl) (by kernel_rfl) (by kernel_rfl) (fun _ _ _ h=>by cases h.1) hC (Or.inl ⟨by rfl,fun w' hC=>by have x0:=(HLC.out w' hC).1;clear hC;go_simp⟩) ?_
      simp only [Act.put,ap1,ap2,ap3]
      refine wpAnyE_takeD (i:=4) (some 76) (v:=.pointer (some ⟨q,0,none⟩)) (fun _=>trivial) (by kernel_rfl) rfl rfl (by kernel_rfl) (by kernel_rfl) (by kernel_rfl) (by kernel_rfl) (fun _ _ _ h=>by cases h.1) hC (Or.inl ⟨by rfl,fun w' hC=>by clear hC;go_simp⟩) ?_
      simp only [Act.put,ap1,ap2,ap3]
      refine wpAnyE_takeD (i:=5) (some 77) (v:=.pointer (some ⟨q,0,none⟩)) (fun _=>trivial) (by kernel_rfl) rfl rfl (by kernel_rfl) (by kernel_rfl) (by kernel_rfl) (by kernel_rfl) (fun _ _ _ h=>by cases h.1) hC (Or.inl ⟨by rfl,fun w' hC=>by clear hC;go_simp⟩) ?_
      simp only [Act.put,ap1,ap2,ap3]
      refine wpAnyE_takeD (i:=6) (some 78) (v:=.pointer (some ⟨q,0,none⟩)) (fun _=>trivial) (by kernel_rfl) rfl rfl (by kernel_rfl) (by kernel_rfl) (by kernel_rfl) (by kernel_rfl) (fun _ _ _ h=>by cases h.1) hC (Or.inl ⟨by rfl,fun w' hC=>by clear hC;go_simp⟩) ?_
      simp only [Act.put,ap1,ap2,ap3]
      refine wpAnyE_takeD (i:=7) (some 79) (v:=.pointer (some ⟨p,0,none⟩)) (fun _=>trivial) (by kernel_rfl) rfl rfl (by kernel_rfl) (by kernel_rfl) (by kernel_rfl) (by kernel_rfl) (fun _ _ _ h=>by cases h.1) hC (Or.inl ⟨by rfl,fun w' hC=>by have x0:=(HLC.out w' hC).1;clear hC;go_simp⟩) ?_
      simp only [Act.put,ap1,ap2,ap3]
      refine wpAnyE_takeD (i:=8) (some 80) (v:=.pointer (some ⟨p,0,none⟩)) (fun _=>trivial) (by kernel_rfl) rfl rfl (by kernel_rfl) (by kernel_rfl) (by kernel_rfl) (by kernel_rfl) (fun _ _ _ h=>by cases h.1) hC (Or.inl ⟨by rfl,fun w' hC=>by clear hC;go_simp⟩) ?_
      simp only [Act.put,ap1,ap2,ap3]
      refine wpAnyE_takeD (i:=9) (some 81) (v:=.pointer (some ⟨p,1,none⟩)) (fun _=>trivial) (by kernel_rfl) rfl rfl (by kernel_rfl) (by kernel_rfl) (by kernel_rfl) (by kernel_rfl) (fun _ _ _ h=>by cases h.1) hC (Or.inl ⟨by rfl,fun w' hC=>by clear hC;go_simp⟩) ?_
      simp only [Act.put,ap1,ap2,ap3]
      refine wpAnyE_takeD (i:=10) (some 82) (v:=ov) (fun _=>trivial) (by kernel_rfl) rfl rfl (by kernel_rfl) (by kernel_rfl) (by kernel_rfl) (by kernel_rfl) (fun _ _ _ h=>by cases h.1) hC (Or.inl ⟨by rfl,fun w' hC=>by have x0:=(HLC.out w' hC).2.1;clear hC;go_simp⟩) ?_
      simp only [Act.put,ap1,ap2,ap3]
      refine wpAnyE_takeD (i:=11) (some 83) (v:=.pointer (some ⟨w.heap.size,2,none⟩)) (fun _=>trivial) (by kernel_rfl) rfl rfl (by kernel_rfl) (by kernel_rfl) (by kernel_rfl) (by kernel_rfl) (fun _ _ _ h=>by cases h.1) hC (Or.inl ⟨by rfl,fun w' hC=>by clear hC;go_simp⟩) ?_
      simp only [Act.put,ap1,ap2,ap3]
      refine wpAnyE_takeD (i:=12) (some 84) (v:=.int .u32 res) (fun _=>trivial) (by kernel_rfl) rfl rfl (by kernel_rfl) (by kernel_rfl) (by kernel_rfl) (by kernel_rfl) (fun _ _ _ h=>by cases h.1) hC (Or.inl ⟨by rfl,fun w' hC=>by have x0:=(HLC.out w' hC).2.2;clear hC;go_simp⟩) ?_
      simp only [Act.put,ap1,ap2,ap3]
      refine wpAnyE_ready (rs:=[13]) (by kernel_rfl) (by simp) ?_
      refine AllE.cons rfl (fun K hK=>?_) AllE.nil
      go_simp
      generalize hWA:(w9.alloc (.cells #[.int .u32 res] 22)).drew=WA at *
      have hb9:Below w9.heap.size w9 WA:=by rw [← hWA];exact ((Below.refl _ w9).alloc (Nat.le_refl _) _).drew
      have hNW:WA.heap[w9.heap.size]?=some (.cells #[.int .u32 res] 22 (0,0)):=by rw [← hWA];exact heap_alloc_new w9 _
      have hsA:w9.heap.size<WA.heap.size:=(Array.getElem?_eq_some_iff.1 hNW).1
      have hC1:(WA.heap[q]?=some (.cells #[.pointer (some ⟨p,0,none⟩),.map (some nb),.map (some kb)] 84 (0,0))∧WA.heap[p]?=some (.cells #[.map (some mb),ov] 91 (0,0)))∧WA.cell? ⟨w.heap.size,2,none⟩=some (.int .u32 res):=⟨⟨(hb9.block q (Array.getElem?_eq_some_iff.1 hC.1.1).1).trans hC.1.1,(hb9.block p (Array.getElem?_eq_some_iff.1 hC.1.2).1).trans hC.1.2⟩,(hb9.cell (p:=⟨w.heap.size,2,none⟩) (Nat.lt_of_lt_of_le HLX.out (Nat.le_trans hZB2 hg9.size))).trans hC.2⟩
      refine hK _ _ (.inr hC1) ?_
      clear hK K
      try simp only [Act.put,ap1,ap2,ap3]
      have hOA:=own_below hO9 hb9
      refine wpAnyE_ready (rs:=[14]) (by kernel_rfl) (by simp) ?_
      refine AllE.cons rfl (fun K hK=>?_) AllE.nil
      refine stepAny_lies _ (fun _=>trivial) rfl (.tmp 82) (.tmp 85) 26 rfl B 22 i0 (.int .u32 0) 1 4 Tryz.underlying26 HI.out.1 HI.out.2.1 HI.out.2.2.1 HI.out.2.2.2 rfl (by decide) ov t.length _ rfl hOA ⟨w9.heap.size,0,none⟩ 1 1 [.int .u32 res] rfl rfl (World.news_of_block (cs:=#[.int .u32 res]) (t:=22) (fr:=(0,0)) hNW) (by simp [Value.oneCell']) (by decide) (by have:=HTL.out;unfold maxLen;omega) (by have:=HTL.out;omega) (by have h1:=HBW.out;have h2:=HLX.out;have h3:=hZB2;have h4:=hg9.size;have h5:w8.drew.heap.size=w8.heap.size:=rfl;omega) ?_
      intro g7 cap7 w10 hown10 hgr10 hat10
      have hnoq:∀ x T cs,WA.heap[x]?=some (.cells cs T (0,0))→T≠22→ov.ownBlock≠some x:=fun x T cs hx hT e=>by
       rcases hOA.2 with ⟨e1,_⟩ | ⟨g2,cap2,cur,e1,_,e2,_⟩
       ·rw [e1] at e;cases e
       ·rw [e1] at e
        have:g2=x:=by simpa [Value.ownBlock] using e
        subst this
        rw [hx] at e2;injection e2 with e2;injection e2 with _ e2;exact hT e2
      have hOVL:∀ x,ov.ownBlock=some x→x<w.heap.size:=fun x e=>(HB.out.tab.order.lt x e).2
      have hC2:(w10.heap[q]?=some (.cells #[.pointer (some ⟨p,0,none⟩),.map (some nb),.map (some kb)] 84 (0,0))∧w10.heap[p]?=some (.cells #[.map (some mb),ov] 91 (0,0)))∧w10.cell? ⟨w.heap.size,2,none⟩=some (.int .u32 res):=by
       refine⟨⟨(hgr10.block q (Array.getElem?_eq_some_iff.1 hC1.1.1).1 (fun e=>hnoq q _ _ hC1.1.1 (by decide) e.symm)).trans hC1.1.1,(hgr10.block p (Array.getElem?_eq_some_iff.1 hC1.1.2).1 (fun e=>hnoq p _ _ hC1.1.2 (by decide) e.symm)).trans hC1.1.2⟩,?_⟩
       have h3:=hgr10.block w.heap.size (Nat.lt_of_lt_of_le HLX.out (Nat.le_trans hZB2 (Nat.le_trans hg9.size hb9.size))) (fun e=>by have:=hOVL _ e.symm;omega)
       have h4:=hC1.2
       simp only [World.cell?] at h4 ⊢
       rw [h3];exact h4
      refine hK _ _ (.inr hC2) ?_
      clear hK K
      have HFB:=hide (take_end (w9:=w9) (w9b:=WA) hB2 (r:=tyFull t (op,ty,res,xs) ⟨id0,kd,sg,cl,cn,ps,0,0⟩) HNEW.out (a:=a) (c:=c) HVZ8.out HFR.out.1 (lo:=w.heap.size) HBW.out HFRW.out hOVL HB.out.tab.plt (HTF.out w9 mb (n+1+1) hm9) ⟨hg9.os,hg9.tape,hg9.output,hg9.size,hg9.block⟩ hb9 hown10 hgr10 hat10)
      have HB10:Hid (Below B w (w10.setCell ⟨p,1,none⟩ (.slice (some ⟨g7,0,none⟩) (t.length+1) cap7))):=by
       have h1:Below B w w8:=HBB8.out
       have h2:Below B w w9:=Below.grown (w:=w8.drew) h1.drew hg9 (Nat.le_trans HBW.out (Nat.le_trans HB1.out.size hZB2)) (fun g e=>by cases e;exact HB.out.tab.mB)
       have h3:Below B w WA:=h2.trans (hb9.mono (Nat.le_trans HBW.out h2.size))
       have h4:Below B w w10:=h3.grown hgr10 (Nat.le_trans HBW.out h3.size) (fun g e=>(HB.out.tab.order.lt g e).1)
       exact h4.setCell (p:=⟨p,1,none⟩) HB.out.tab.pB _
      have hpx:=one_block hC2.1.2
      have pp1:w10.cell? ⟨p,1,none⟩=some ov:=hpx.1 1
      have pf1:=hpx.2 1
      clear hpx hown10 hgr10 hat10 hOA hNW hsA hWA hb9 hC1 hm9 hg9 hrun hO9 hK1 hnoq hOVL hC
      refine wpAnyE_ready (rs:=[15]) (by kernel_rfl) (by simp) ?_
      refine AllE.cons rfl (fun K hK=>?_) AllE.nil
      go_simp
      refine hK _ _ (.inr hC2) ?_
      clear hK K
      try simp only [Act.put,ap1,ap2,ap3]
      refine wpAnyE_ready (rs:=[16]) (by kernel_rfl) (by simp) ?_
      refine AllE.cons rfl (fun K hK=>?_) AllE.nil
      go_simp
      refine hK _ _ (.inr hC2) ?_
      clear hK K
      try simp only [Act.put,ap1,ap2,ap3]
      refine wpAnyE_ready (rs:=[17]) (by kernel_rfl) (by simp) ?_
      refine AllE.cons rfl (fun K hK=>?_) AllE.nil
      go_simp
      refine hK _ _ (.inl rfl) ?_
      clear hK K hC2 pp1 pf1
      try simp only [Act.put,ap1,ap2,ap3]
      refine wpAnyE_done (by kernel_rfl) ⟨rfl,?_⟩ _
      generalize w10.setCell ⟨p,1,none⟩ (.slice (some ⟨g7,0,none⟩) (t.length+1) cap7)=ZF at *
      go_wp2_with fail
      go_ret
      rw [HRX.out]
      refine⟨rfl,HB10.out,fun _=>?_⟩
      rw [if_neg (show ¬ (tyFull t (op,ty,res,xs) ⟨id0,kd,sg,cl,cn,ps,0,0⟩).kind=0 from HKD.out)]
      exact⟨_,_,HFB.out⟩
 ·rw [if_pos hE]
  have n1:(E==0)=false:=by simpa using hE
  have n2:(E != 0)=true:=by simpa using hE
  clear hB hv hl hok hO ht hnf htn hnew hag hNT hrn hrm hres hb1 hBw
  have HE:=hide hE
  go_enter Tryz.func42,Tryz.ntmps42
  go_wp2_with (go_at_call 70;refine hrd.mono ?_;rintro e w5 ⟨v,rfl,hev,hb5⟩;obtain⟨a,c,hve,hvw,hcap,hfr⟩:=hev;unfold entV at hve;subst hve)
  go_ret
  exact⟨rfl,(HB1.out.trans ((hb5.alloc hb5.size _).mono HB1.out.size)).mono HBW.out,fun h=>absurd h HE.out⟩
end Go.Proofs.YtoebhgpciinkgaaGreatDoor
