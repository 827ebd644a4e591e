/-
  Texts in one: TypesSizes, TypesSizes2, MathTt, MathKy, StrconvAppendUint.
-/
import Derived.Test.YtoebhgpciinkgaaGreatDoorB17
import Derived.Lib.Join
import Derived.Lib.ItoaNum
import Derived.Shelf.LaysM
import Derived.Shelf.Strconv.AppendInt10
namespace Go.Proofs.YtoebhgpciinkgaaGreatDoor
open Go.RowKit Go.Maps
set_option linter.unusedVariables false
set_option linter.unusedSimpArgs false
set_option maxRecDepth 10000
theorem TabK.pos {t:List TyR} (h:TabK t):∀ id,plainT t id=true→1≤sizeT t id∧1≤depthT t id:=by
 have key:∀ n (t:List TyR),t.length<n→TabK t→∀ id,plainT t id=true→1≤sizeT t id∧1≤depthT t id:=by
  intro n
  induction n with
  | zero=>intro t hn;omega
  | succ n ih =>
   intro t hn h id hp
   cases e:tyF t id with
   | none=>unfold plainT kindT tyD at hp;rw [e] at hp;cases hp
   | some r =>
    obtain⟨t0,h1,k,h3,_⟩:=h.row e
    have hr:tyD t id=r:=by unfold tyD;rw [e];rfl
    have hk:plainK r.kind=true:=by unfold plainT kindT at hp;rw [hr] at hp;exact hp
    have IH:=ih t0 (by omega) h1
    unfold sizeT depthT
    rw [hr]
    have hkk:=of_decide_eq_true hk
    refine⟨?_,by rw [k.depth];unfold depthR;rw [if_pos hk];omega⟩
    rw [k.size]
    unfold sizeR
    by_cases c1:r.kind=2∨r.kind=3
    ·rw [if_pos c1];exact Nat.le_refl 1
    rw [if_neg c1]
    by_cases c2:r.kind=4∨r.kind=5
    ·rw [if_pos c2]
     rcases c2 with c2 | c2
     ·obtain⟨p,e1,e2,_,e4⟩:=k.vec c2
      rw [e1]
      have:=(h1.leaf e4).1
      show 1≤r.count * sizeT t0 p
      rw [this];omega
     ·obtain⟨p,e1,e2,_,e4⟩:=k.arr c2
      rw [e1]
      have:=(IH p e4).1
      show 1≤r.count * sizeT t0 p
      exact Nat.mul_pos e2 this
    ·rw [if_neg c2]
     have c3:r.kind=6:=by omega
     rw [if_pos c3]
     obtain⟨e1,e2,_,e4⟩:=k.str c3
     cases hps:r.parts with
     | nil=>rw [hps] at e1;simp at e1;omega
     | cons p ps =>
      have:=(IH p (e4 p (by rw [hps];simp))).1
      simp only [List.map_cons,tySum]
      omega
 exact key (t.length+1) t (by omega) h
set_option maxHeartbeats 4000000 in
theorem part_any (kd cn sz dp:Int) (sg:Bool) (cl:Int) (a:Option Addr) (n c:Nat) (ps:List Int) (k:Nat) (w:World) (hv:View .u32 w a ps) (hl:ps.length=n) (j:Nat) (hj:j=if kd=4∨kd=5 then 0 else k) (hjl:j<n) :
  Calls Tryz.prog 58 #[.agg #[.int .u8 kd,.int .i64 cn,.int .i64 sz,.int .i64 dp,.bool sg,.int .u32 cl,.slice a n c],.int .i64 k] w fun e w'=>e=.returned (.int .u32 (nth ps j))∧Below w.heap.size w w':=by
 have hb:Below w.heap.size w (w.alloc (.cells #[.int .u8 kd,.int .i64 cn,.int .i64 sz,.int .i64 dp,.bool sg,.int .u32 cl,.slice a n c] 98)):=(Below.refl _ w).alloc (Nat.le_refl _) _
 obtain⟨b,off,rfl,hlt,hc⟩:=hv.below hb j (by omega)
 have HB:=hide hb
 have hn0:(0:Int)<n:=by omega
 have hn1:0<n:=by omega
 clear hv hb hl hlt
 by_cases h4:kd=4∨kd=5
 ·rw [if_pos h4] at hj
  subst hj
  rw [Nat.add_zero] at hc
  generalize nth ps 0=x at *
  rcases h4 with h4 | h4
  all_goals
   subst h4
   go_enter Tryz.func58,Tryz.ntmps58
   go_wp2_with fail
   go_ret
   exact⟨rfl,HB.out⟩
 ·rw [if_neg h4] at hj
  subst hj
  have q4:(kd==4)=false:=by simp;omega
  have q5:(kd==5)=false:=by simp;omega
  have hj0:(0:Int)≤(j:Int):=by omega
  have hji:(j:Int)<n:=by omega
  generalize nth ps j=x at *
  clear h4
  go_enter Tryz.func58,Tryz.ntmps58
  go_wp2_with fail
  go_ret
  exact⟨rfl,HB.out⟩
set_option maxHeartbeats 4000000 in
theorem sizeA_any (p:Nat) (kd cn sz dp:Int) (sg:Bool) (cl:Int) (a:Option Addr) (n c:Nat) (w:World) (h:1≤sz) :
  Calls Tryz.prog 71 #[.pointer (some ⟨p,0,none⟩),.agg #[.int .u8 kd,.int .i64 cn,.int .i64 sz,.int .i64 dp,.bool sg,.int .u32 cl,.slice a n c]] w fun e w'=>e=.returned (.int .i64 sz)∧Below w.heap.size w w':=by
 have h1:0<sz:=by omega
 go_enter Tryz.func71,Tryz.ntmps71
 go_wp2_with fail
 go_ret
 exact⟨rfl,(Below.refl _ w).alloc (Nat.le_refl _) _⟩
set_option maxHeartbeats 4000000 in
theorem depthA_any (p:Nat) (kd cn sz dp:Int) (sg:Bool) (cl:Int) (a:Option Addr) (n c:Nat) (w:World) (h:1≤dp) :
  Calls Tryz.prog 72 #[.pointer (some ⟨p,0,none⟩),.agg #[.int .u8 kd,.int .i64 cn,.int .i64 sz,.int .i64 dp,.bool sg,.int .u32 cl,.slice a n c]] w fun e w'=>e=.returned (.int .i64 dp)∧Below w.heap.size w w':=by
 have h1:0<dp:=by omega
 go_enter Tryz.func72,Tryz.ntmps72
 go_wp2_with fail
 go_ret
 exact⟨rfl,(Below.refl _ w).alloc (Nat.le_refl _) _⟩
theorem sizeT_any {B p mb n:Nat} {t:List TyR} {ov:Value} {f:Int→Value} (id:Int) (w w0:World) (h:TabB w0 B p mb n t ov f) (ht:TabK t) (hp:plainT t id=true) :
  Calls Tryz.prog 71 #[.pointer (some ⟨p,0,none⟩),f id] w fun e w'=>e=.returned (.int .i64 (sizeT t id:Int))∧Below w.heap.size w w':=by
 obtain⟨a,c,e,_⟩:=h.ents id
 rw [e]
 exact sizeA_any p _ _ _ _ _ _ _ _ _ w (by have:=(ht.pos id hp).1;unfold sizeT at this;omega)
theorem depthT_any {B p mb n:Nat} {t:List TyR} {ov:Value} {f:Int→Value} (id:Int) (w w0:World) (h:TabB w0 B p mb n t ov f) (ht:TabK t) (hp:plainT t id=true) :
  Calls Tryz.prog 72 #[.pointer (some ⟨p,0,none⟩),f id] w fun e w'=>e=.returned (.int .i64 (depthT t id:Int))∧Below w.heap.size w w':=by
 obtain⟨a,c,e,_⟩:=h.ents id
 rw [e]
 exact depthA_any p _ _ _ _ _ _ _ _ _ w (by have:=(ht.pos id hp).2;unfold depthT at this;omega)
theorem tySum_le {b:Nat}:∀ {l:List Nat},(∀ x∈l,x≤b)→tySum l≤l.length * b
 | [],_=>Nat.zero_le _
 | x :: l,h=>by
  have h1:=h x (by simp)
  have h2:=tySum_le (l:=l) (fun y hy=>h y (by simp [hy]))
  simp only [tySum,List.length_cons,Nat.succ_mul];omega
theorem tySum_take (g:Int→Nat) (ps:List Int) (k:Nat) (h:k<ps.length):tySum ((ps.take (k+1)).map g)=tySum ((ps.take k).map g)+g (nth ps k):=by
 rw [List.take_add_one,List.getElem?_eq_getElem h,List.map_append,tySum_append]
 simp [tySum,nth,List.getD,h]
theorem tyMax_take (g:Int→Nat) (ps:List Int) (k:Nat) (h:k<ps.length):tyMax ((ps.take (k+1)).map g)=max (tyMax ((ps.take k).map g)) (g (nth ps k)):=by
 rw [List.take_add_one,List.getElem?_eq_getElem h,List.map_append,tyMax_append]
 simp [tyMax,nth,List.getD,h]
theorem measTy {k n:Nat} (h:k<n):n - (intOf (.int .i64 ((k:Int)+1))).toNat<n - (intOf (.int .i64 (k:Int))).toNat:=by simp [intOf];omega
structure NewT (t : List TyR) (r : TyR) : Prop where
  zero : r.size = 0 ∧ r.depth = 0
  rep : r.kind = 4 ∨ r.kind = 5 → ∃ p0, r.parts = [p0]
  few : r.count ≤ 4096 ∨ ¬ (r.kind = 4 ∨ r.kind = 5)
  plain : plainK r.kind = true → ∀ p ∈ r.parts, plainT t p = true ∧ 0 ≤ p ∧ p < 4294967296
  short : plainK r.kind = true → r.parts.length ≤ 256
set_option maxHeartbeats 8000000 in
theorem sizeR_rep {B p mb n:Nat} {t:List TyR} {ov:Value} {f:Int→Value} (kd:Int) (hk:kd=4∨kd=5) (cn:Nat) (hcn:cn≤4096) (sg:Bool) (cl:Int) (a:Option Addr) (c:Nat) (p0:Int) (w:World) (hT:TabB w B p mb n t ov f) (ht:TabK t) (hv:View .u32 w a [p0]) (hp:plainT t p0=true) (r0:0≤p0) (r1:p0<4294967296) :
  Calls Tryz.prog 71 #[.pointer (some ⟨p,0,none⟩),.agg #[.int .u8 kd,.int .i64 cn,.int .i64 0,.int .i64 0,.bool sg,.int .u32 cl,.slice a 1 c]] w fun e w'=>e=.returned (.int .i64 ((cn * sizeT t p0:Nat):Int))∧Below w.heap.size w w':=by
 have hb1:Below w.heap.size w (w.alloc (.cells #[.int .u8 kd,.int .i64 cn,.int .i64 0,.int .i64 0,.bool sg,.int .u32 cl,.slice a 1 c] 98)):=(Below.refl _ w).alloc (Nat.le_refl _) _
 have hT1:=hT.below hb1
 have hv1:=hv.below hb1
 have hbx:=one_block (heap_alloc_new w (.cells #[.int .u8 kd,.int .i64 cn,.int .i64 0,.int .i64 0,.bool sg,.int .u32 cl,.slice a 1 c] 98))
 have hlx:w.heap.size<(w.alloc (.cells #[.int .u8 kd,.int .i64 cn,.int .i64 0,.int .i64 0,.bool sg,.int .u32 cl,.slice a 1 c] 98)).heap.size:=by simp
 have hpl:=hT1.plt
 have a0:=fun s:InC (Below (w.alloc (.cells #[.int .u8 kd,.int .i64 cn,.int .i64 0,.int .i64 0,.bool sg,.int .u32 cl,.slice a 1 c] 98)).heap.size (w.alloc (.cells #[.int .u8 kd,.int .i64 cn,.int .i64 0,.int .i64 0,.bool sg,.int .u32 cl,.slice a 1 c] 98)))=>(show s.w.cell? ⟨w.heap.size,0,none⟩=some (.int .u8 kd) from s.cell (p:=⟨w.heap.size,0,none⟩) hlx (hbx.1 0))
 have a1:=fun s:InC (Below (w.alloc (.cells #[.int .u8 kd,.int .i64 cn,.int .i64 0,.int .i64 0,.bool sg,.int .u32 cl,.slice a 1 c] 98)).heap.size (w.alloc (.cells #[.int .u8 kd,.int .i64 cn,.int .i64 0,.int .i64 0,.bool sg,.int .u32 cl,.slice a 1 c] 98)))=>(show s.w.cell? ⟨w.heap.size,1,none⟩=some (.int .i64 cn) from s.cell (p:=⟨w.heap.size,1,none⟩) hlx (hbx.1 1))
 have a2:=fun s:InC (Below (w.alloc (.cells #[.int .u8 kd,.int .i64 cn,.int .i64 0,.int .i64 0,.bool sg,.int .u32 cl,.slice a 1 c] 98)).heap.size (w.alloc (.cells #[.int .u8 kd,.int .i64 cn,.int .i64 0,.int .i64 0,.bool sg,.int .u32 cl,.slice a 1 c] 98)))=>(show s.w.cell? ⟨w.heap.size,2,none⟩=some (.int .i64 0) from s.cell (p:=⟨w.heap.size,2,none⟩) hlx (hbx.1 2))
 have a3:=fun s:InC (Below (w.alloc (.cells #[.int .u8 kd,.int .i64 cn,.int .i64 0,.int .i64 0,.bool sg,.int .u32 cl,.slice a 1 c] 98)).heap.size (w.alloc (.cells #[.int .u8 kd,.int .i64 cn,.int .i64 0,.int .i64 0,.bool sg,.int .u32 cl,.slice a 1 c] 98)))=>(show s.w.cell? ⟨w.heap.size,3,none⟩=some (.int .i64 0) from s.cell (p:=⟨w.heap.size,3,none⟩) hlx (hbx.1 3))
 have a4:=fun s:InC (Below (w.alloc (.cells #[.int .u8 kd,.int .i64 cn,.int .i64 0,.int .i64 0,.bool sg,.int .u32 cl,.slice a 1 c] 98)).heap.size (w.alloc (.cells #[.int .u8 kd,.int .i64 cn,.int .i64 0,.int .i64 0,.bool sg,.int .u32 cl,.slice a 1 c] 98)))=>(show s.w.cell? ⟨w.heap.size,4,none⟩=some (.bool sg) from s.cell (p:=⟨w.heap.size,4,none⟩) hlx (hbx.1 4))
 have a5:=fun s:InC (Below (w.alloc (.cells #[.int .u8 kd,.int .i64 cn,.int .i64 0,.int .i64 0,.bool sg,.int .u32 cl,.slice a 1 c] 98)).heap.size (w.alloc (.cells #[.int .u8 kd,.int .i64 cn,.int .i64 0,.int .i64 0,.bool sg,.int .u32 cl,.slice a 1 c] 98)))=>(show s.w.cell? ⟨w.heap.size,5,none⟩=some (.int .u32 cl) from s.cell (p:=⟨w.heap.size,5,none⟩) hlx (hbx.1 5))
 have a6:=fun s:InC (Below (w.alloc (.cells #[.int .u8 kd,.int .i64 cn,.int .i64 0,.int .i64 0,.bool sg,.int .u32 cl,.slice a 1 c] 98)).heap.size (w.alloc (.cells #[.int .u8 kd,.int .i64 cn,.int .i64 0,.int .i64 0,.bool sg,.int .u32 cl,.slice a 1 c] 98)))=>(show s.w.cell? ⟨w.heap.size,6,none⟩=some (.slice a 1 c) from s.cell (p:=⟨w.heap.size,6,none⟩) hlx (hbx.1 6))
 have b0:=fun s:InC (Below (w.alloc (.cells #[.int .u8 kd,.int .i64 cn,.int .i64 0,.int .i64 0,.bool sg,.int .u32 cl,.slice a 1 c] 98)).heap.size (w.alloc (.cells #[.int .u8 kd,.int .i64 cn,.int .i64 0,.int .i64 0,.bool sg,.int .u32 cl,.slice a 1 c] 98)))=>(show s.w.cell? ⟨p,0,none⟩=some (.map (some mb)) from s.cell (p:=⟨p,0,none⟩) hpl ((one_block hT1.blk).1 0))
 have hP:=fun s:InC (Below (w.alloc (.cells #[.int .u8 kd,.int .i64 cn,.int .i64 0,.int .i64 0,.bool sg,.int .u32 cl,.slice a 1 c] 98)).heap.size (w.alloc (.cells #[.int .u8 kd,.int .i64 cn,.int .i64 0,.int .i64 0,.bool sg,.int .u32 cl,.slice a 1 c] 98)))=>Calls.inC s (part_any kd (cn:Int) 0 0 sg cl a 1 c [p0] 0 s.w (hv1.below s.ok) rfl 0 (by simp) (by omega))
 have hL:=fun s:InC (Below (w.alloc (.cells #[.int .u8 kd,.int .i64 cn,.int .i64 0,.int .i64 0,.bool sg,.int .u32 cl,.slice a 1 c] 98)).heap.size (w.alloc (.cells #[.int .u8 kd,.int .i64 cn,.int .i64 0,.int .i64 0,.bool sg,.int .u32 cl,.slice a 1 c] 98)))=>(hT1.below s.ok).map.look 89 98 Tryz.underlying89 (Tryz.zeroValue98 _) p0 r0 r1
 have hZ:=fun s:InC (Below (w.alloc (.cells #[.int .u8 kd,.int .i64 cn,.int .i64 0,.int .i64 0,.bool sg,.int .u32 cl,.slice a 1 c] 98)).heap.size (w.alloc (.cells #[.int .u8 kd,.int .i64 cn,.int .i64 0,.int .i64 0,.bool sg,.int .u32 cl,.slice a 1 c] 98)))=>Calls.inC s (sizeT_any p0 s.w _ hT1 ht hp)
 have e0:nth [p0] 0=p0:=rfl
 simp only [e0] at hP
 clear e0
 have hsm:=ht.small p0
 have hmul:wrap64 ((cn:Int) * (sizeT t p0:Int))=((cn * sizeT t p0:Nat):Int):=by
  have h1:cn * sizeT t p0≤4096 * 4096:=Nat.mul_le_mul hcn hsm.1
  rw [← Int.natCast_mul]
  unfold wrap64;omega
 have HM:=hide hmul
 have HB:=hide hb1
 clear hmul hsm hbx hT hT1 hv hv1 hb1 hp hpl
 generalize hSZ:(sizeT t p0:Int)=sz at *
 generalize ((cn * sizeT t p0:Nat):Int)=res at *
 rcases hk with hk | hk
 all_goals
  subst hk
  go_enter Tryz.func71,Tryz.ntmps71
  go_wp2_with fail
  generalize (w.alloc (.cells #[.int .u8 _,.int .i64 cn,.int .i64 0,.int .i64 0,.bool sg,.int .u32 cl,.slice a 1 c] 98))=W at *
  refine wp_region_class (C:=Below W.heap.size W) (by kernel_rfl) (by kernel_rfl) (below_drew W) ?_
  have hne:Nonempty (InC (Below W.heap.size W)):=⟨⟨W,Below.refl _ _⟩⟩
  repeat (go_big_quiet_step (first | (go_at_call 58;exact hP _) | (go_at_call 71;exact hZ _)))
  refine wpQuiet_nil ?_
  rintro _ ⟨s,rfl⟩
  have hfin:=HB.out.trans (s.ok.mono HB.out.size)
  clear hne hP hL hZ a0 a1 a2 a3 a4 a5 a6 b0
  go_wp2
  go_ret
  refine⟨?_,hfin⟩
  exact congrArg (fun z=>Ending.returned (Value.int .i64 z)) HM.out
set_option maxHeartbeats 8000000 in
theorem sizeR_list {B p mb n:Nat} {t:List TyR} {ov:Value} {f:Int→Value} (cn:Int) (sg:Bool) (cl:Int) (a:Option Addr) (m c:Nat) (ps:List Int) (w:World) (hT:TabB w B p mb n t ov f) (ht:TabK t) (hv:View .u32 w a ps) (hl:ps.length=m) (hm:m≤256) (hp:∀ x∈ps,plainT t x=true∧0≤x∧x<4294967296) :
  Calls Tryz.prog 71 #[.pointer (some ⟨p,0,none⟩),.agg #[.int .u8 6,.int .i64 cn,.int .i64 0,.int .i64 0,.bool sg,.int .u32 cl,.slice a m c]] w fun e w'=>e=.returned (.int .i64 (tySum (ps.map (sizeT t)):Int))∧Below w.heap.size w w':=by
 have hb1:Below w.heap.size w (w.alloc (.cells #[.int .u8 6,.int .i64 cn,.int .i64 0,.int .i64 0,.bool sg,.int .u32 cl,.slice a m c] 98)):=(Below.refl _ w).alloc (Nat.le_refl _) _
 have hT1:=hT.below hb1
 have hv1:=hv.below hb1
 have HT1:=hide hT1
 have HV1:=hide hv1
 have HT:=hide ht
 have HB:=hide hb1
 have HL:=hide hl
 have HPL:Hid (∀ k,k<m→plainT t (nth ps k)=true∧0≤nth ps k∧nth ps k<4294967296):=fun k hk=>hp _ (nth_memR ps k (by rw [hl];exact hk))
 have HTK:Hid (∀ k,k<m→tySum ((ps.take (k+1)).map (sizeT t))=tySum ((ps.take k).map (sizeT t))+sizeT t (nth ps k)):=fun k hk=>tySum_take _ ps k (by rw [hl];exact hk)
 have HBD:Hid (∀ k,k≤m→tySum ((ps.take k).map (sizeT t))≤1048576):=fun k hk=>by
  have h1:=tySum_le (b:=4096) (l:=(ps.take k).map (sizeT t)) (fun x hx=>by obtain⟨y,_,rfl⟩:=List.mem_map.1 hx;exact (ht.small y).1)
  rw [List.length_map,List.length_take] at h1
  have:min k ps.length≤256:=by omega
  have:=Nat.mul_le_mul_right 4096 this
  omega
 have HALL:Hid (ps.take m=ps):=List.take_of_length_le (by rw [hl];exact Nat.le_refl _)
 have hmi:(m:Int)≤256:=by omega
 clear hb1 hT hT1 hv hv1 ht hl hp
 go_enter Tryz.func71,Tryz.ntmps71
 go_wp2_with fail
 generalize (w.alloc (.cells #[.int .u8 6,.int .i64 cn,.int .i64 0,.int .i64 0,.bool sg,.int .u32 cl,.slice a m c] 98))=W at *
 go_loopw [5,42] (fun s i wr=>∃ k:Nat,k≤m∧i=.int .i64 k∧s=.int .i64 (tySum ((ps.take k).map (sizeT t)):Int)∧Below W.heap.size W wr) (fun _ i _=>m - (intOf i).toNat)
 case atStart=>exact⟨0,Nat.zero_le _,rfl,rfl,Below.refl _ _⟩
 case round =>
  obtain⟨k,hk,rfl,rfl,hbr⟩:=hrel
  have HBR:=hide hbr
  by_cases hlt:k<m
  ·obtain⟨b,off,rfl,hb,hc⟩:=HV1.out.below hbr k (by rw [HL.out];exact hlt)
   obtain⟨z0,z1,z2⟩:=HPL.out k hlt
   have hTr:=HT1.out.below hbr
   have m0:=(one_block hTr.blk).1 0
   have hL:=hTr.map.look 89 98 Tryz.underlying89 (Tryz.zeroValue98 _) (nth ps k) z1 z2
   have hZ:=sizeT_any (nth ps k) wr wr hTr HT.out z0
   have h1:=HTK.out k hlt
   have h2:=HBD.out (k+1) (by omega)
   have HW:Hid (wrap64 ((tySum ((ps.take k).map (sizeT t)):Int)+(sizeT t (nth ps k):Int))=(tySum ((ps.take (k+1)).map (sizeT t)):Int)):=by show _=_;rw [h1];unfold wrap64;omega
   have hki:(k:Int)<(m:Int):=by omega
   have hk0:(0:Int)≤(k:Int):=by omega
   have HLT:=hide hlt
   generalize f (nth ps k)=v at *
   generalize (sizeT t (nth ps k):Int)=sz at *
   generalize nth ps k=x at *
   generalize hS1:(tySum ((ps.take (k+1)).map (sizeT t)):Int)=S1 at *
   have HS1:=hide hS1
   clear hS1
   generalize (tySum ((ps.take k).map (sizeT t)):Int)=S0 at *
   clear hbr hlt hb hTr h1 h2 z0 z1 z2
   go_wp2_with (go_at_call 71;refine hZ.mono ?_;rintro e w2 ⟨rfl,hb2⟩)
   exact⟨⟨k+1,HLT.out,by go_num,by rw [HS1.out];exact congrArg (Value.int .i64) HW.out,HBR.out.trans (hb2.mono HBR.out.size)⟩,measTy HLT.out⟩
  ·obtain rfl:k=m:=by omega
   have HA:=HALL.out
   rw [HA]
   clear hbr
   go_wp2_with fail
   go_ret
   exact⟨rfl,HB.out.trans (HBR.out.mono HB.out.size)⟩
set_option maxHeartbeats 4000000 in
theorem sizeR_none (p:Nat) (kd cn:Int) (sg:Bool) (cl:Int) (a:Option Addr) (m c:Nat) (w:World) (hk:¬ (kd=4∨kd=5∨kd=6)) :
  Calls Tryz.prog 71 #[.pointer (some ⟨p,0,none⟩),.agg #[.int .u8 kd,.int .i64 cn,.int .i64 0,.int .i64 0,.bool sg,.int .u32 cl,.slice a m c]] w fun e w'=>e=.returned (.int .i64 (if kd=2∨kd=3 then 1 else 0))∧Below w.heap.size w w':=by
 have hb1:Below w.heap.size w (w.alloc (.cells #[.int .u8 kd,.int .i64 cn,.int .i64 0,.int .i64 0,.bool sg,.int .u32 cl,.slice a m c] 98)):=(Below.refl _ w).alloc (Nat.le_refl _) _
 have HB:=hide hb1
 clear hb1
 by_cases h2:kd=2∨kd=3
 ·rw [if_pos h2]
  clear hk
  rcases h2 with h2 | h2
  all_goals
   subst h2
   go_enter Tryz.func71,Tryz.ntmps71
   go_wp2_with fail
   go_ret
   exact⟨rfl,HB.out⟩
 ·rw [if_neg h2]
  have q2:(kd==2)=false:=by simp;omega
  have q3:(kd==3)=false:=by simp;omega
  have q4:(kd==4)=false:=by simp;omega
  have q5:(kd==5)=false:=by simp;omega
  have q6:(kd==6)=false:=by simp;omega
  clear hk h2
  go_enter Tryz.func71,Tryz.ntmps71
  go_wp2_with fail
  go_ret
  exact⟨rfl,HB.out⟩
theorem sizeR_any {B p mb n:Nat} {t:List TyR} {ov:Value} {f:Int→Value} (r:TyR) (a:Option Addr) (c:Nat) (w:World) (hT:TabB w B p mb n t ov f) (ht:TabK t) (hr:NewT t r) (hv:View .u32 w a r.parts) :
  Calls Tryz.prog 71 #[.pointer (some ⟨p,0,none⟩),entV r a r.parts.length c] w fun e w'=>e=.returned (.int .i64 (sizeR t r:Int))∧Below w.heap.size w w':=by
 obtain⟨id,kind,sg,cl,cn,ps,sz,dp⟩:=r
 obtain⟨⟨h1,h2⟩,h3,h4,h5,h6⟩:=hr
 simp only at h1 h2 h3 h4 h5 h6 hv
 subst h1
 subst h2
 unfold entV sizeR
 simp only
 by_cases k45:kind=4∨kind=5
 ·rw [if_neg (by omega),if_pos k45]
  obtain⟨p0,rfl⟩:=h3 k45
  have hpl:=h5 (by unfold plainK;simp;omega) p0 (by simp)
  exact sizeR_rep (kind:Int) (by omega) cn (by omega) sg cl a c p0 w hT ht hv hpl.1 hpl.2.1 hpl.2.2
 ·by_cases k6:kind=6
  ·subst k6
   rw [if_neg (by omega),if_neg (by omega),if_pos rfl]
   exact sizeR_list (cn:Int) sg cl a ps.length c ps w hT ht hv rfl (h6 rfl) (h5 rfl)
  ·have:=sizeR_none p (kind:Int) (cn:Int) sg cl a ps.length c w (by omega)
   by_cases k23:kind=2∨kind=3
   ·rw [if_pos k23]
    rw [if_pos (by omega)] at this
    exact this
   ·rw [if_neg k23,if_neg k45,if_neg k6]
    rw [if_neg (by omega)] at this
    exact this
set_option maxHeartbeats 8000000 in
theorem depthR_list {B p mb n:Nat} {t:List TyR} {ov:Value} {f:Int→Value} (kn:Nat) (hkn:plainK kn=true) (cn:Int) (sz:Int) (sg:Bool) (cl:Int) (a:Option Addr) (m c:Nat) (ps:List Int) (w:World) (hT:TabB w B p mb n t ov f) (ht:TabK t) (hv:View .u32 w a ps) (hl:ps.length=m) (hm:m≤256) (hp:∀ x∈ps,plainT t x=true∧0≤x∧x<4294967296) :
  Calls Tryz.prog 72 #[.pointer (some ⟨p,0,none⟩),.agg #[.int .u8 (kn:Int),.int .i64 cn,.int .i64 sz,.int .i64 0,.bool sg,.int .u32 cl,.slice a m c]] w fun e w'=>e=.returned (.int .i64 ((tyMax (ps.map (depthT t))+1:Nat):Int))∧Below w.heap.size w w':=by
 have hb1:Below w.heap.size w (w.alloc (.cells #[.int .u8 (kn:Int),.int .i64 cn,.int .i64 sz,.int .i64 0,.bool sg,.int .u32 cl,.slice a m c] 98)):=(Below.refl _ w).alloc (Nat.le_refl _) _
 have hT1:=hT.below hb1
 have hv1:=hv.below hb1
 have hPl:=plain_any (kn:Int) cn sz 0 kn rfl (w.alloc (.cells #[.int .u8 (kn:Int),.int .i64 cn,.int .i64 sz,.int .i64 0,.bool sg,.int .u32 cl,.slice a m c] 98))
 rw [hkn] at hPl
 have hbx:=one_block (heap_alloc_new w (.cells #[.int .u8 (kn:Int),.int .i64 cn,.int .i64 sz,.int .i64 0,.bool sg,.int .u32 cl,.slice a m c] 98))
 have hlx:w.heap.size<(w.alloc (.cells #[.int .u8 (kn:Int),.int .i64 cn,.int .i64 sz,.int .i64 0,.bool sg,.int .u32 cl,.slice a m c] 98)).heap.size:=by simp
 have k6:(w.alloc (.cells #[.int .u8 (kn:Int),.int .i64 cn,.int .i64 sz,.int .i64 0,.bool sg,.int .u32 cl,.slice a m c] 98)).cell? ⟨w.heap.size,6,none⟩=some (.slice a m c):=hbx.1 6
 have HT1:=hide hT1
 have HV1:=hide hv1
 have HT:=hide ht
 have HB:=hide hb1
 have HL:=hide hl
 have HPL:Hid (∀ k,k<m→plainT t (nth ps k)=true∧0≤nth ps k∧nth ps k<4294967296):=fun k hk=>hp _ (nth_memR ps k (by rw [hl];exact hk))
 have HTK:Hid (∀ k,k<m→tyMax ((ps.take (k+1)).map (depthT t))=max (tyMax ((ps.take k).map (depthT t))) (depthT t (nth ps k))):=fun k hk=>tyMax_take _ ps k (by rw [hl];exact hk)
 have HBD:Hid (tyMax (ps.map (depthT t))≤16):=tyMax_le (fun x hx=>by obtain⟨y,_,rfl⟩:=List.mem_map.1 hx;exact (ht.small y).2)
 have HALL:Hid (ps.take m=ps):=List.take_of_length_le (by rw [hl];exact Nat.le_refl _)
 have hmi:(m:Int)≤256:=by omega
 clear hb1 hT hT1 hv hv1 ht hl hp hbx
 go_enter Tryz.func72,Tryz.ntmps72
 go_wp2_with (go_at_call 56;refine hPl.mono ?_;rintro e w2 ⟨rfl,hb2⟩;have k6':=(hb2.cell (p:=⟨w.heap.size,6,none⟩) hlx).trans k6)
 have HW2:=hide hb2
 clear hPl hb2
 go_loopw [5,24] (fun s i wr=>∃ k:Nat,k≤m∧i=.int .i64 k∧s=.int .i64 (tyMax ((ps.take k).map (depthT t)):Int)∧Below w2.heap.size w2 wr) (fun _ i _=>m - (intOf i).toNat)
 case atStart=>exact⟨0,Nat.zero_le _,rfl,rfl,Below.refl _ _⟩
 case round =>
  obtain⟨k,hk,rfl,rfl,hbr⟩:=hrel
  have HBR:=hide (HW2.out.trans (hbr.mono HW2.out.size))
  have HBS:=hide hbr
  by_cases hlt:k<m
  ·obtain⟨b,off,rfl,hb,hc⟩:=HV1.out.below HBR.out k (by rw [HL.out];exact hlt)
   obtain⟨z0,z1,z2⟩:=HPL.out k hlt
   have hTr:=HT1.out.below HBR.out
   have m0:=(one_block hTr.blk).1 0
   have hL:=hTr.map.look 89 98 Tryz.underlying89 (Tryz.zeroValue98 _) (nth ps k) z1 z2
   have hZ:=depthT_any (nth ps k) wr wr hTr HT.out z0
   have h1:=HTK.out k hlt
   have HW:Hid ((if (tyMax ((ps.take k).map (depthT t)):Int)<(depthT t (nth ps k):Int) then (depthT t (nth ps k):Int) else (tyMax ((ps.take k).map (depthT t)):Int))=(tyMax ((ps.take (k+1)).map (depthT t)):Int)):=by show _=_;rw [h1];split <;> omega
   have hki:(k:Int)<(m:Int):=by omega
   have hk0:(0:Int)≤(k:Int):=by omega
   have HLT:=hide hlt
   generalize f (nth ps k)=v at *
   generalize (depthT t (nth ps k):Int)=sz at *
   generalize nth ps k=x at *
   generalize hS1:(tyMax ((ps.take (k+1)).map (depthT t)):Int)=S1 at *
   have HS1:=hide hS1
   generalize (tyMax ((ps.take k).map (depthT t)):Int)=S0 at *
   clear hbr hlt hb hTr h1 z0 z1 z2 hS1 k6 k6'
   go_wp2_with (go_at_call 72;refine hZ.mono ?_;rintro e w3 ⟨rfl,hb3⟩)
   exact⟨⟨k+1,HLT.out,by go_num,by rw [HS1.out];exact congrArg (Value.int .i64) HW.out,HBS.out.trans (hb3.mono HBS.out.size)⟩,measTy HLT.out⟩
  ·obtain rfl:k=m:=by omega
   have HA:=HALL.out
   rw [HA]
   have h1:=HBD.out
   have hw1:wrap64 ((tyMax (ps.map (depthT t)):Int)+1)=((tyMax (ps.map (depthT t))+1:Nat):Int):=by unfold wrap64;omega
   have HW1:=hide hw1
   clear hbr h1 k6 k6' hw1
   go_wp2_with fail
   go_ret
   exact⟨congrArg (fun z=>Ending.returned (Value.int .i64 z)) HW1.out,HB.out.trans (HBR.out.mono HB.out.size)⟩
set_option maxHeartbeats 4000000 in
theorem depthR_none (p:Nat) (kn:Nat) (hkn:plainK kn=false) (cn:Int) (sz:Int) (sg:Bool) (cl:Int) (a:Option Addr) (m c:Nat) (w:World) :
  Calls Tryz.prog 72 #[.pointer (some ⟨p,0,none⟩),.agg #[.int .u8 (kn:Int),.int .i64 cn,.int .i64 sz,.int .i64 0,.bool sg,.int .u32 cl,.slice a m c]] w fun e w'=>e=.returned (.int .i64 0)∧Below w.heap.size w w':=by
 have hb1:Below w.heap.size w (w.alloc (.cells #[.int .u8 (kn:Int),.int .i64 cn,.int .i64 sz,.int .i64 0,.bool sg,.int .u32 cl,.slice a m c] 98)):=(Below.refl _ w).alloc (Nat.le_refl _) _
 have hPl:=plain_any (kn:Int) cn sz 0 kn rfl (w.alloc (.cells #[.int .u8 (kn:Int),.int .i64 cn,.int .i64 sz,.int .i64 0,.bool sg,.int .u32 cl,.slice a m c] 98))
 rw [hkn] at hPl
 have hbx:=one_block (heap_alloc_new w (.cells #[.int .u8 (kn:Int),.int .i64 cn,.int .i64 sz,.int .i64 0,.bool sg,.int .u32 cl,.slice a m c] 98))
 have hlx:w.heap.size<(w.alloc (.cells #[.int .u8 (kn:Int),.int .i64 cn,.int .i64 sz,.int .i64 0,.bool sg,.int .u32 cl,.slice a m c] 98)).heap.size:=by simp
 have k3:(w.alloc (.cells #[.int .u8 (kn:Int),.int .i64 cn,.int .i64 sz,.int .i64 0,.bool sg,.int .u32 cl,.slice a m c] 98)).cell? ⟨w.heap.size,3,none⟩=some (.int .i64 0):=hbx.1 3
 have HB:=hide hb1
 clear hb1 hbx
 go_enter Tryz.func72,Tryz.ntmps72
 go_wp2_with (go_at_call 56;refine hPl.mono ?_;rintro e w2 ⟨rfl,hb2⟩;have k3':=(hb2.cell (p:=⟨w.heap.size,3,none⟩) hlx).trans k3)
 go_ret
 exact⟨rfl,HB.out.trans (hb2.mono HB.out.size)⟩
theorem depthR_any {B p mb n:Nat} {t:List TyR} {ov:Value} {f:Int→Value} (r:TyR) (sz:Int) (a:Option Addr) (c:Nat) (w:World) (hT:TabB w B p mb n t ov f) (ht:TabK t) (hr:NewT t r) (hv:View .u32 w a r.parts) :
  Calls Tryz.prog 72 #[.pointer (some ⟨p,0,none⟩),.agg #[.int .u8 (r.kind:Int),.int .i64 (r.count:Int),.int .i64 sz,.int .i64 0,.bool r.signed,.int .u32 r.cls,.slice a r.parts.length c]] w fun e w'=>e=.returned (.int .i64 (depthR t r:Int))∧Below w.heap.size w w':=by
 unfold depthR
 cases hk:plainK r.kind with
 | true =>
  rw [if_pos rfl]
  exact depthR_list r.kind hk _ sz r.signed r.cls a r.parts.length c r.parts w hT ht hv rfl (hr.short hk) (hr.plain hk)
 | false =>
  rw [if_neg (by simp)]
  exact depthR_none p r.kind hk _ sz r.signed r.cls a r.parts.length c w
end Go.Proofs.YtoebhgpciinkgaaGreatDoor
namespace Go.Proofs.YtoebhgpciinkgaaGreatDoor
open Go.RowKit
set_option linter.unusedVariables false
set_option linter.unusedSimpArgs false
def nameT (r:TyR):List UInt8 :=
 if r.kind=4 then [118,101,99]++Lib.itoa (r.count:Int) else if r.kind=5 then [97,114,114,97,121]++Lib.itoa (r.count:Int) else if r.kind=6 then [115,116,114,117,99,116] else if r.kind=7 then (enumS 99 r.cls).data.toList else [102,110]
def txtR (g:Int→List UInt8) (r:TyR):List UInt8 :=
 if r.kind=1 then [118,111,105,100] else if r.kind=2 then [98,111,111,108] else if r.kind=3 then (if r.signed=true then [105,110,116] else [117,105,110,116])
 else nameT r++[40]++Lib.join (r.parts.map g) [44]++[41]
def txtF (t:List TyR):Nat→Int→List UInt8
 | 0,_=>[]
 | f+1,id=>txtR (txtF t f) (tyD t id)
def GoodT (t:List TyR) (f:Nat) (p:Int):Prop:=∃ t0,TabK t0∧t0.length≤f∧tyF t0 p≠none∧∀ x,tyF t0 x≠none→tyD t x=tyD t0 x
theorem good_all {t:List TyR} (ht:TabK t) {p:Int} (h:tyF t p≠none):GoodT t t.length p:=⟨t,ht,Nat.le_refl _,h,fun _ _=>rfl⟩
theorem good_parts {t:List TyR} {f:Nat} {p:Int} (h:GoodT t f p):∃ f',f=f'+1∧∀ x∈(tyD t p).parts,GoodT t f' x:=by
 obtain⟨t0,h1,h2,h3,h4⟩:=h
 cases e:tyF t0 p with
 | none=>exact absurd e h3
 | some r =>
  obtain⟨t1,k1,k2,k3,k4⟩:=h1.row e
  have hr:tyD t p=r:=by rw [h4 p h3];unfold tyD;rw [e];rfl
  refine⟨f - 1,by omega,fun x hx=>?_⟩
  rw [hr] at hx
  have hx1:=tyF_of_kind (k2.pin x hx).2.2
  refine⟨t1,k1,by omega,hx1,fun y hy=>?_⟩
  obtain⟨a1,a2⟩:=k4 y hy
  rw [h4 y (by rw [a2];exact hy),a1]
theorem join_len (xs:List (List UInt8)) (b:Nat) (h:∀ x∈xs,x.length≤b):(Lib.join xs [44]).length≤xs.length * (b+1):=by
 cases xs with
 | nil=>simp [Lib.join_nil]
 | cons x r =>
  rw [Lib.join_cons,List.length_append]
  have h0:=h x (by simp)
  have h1:(Lib.joinTail [44] r).length≤r.length * (b+1):=by
   unfold Lib.joinTail
   have:∀ y∈r,y.length≤b:=fun y hy=>h y (by simp [hy])
   clear h h0
   induction r with
   | nil=>simp
   | cons y r ih =>
    have h2:=this y (by simp)
    have h3:=ih (fun z hz=>this z (by simp [hz]))
    simp only [List.map_cons,List.flatten_cons,List.length_append,List.length_cons,Nat.succ_mul] at *
    simp only [List.length_nil] at *
    omega
  rw [List.length_cons,Nat.succ_mul];omega
theorem join_sum (g:Int→List UInt8) (s:Int→Nat) (m:Nat):∀ (ps:List Int),(∀ p∈ps,(g p).length≤m * s p)→(Lib.join (ps.map g) [44]).length≤m * tySum (ps.map s)+ps.length
 | [],_=>by simp [Lib.join_nil]
 | p :: ps,h=>by
  rw [List.map_cons,Lib.join_cons,List.length_append]
  have h0:=h p (by simp)
  have h1:(Lib.joinTail [44] (ps.map g)).length≤m * tySum (ps.map s)+ps.length:=by
   unfold Lib.joinTail
   have:∀ y∈ps,(g y).length≤m * s y:=fun y hy=>h y (by simp [hy])
   clear h h0
   induction ps with
   | nil=>simp
   | cons y r ih =>
    have h2:=this y (by simp)
    have h3:=ih (fun z hz=>this z (by simp [hz]))
    simp only [List.map_cons,List.flatten_cons,List.length_append,List.length_cons,tySum,Nat.mul_add] at *
    simp only [List.length_nil] at *
    omega
  rw [List.map_cons,tySum,Nat.mul_add,List.length_cons];omega
theorem itoa_few {n:Nat} (h:n≤4096):(Lib.itoa (n:Int)).length≤4:=by
 unfold Lib.itoa
 rw [if_neg (by omega)]
 exact dec_len 3 _ (by simp;omega)
theorem names_few (n:Int):(enumS 99 n).data.toList.length≤64:=by
 have hall:namesT.all (fun x=>decide (x.2.2.data.toList.length≤64))=true:=by kernel_rfl
 unfold enumS
 split
 ·rename_i x hx
  rw [List.all_eq_true] at hall
  exact of_decide_eq_true (hall x (List.mem_of_find?_eq_some hx))
 ·simp
theorem txt_plain {t:List TyR} (ht:TabK t):∀ (f:Nat) (p:Int),GoodT t f p→plainT t p=true→(txtF t f p).length≤20 * depthT t p * sizeT t p:=by
 intro f
 induction f with
 | zero=>intro p h _;obtain⟨_,e,_⟩:=good_parts h;cases e
 | succ f ih =>
  intro p h hp
  obtain⟨f',e,hg⟩:=good_parts h
  obtain rfl:f=f':=by omega
  have hfp:tyF t p≠none:=tyF_of_kind (plain_kind hp)
  cases e2:tyF t p with
  | none=>exact absurd e2 hfp
  | some r =>
   have hr:tyD t p=r:=by unfold tyD;rw [e2];rfl
   have hk:plainK r.kind=true:=by unfold plainT kindT at hp;rw [hr] at hp;exact hp
   have hkk:=of_decide_eq_true hk
   obtain⟨_,s2,s3,spin,_,_,_,_,_,v4,v5,v6,_,_,s15,_⟩:=ht.says e2
   have hpos:=ht.pos p hp
   rw [hr] at hg
   have hdp:depthT t p=r.depth:=by unfold depthT;rw [hr]
   have hsz:sizeT t p=r.size:=by unfold sizeT;rw [hr]
   rw [txtF,hr]
   have hdR:r.depth=tyMax (r.parts.map (depthT t))+1:=by rw [s3];unfold depthR;rw [if_pos hk]
   rw [hdp,hsz] at hpos ⊢
   unfold txtR
   by_cases c2:r.kind=2
   ·rw [if_neg (by omega),if_pos c2]
    have:=Nat.mul_le_mul (Nat.mul_le_mul_left 20 hpos.2) hpos.1
    simp;omega
   rw [if_neg (by omega),if_neg c2]
   by_cases c3:r.kind=3
   ·rw [if_pos c3]
    have:=Nat.mul_le_mul (Nat.mul_le_mul_left 20 hpos.2) hpos.1
    split <;> simp <;> omega
   rw [if_neg c3]
   simp only [List.length_append,List.length_singleton]
   by_cases c45:r.kind=4∨r.kind=5
   ·have hpart:∃ p0,r.parts=[p0]∧plainT t p0=true∧1≤r.count∧r.count≤4096:=by
     rcases c45 with c | c
     ·obtain⟨p0,a1,a2,a3,a4⟩:=v4 c
      exact⟨p0,a1,by unfold plainT plainK;rcases a4 with a4 | a4 <;> rw [a4] <;> rfl,by omega,by omega⟩
     ·obtain⟨p0,a1,a2,a3,a4⟩:=v5 c
      exact⟨p0,a1,a4,by omega,by omega⟩
    obtain⟨p0,a1,a2,a3,a4⟩:=hpart
    have hL:=ih p0 (hg p0 (by rw [a1];simp)) a2
    have hp0:=ht.pos p0 a2
    have hnm:(nameT r).length≤9:=by
     have:=itoa_few a4
     unfold nameT
     rcases c45 with c | c
     ·rw [if_pos c];simp;omega
     ·rw [if_neg (by omega),if_pos c];simp;omega
    have hd:r.depth=depthT t p0+1:=by rw [hdR,a1];simp [tyMax]
    have hs:sizeT t p0≤r.size:=by
     rw [s2]
     unfold sizeR
     rw [if_neg (by omega),if_pos c45,a1]
     exact Nat.le_mul_of_pos_left _ a3
    rw [a1,List.map_cons,List.map_nil,Lib.join_one,hd]
    have h1:20 * depthT t p0 * sizeT t p0≤20 * depthT t p0 * r.size:=Nat.mul_le_mul_left _ hs
    have h2:20 * (depthT t p0+1) * r.size=20 * depthT t p0 * r.size+20 * r.size:=by rw [Nat.mul_add,Nat.add_mul]
    omega
   ·have c6:r.kind=6:=by omega
    obtain⟨a1,a2,a3,a4⟩:=v6 c6
    have hnm:(nameT r).length=6:=by unfold nameT;rw [if_neg (by omega),if_neg (by omega),if_pos c6];rfl
    have hS:r.size=tySum (r.parts.map (sizeT t)):=by rw [s2];unfold sizeR;rw [if_neg (by omega),if_neg c45,if_pos c6]
    have hmax:∀ q∈r.parts,depthT t q+1≤r.depth:=by
     intro q hq
     rw [hdR]
     have:∀ (l:List Int),q∈l→depthT t q≤tyMax (l.map (depthT t)):=by
      intro l
      induction l with
      | nil=>intro h;cases h
      | cons y l ihl =>
       intro h
       simp only [List.map_cons,tyMax]
       rcases List.mem_cons.1 h with rfl | h
       ·omega
       ·have:=ihl h;omega
     have:=this r.parts hq
     omega
    have hj:=join_sum (txtF t f) (sizeT t) (20 * (r.depth - 1)) r.parts (fun q hq=>by
     have h1:=ih q (hg q hq) (a4 q hq)
     have h2:=hmax q hq
     refine Nat.le_trans h1 (Nat.mul_le_mul_right _ ?_)
     omega)
    have hn:r.parts.length≤tySum (r.parts.map (sizeT t)):=by
     have:∀ (l:List Int),(∀ q∈l,plainT t q=true)→l.length≤tySum (l.map (sizeT t)):=by
      intro l
      induction l with
      | nil=>intro _;simp
      | cons y l ihl =>
       intro h
       have h1:=(ht.pos y (h y (by simp))).1
       have h2:=ihl (fun z hz=>h z (by simp [hz]))
       simp only [List.map_cons,tySum,List.length_cons];omega
     exact this r.parts a4
    rw [← hS] at hj hn
    obtain⟨d,hd⟩:∃ d,r.depth=d+1:=⟨r.depth - 1,by omega⟩
    rw [hd] at hj ⊢
    simp only [Nat.add_sub_cancel] at hj
    have h2:20 * (d+1) * r.size=20 * d * r.size+20 * r.size:=by rw [Nat.mul_add,Nat.add_mul]
    omega
theorem txt_parts {t:List TyR} (ht:TabK t) {f:Nat} {p:Int} (h:GoodT t (f+1) p):∀ x∈(tyD t p).parts,(txtF t f x).length≤1400000:=by
 have plainB:∀ f x,GoodT t f x→plainT t x=true→(txtF t f x).length≤1310720:=fun f x hx hp=>by
  have h1:=txt_plain ht f x hx hp
  have h2:=ht.small x
  have h3:20 * depthT t x * sizeT t x≤20 * 16 * 4096:=Nat.mul_le_mul (Nat.mul_le_mul_left 20 h2.2) h2.1
  omega
 obtain⟨f',e,hg⟩:=good_parts h
 obtain rfl:f=f':=by omega
 intro x hx
 have hgx:=hg x hx
 by_cases hpl:plainT t x=true
 ·have:=plainB f x hgx hpl;omega
 ·-- a pointer, or nothing
  cases e2:tyF t p with
  | none=>unfold tyD at hx;rw [e2] at hx;simp [noTy] at hx
  | some r =>
   have hr:tyD t p=r:=by unfold tyD;rw [e2];rfl
   rw [hr] at hx
   obtain⟨_,_,_,spin,k1,k8,_,_,n3,v4,v5,v6,v7,v8,_⟩:=ht.says e2
   have hx7:kindT t x=7∨kindT t x=1:=by
    have hc:r.kind≤3∨r.kind=4∨r.kind=5∨r.kind=6∨r.kind=7∨r.kind=8:=by generalize r.kind=m at k1 k8;omega
    rcases hc with c | c | c | c | c | c
    ·rw [(n3 c).1] at hx;cases hx
    ·obtain⟨q,a1,_,_,a4⟩:=v4 c
     rw [a1] at hx
     obtain rfl:x=q:=by simpa using hx
     exact absurd (by unfold plainT plainK;rcases a4 with a4 | a4 <;> rw [a4] <;> rfl) hpl
    ·obtain⟨q,a1,_,_,a4⟩:=v5 c
     rw [a1] at hx
     obtain rfl:x=q:=by simpa using hx
     exact absurd a4 hpl
    ·exact absurd ((v6 c).2.2.2 x hx) hpl
    ·obtain⟨q,a1,_,a4⟩:=v7 c
     rw [a1] at hx
     obtain rfl:x=q:=by simpa using hx
     exact absurd a4 hpl
    ·obtain⟨a1,a2,a3,a4,a5⟩:=v8 c
     cases hps:r.parts with
     | nil=>rw [hps] at hx;cases hx
     | cons y ys =>
      rw [hps] at hx a4 a5
      rcases List.mem_cons.1 hx with rfl | hx
      ·simp only [nth,List.getD_cons_zero] at a4
       unfold backT at a4
       rw [Bool.or_eq_true] at a4
       rcases a4 with a4 | a4
       ·exact .inr (of_decide_eq_true a4)
       ·exact absurd a4 hpl
      ·have:=a5 x (by simpa using hx)
       unfold handT at this
       rw [Bool.or_eq_true] at this
       rcases this with a4 | a4
       ·exact absurd a4 hpl
       ·exact .inl (of_decide_eq_true a4)
   obtain⟨f'',e3,hgg⟩:=good_parts hgx
   subst e3
   rw [txtF]
   have hkx:(tyD t x).kind=7∨(tyD t x).kind=1:=hx7
   unfold txtR
   rcases hkx with c | c
   ·rw [if_neg (by omega),if_neg (by omega),if_neg (by omega)]
    cases e4:tyF t x with
    | none=>unfold tyD at c;rw [e4] at c;simp [noTy] at c
    | some rx =>
     have hrx:tyD t x=rx:=by unfold tyD;rw [e4];rfl
     rw [hrx] at c hgg ⊢
     obtain⟨_,_,_,_,_,_,_,_,_,_,_,_,w7,_⟩:=ht.says e4
     obtain⟨q,a1,_,a4⟩:=w7 c
     have hnm:(nameT rx).length≤64:=by unfold nameT;rw [if_neg (by omega),if_neg (by omega),if_neg (by omega),if_pos c];exact names_few _
     have hq:=plainB f'' q (hgg q (by rw [a1];simp)) a4
     rw [a1,List.map_cons,List.map_nil,Lib.join_one]
     simp only [List.length_append,List.length_singleton]
     omega
   ·rw [if_pos c];simp
def numU (l:List UInt8):Nat:=l.foldl (fun v b=>10 * v+(b.toNat - 48)) 0
theorem dec_facts:∀ u:Nat,numU (Lib.decDigits u)=u∧(∀ b∈Lib.decDigits u,48≤b.toNat∧b.toNat≤57)∧1≤(Lib.decDigits u).length:=by
 intro u
 induction u using Nat.strongRecOn with
 | _ u ih =>
  have hm:∀ m:Fin 10,(UInt8.ofNat (48+m.val)).toNat=48+m.val:=by decide
  by_cases h:u<10
  ·rw [Lib.decDigits,dif_pos h]
   have:=hm ⟨u,h⟩
   simp only at this
   refine⟨?_,?_,by simp⟩
   ·simp only [numU,List.foldl_cons,List.foldl_nil,this];omega
   ·intro b hb
    obtain rfl:b=UInt8.ofNat (48+u):=by simpa using hb
    rw [this];omega
  ·obtain⟨i1,i2,i3⟩:=ih (u / 10) (by omega)
   rw [Lib.decDigits,dif_neg h]
   have:=hm ⟨u % 10,by omega⟩
   simp only at this
   refine⟨?_,?_,by simp⟩
   ·unfold numU at *
    rw [List.foldl_append,i1]
    simp only [List.foldl_cons,List.foldl_nil,this];omega
   ·intro b hb
    rcases List.mem_append.1 hb with hb | hb
    ·exact i2 b hb
    ·obtain rfl:b=UInt8.ofNat (48+u % 10):=by simpa using hb
     rw [this];omega
theorem dec_len:∀ (k n:Nat),n<10 ^ (k+1)→(Lib.decDigits n).length≤k+1:=by
 intro k
 induction k with
 | zero=>intro n h;rw [Lib.decDigits,dif_pos (by omega)];simp
 | succ k ih =>
  intro n h
  by_cases h9:n<10
  ·rw [Lib.decDigits,dif_pos h9];simp
  ·rw [Lib.decDigits,dif_neg h9,List.length_append]
   have:=ih (n / 10) (by rw [Nat.pow_succ] at h;omega)
   simp;omega
def numK (n:Int):List UInt8:=32 :: Lib.decDigits n.toNat
def keyK (op:Int) (ns:List Int):List UInt8:=Lib.decDigits op.toNat++ns.flatMap numK
def keyL (x:InstT):List UInt8:=keyK x.1 (x.2.2.2.map (·.2.1))
theorem split_blank {a b:List UInt8}:∀ {u v:List UInt8},(∀ z∈u,z≠32)→(∀ z∈v,z≠32)→(a=[]∨a.head?=some 32)→(b=[]∨b.head?=some 32)→u++a=v++b→u=v∧a=b
 | [],[],_,_,_,_,h=>⟨rfl,h⟩
 | [],y :: v,_,hv,ha,_,h=>by
  exfalso
  rw [List.nil_append] at h
  rcases ha with rfl | ha
  ·cases h
  ·rw [h] at ha
   have:y=32:=by simpa using ha
   exact hv y (by simp) this
 | x :: u,[],hu,_,_,hb,h=>by
  exfalso
  rw [List.nil_append] at h
  rcases hb with rfl | hb
  ·cases h
  ·rw [← h] at hb
   have:x=32:=by simpa using hb
   exact hu x (by simp) this
 | x :: u,y :: v,hu,hv,ha,hb,h=>by
  rw [List.cons_append,List.cons_append] at h
  injection h with h1 h2
  obtain⟨e1,e2⟩:=split_blank (fun z hz=>hu z (by simp [hz])) (fun z hz=>hv z (by simp [hz])) ha hb h2
  exact⟨by rw [h1,e1],e2⟩
theorem dec_noblank (u:Nat):∀ z∈Lib.decDigits u,z≠32:=by
 intro z hz e
 have:=(dec_facts u).2.1 z hz
 rw [e] at this
 have h32:(32:UInt8).toNat=32:=by decide
 rw [h32] at this
 omega
theorem flat_head (ns:List Int):ns.flatMap numK=[]∨(ns.flatMap numK).head?=some 32:=by
 cases ns with
 | nil=>exact .inl rfl
 | cons n ns=>right;rfl
theorem flat_inj:∀ {ns ms:List Int},(∀ n∈ns,0≤n)→(∀ n∈ms,0≤n)→ns.flatMap numK=ms.flatMap numK→ns=ms
 | [],[],_,_,_=>rfl
 | [],m :: ms,_,_,h=>by
  rw [List.flatMap_cons] at h
  simp [numK] at h
 | n :: ns,[],_,_,h=>by
  rw [List.flatMap_cons] at h
  simp [numK] at h
 | n :: ns,m :: ms,hn,hm,h=>by
  rw [List.flatMap_cons,List.flatMap_cons] at h
  unfold numK at h
  rw [List.cons_append,List.cons_append] at h
  injection h with _ h
  obtain⟨e1,e2⟩:=split_blank (dec_noblank _) (dec_noblank _) (flat_head ns) (flat_head ms) h
  have e3:n.toNat=m.toNat:=by rw [← (dec_facts n.toNat).1,e1,(dec_facts m.toNat).1]
  have h1:=hn n (by simp)
  have h2:=hm m (by simp)
  have:n=m:=by omega
  rw [this,flat_inj (fun z hz=>hn z (by simp [hz])) (fun z hz=>hm z (by simp [hz])) e2]
theorem key_inj {x y:InstT} (hx:InstOk x) (hy:InstOk y):keyL x=keyL y↔tyMak x=tyMak y:=by
 have rng:∀ {z:InstT},InstOk z→∀ n∈z.2.2.2.map (fun a=>a.2.1),0≤n:=by
  intro z hz n hn
  obtain⟨a,ha,rfl⟩:=List.mem_map.1 hn
  obtain⟨j,hj,rfl⟩:=List.mem_iff_getElem.1 ha
  have:=(hz.2.2.2.2.2.2.1 j hj).2.2.1
  rw [nthA_lt _ _ hj] at this
  exact this
 unfold tyMak keyL keyK
 constructor
 ·intro h
  obtain⟨e1,e2⟩:=split_blank (dec_noblank _) (dec_noblank _) (flat_head _) (flat_head _) h
  have e3:x.1.toNat=y.1.toNat:=by rw [← (dec_facts x.1.toNat).1,e1,(dec_facts y.1.toNat).1]
  have h1:=hx.1
  have h2:=hy.1
  have:x.1=y.1:=by omega
  rw [this,flat_inj (rng hx) (rng hy) e2]
 ·intro h
  injection h with h1 h2
  rw [h1,h2]
theorem numK_len {n:Int} (h1:n<4294967296):(numK n).length≤11:=by
 unfold numK
 rw [List.length_cons]
 have:=dec_len 9 n.toNat (by omega)
 omega
def isMak (op:Int):Bool:=decide (op=19∨op=20∨op=21∨op=23∨op=32∨op=33)
def keyB (l:List InstT) (k:Nat) (s:List UInt8):Bool:=(l.take k).any fun y=>isMak y.1 && decide (keyL y=s)
theorem keyB_again {l:List InstT} (hok:InstsOk l) {k:Nat} (hk:k<l.length) (hm:isMak (nthI l k).1=true):keyB l k (keyL (nthI l k))=tyAgain l k:=by
 have ok:∀ y∈l,InstOk y:=by
  intro y hy
  obtain⟨j,hj,rfl⟩:=List.mem_iff_getElem.1 hy
  have:=hok j hj
  rw [nthI_lt _ _ hj] at this
  exact this
 have h1:=hok k hk
 unfold keyB tyAgain
 rw [Bool.eq_iff_iff,List.any_eq_true,List.any_eq_true]
 constructor
 ·rintro⟨y,hy,h⟩
  rw [Bool.and_eq_true] at h
  exact⟨y,hy,by rw [decide_eq_true_eq];exact (key_inj (ok y (List.mem_of_mem_take hy)) h1).1 (of_decide_eq_true h.2)⟩
 ·rintro⟨y,hy,h⟩
  have h2:=of_decide_eq_true h
  refine⟨y,hy,?_⟩
  rw [Bool.and_eq_true]
  refine⟨?_,by rw [decide_eq_true_eq];exact (key_inj (ok y (List.mem_of_mem_take hy)) h1).2 h2⟩
  have e:y.1=(nthI l k).1:=by unfold tyMak at h2;injection h2
  rw [e];exact hm
theorem keyB_succ {l:List InstT} {k:Nat} (hk:k<l.length) (s:List UInt8):keyB l (k+1) s=(keyB l k s || (isMak (nthI l k).1 && decide (keyL (nthI l k)=s))):=by
 unfold keyB
 rw [List.take_add_one,List.getElem?_eq_getElem hk,List.any_append,nthI_lt _ _ hk]
 simp
end Go.Proofs.YtoebhgpciinkgaaGreatDoor
namespace Go.Proofs.YtoebhgpciinkgaaGreatDoor
open Go.RowKit Go.Shelf Go.Sort Go.Lib
set_option maxRecDepth 10000
set_option linter.unusedVariables false
set_option linter.unusedSimpArgs false
def AppU.ren:Go.Shelf.Ren:=⟨fun | 129=>161 | 283=>146 | 284=>147 | 285=>148 | 286=>149 | 288=>123 | 317=>160 | 318=>162 | 319=>163 | 320=>164 | 337=>171 | 338=>172 | n=>n,fun | 0=>0 | 3=>3 | 4=>4 | 5=>5 | 9=>9 | 20=>20 | 37=>142 | 46=>219 | 51=>22 | 53=>144 | 171=>188 | 173=>191 | 212=>217 | 213=>218 | 232=>238 | 233=>239 | n=>n,fun | 17=>0 | 18=>2 | 19=>3 | n=>n⟩
theorem AppU.lays:Go.Proofs.LaysM.n288 Tryz.prog AppU.ren:={
 mixed:=by kernel_rfl
 f129:=Tryz.func161.trans (congrArg some (by kernel_rfl))
 f283:=Tryz.func146.trans (congrArg some (by kernel_rfl))
 f284:=Tryz.func147.trans (congrArg some (by kernel_rfl))
 f285:=Tryz.func148.trans (congrArg some (by kernel_rfl))
 f286:=Tryz.func149.trans (congrArg some (by kernel_rfl))
 f288:=Tryz.func123.trans (congrArg some (by kernel_rfl))
 f317:=Tryz.func160.trans (congrArg some (by kernel_rfl))
 f318:=Tryz.func162.trans (congrArg some (by kernel_rfl))
 f319:=Tryz.func163.trans (congrArg some (by kernel_rfl))
 f320:=Tryz.func164.trans (congrArg some (by kernel_rfl))
 f337:=Tryz.func171.trans (congrArg some (by kernel_rfl))
 f338:=Tryz.func172.trans (congrArg some (by kernel_rfl))
 t0:=Tryz.underlying0
 a0:=Tryz.isAgg0
 z0:=Tryz.sizeOf0
 v0:=Tryz.zeroValue0
 t3:=Tryz.underlying3
 a3:=Tryz.isAgg3
 z3:=Tryz.sizeOf3
 v3:=Tryz.zeroValue3
 t4:=Tryz.underlying4
 a4:=Tryz.isAgg4
 z4:=Tryz.sizeOf4
 v4:=Tryz.zeroValue4
 t5:=Tryz.underlying5
 a5:=Tryz.isAgg5
 z5:=Tryz.sizeOf5
 v5:=Tryz.zeroValue5
 t9:=Tryz.underlying9
 a9:=Tryz.isAgg9
 z9:=Tryz.sizeOf9
 v9:=Tryz.zeroValue9
 t20:=Tryz.underlying20
 a20:=Tryz.isAgg20
 z20:=Tryz.sizeOf20
 v20:=Tryz.zeroValue20
 t37:=Tryz.underlying142
 a37:=Tryz.isAgg142
 z37:=Tryz.sizeOf142
 v37:=Tryz.zeroValue142
 t46:=Tryz.underlying219
 a46:=Tryz.isAgg219
 z46:=Tryz.sizeOf219
 v46:=Tryz.zeroValue219
 t51:=Tryz.underlying22
 a51:=Tryz.isAgg22
 z51:=Tryz.sizeOf22
 v51:=Tryz.zeroValue22
 t53:=Tryz.underlying144
 a53:=Tryz.isAgg144
 z53:=Tryz.sizeOf144
 v53:=Tryz.zeroValue144
 t171:=Tryz.underlying188
 a171:=Tryz.isAgg188
 z171:=Tryz.sizeOf188
 v171:=Tryz.zeroValue188
 t173:=Tryz.underlying191
 a173:=Tryz.isAgg191
 z173:=Tryz.sizeOf191
 v173:=Tryz.zeroValue191
 t212:=Tryz.underlying217
 a212:=Tryz.isAgg217
 z212:=Tryz.sizeOf217
 v212:=Tryz.zeroValue217
 t213:=Tryz.underlying218
 a213:=Tryz.isAgg218
 z213:=Tryz.sizeOf218
 t232:=Tryz.underlying238
 a232:=Tryz.isAgg238
 z232:=Tryz.sizeOf238
 v232:=Tryz.zeroValue238
 t233:=Tryz.underlying239
 a233:=Tryz.isAgg239
 z233:=Tryz.sizeOf239
 v233:=Tryz.zeroValue239
 g17:=by kernel_rfl
 g18:=by kernel_rfl
 g19:=by kernel_rfl
 i0:=by kernel_rfl
 i3:=by kernel_rfl
 i4:=by kernel_rfl
 i5:=by kernel_rfl
 i9:=by kernel_rfl
 i20:=by kernel_rfl
 i37:=by kernel_rfl
 i46:=by kernel_rfl
 i51:=by kernel_rfl
 i53:=by kernel_rfl
 i171:=by kernel_rfl
 i173:=by kernel_rfl
 i212:=by kernel_rfl
 i232:=by kernel_rfl
 i233:=by kernel_rfl
 m17:=by kernel_rfl
 m18:=by kernel_rfl
 m19:=by kernel_rfl }
def TenP (w:World):Prop:=Lib.TabIs Tryz.prog w "internal/strconv.uint64pow10" .u64 Lib.pow10Tab
theorem TenP.below {w w':World} (h:TenP w) (hb:Below w.heap.size w w'):TenP w':=by
 unfold TenP Lib.TabIs World.var? at *
 cases hg:Tryz.prog.globalNamed "internal/strconv.uint64pow10" with
 | none=>simp [hg] at h
 | some g =>
  simp only [hg,Option.bind_some] at h ⊢
  have hlt:g<w.heap.size:=by
   rcases Nat.lt_or_ge g w.heap.size with h' | h'
   ·exact h'
   ·rw [Array.getElem?_eq_none h'] at h;simp at h
  rw [hb.block g hlt]
  exact h
theorem appendUint_any (B n u:Nat) (hu:u<18446744073709551616) (sv:Value) (xs:List Value) (w:World) (hown:w.ownsRow B 5 1 sv n xs) (hB:B≤w.heap.size) (hlim:n+20≤140737488355328) (ht:TenP w) :
  Calls Tryz.prog 100 #[sv,.int .u64 u,.int .i64 10] w fun e w'=>∃ v',e=.returned v'∧w'.ownsRow B 5 1 v' (n+(Lib.decDigits u).length) (xs++Lib.byteCells (Lib.decDigits u))∧Below B w w'∧Lib.OthersKept 5 none w w':=by
 have h:=Any.internal_strconv_AppendUint_10 AppU.lays B n u hu sv xs w hown hB hlim ht
 go_enter Tryz.func100,Tryz.ntmps100
 go_wp2_with (go_at_call 123;refine h.mono ?_;rintro e w' ⟨v',rfl,hown',hb',hok'⟩)
 go_ret
 exact⟨_,rfl,hown',hb',hok'⟩
end Go.Proofs.YtoebhgpciinkgaaGreatDoor
