/-
  Texts in one: TypesAround, TypesText, TypesAsks3, MathTs, RowT, RowW, Law10Awake.
-/
import Derived.Test.YtoebhgpciinkgaaGreatDoorB22
namespace Go.Proofs.YtoebhgpciinkgaaGreatDoor
open Go.RowKit Go.Maps
set_option linter.unusedVariables false
set_option linter.unusedSimpArgs false
set_option maxRecDepth 10000
theorem StrT.info:(Tryz.prog.info? 9).map (fun i=>(i.zero,i.size,i.bytes))=some (some (.string ⟨#[]⟩),1,16):=by kernel_rfl
def strB (l:List UInt8):ByteArray:=⟨l.toArray⟩
theorem strB_app (a b:List UInt8):strB a++strB b=strB (a++b):=by
 apply ByteArray.ext
 simp [strB]
theorem strB_of (s:ByteArray):strB s.data.toList=s:=by
 apply ByteArray.ext
 simp [strB]
def rowS (g:Int→List UInt8) (ps:List Int):List Value:=ps.map fun x=>Value.string (strB (g x))
set_option maxHeartbeats 8000000 in
theorem around_any {B p mb n:Nat} {t:List TyR} {ov:Value} {f:Int→Value} (nm:List UInt8) (g:Int→List UInt8) (kd cn sz dp:Int) (sg:Bool) (cl:Int) (a:Option Addr) (m c X Tb:Nat) (ps:List Int) (w:World) (hT:TabB w B p mb n t ov f) (hX:w.heap[X]?=some (.cells #[.int .u8 kd,.int .i64 cn,.int .i64 sz,.int .i64 dp,.bool sg,.int .u32 cl,.slice a m c] 98 (0,0))) (hTb:w.heap[Tb]?=some (.cells #[.pointer (some ⟨p,0,none⟩)] 34 (0,0))) (hv:View .u32 w a ps) (hl:ps.length=m) (h1:1≤m) (hm:m≤65536) (hnm:nm.length≤1000) (hg:∀ x∈ps,(g x).length≤1400000) (hr:∀ x∈ps,0≤x∧x<4294967296)
  (hrec:∀ x∈ps,∀ wx,Below w.heap.size w wx→Calls Tryz.prog 59 #[.pointer (some ⟨p,0,none⟩),f x] wx fun e w'=>e=.returned (.string (strB (g x)))∧Below wx.heap.size wx w') :
  Calls Tryz.prog 80 #[.string (strB nm),.pointer (some ⟨X,0,none⟩),.pointer (some ⟨Tb,0,none⟩)] w fun e w'=>e=.returned (.string (strB (nm++[40]++Lib.join (ps.map g) [44]++[41])))∧Below w.heap.size w w':=by
 obtain⟨i0,hi,hz0,hz1,hz2⟩:=info_parts StrT.info
 have HI:=hide (And.intro hi (And.intro hz0 (And.intro hz1 hz2)))
 have x6:w.cell? ⟨X,6,none⟩=some (.slice a m c):=(one_block hX).1 6
 have HT:=hide hT
 have HTb:=hide hTb
 have HTl:=hide (Array.getElem?_eq_some_iff.1 hTb).1
 have HV:=hide hv
 have HL:=hide hl
 have HG:=hide (fun k (hk:k<m)=>hg (nth ps k) (nth_memR ps k (by rw [hl];exact hk)))
 have HR:=hide (fun k (hk:k<m)=>hr (nth ps k) (nth_memR ps k (by rw [hl];exact hk)))
 have HREC:=hide (fun k (hk:k<m)=>hrec (nth ps k) (nth_memR ps k (by rw [hl];exact hk)))
 have HTK:Hid (∀ k,k<m→rowS g (ps.take (k+1))=rowS g (ps.take k)++[.string (strB (g (nth ps k)))]):=fun k hk=>by
  unfold rowS
  have hk':k<ps.length:=by rw [hl];exact hk
  rw [List.take_add_one,List.getElem?_eq_getElem hk',List.map_append]
  simp [nth,List.getD,hk']
 have HTL:Hid (∀ k,k≤m→(rowS g (ps.take k)).length=k):=fun k hk=>by unfold rowS;rw [List.length_map,List.length_take];omega
 have HALL:Hid (rowS g (ps.take m)=rowS g ps):=by show _=_;rw [List.take_of_length_le (by omega)]
 have HJL:Hid ((Lib.join (ps.map g) [44]).length≤140737488355328 - 4000):=by
  have h2:=join_len (ps.map g) 1400000 (fun y hy=>by obtain⟨x,hx,rfl⟩:=List.mem_map.1 hy;exact hg x hx)
  rw [List.length_map] at h2
  have h3:ps.length * (1400000+1)≤65536 * (1400000+1):=Nat.mul_le_mul_right _ (by omega)
  show _≤_
  omega
 have hmi:(m:Int)≤65536:=by omega
 have HM1:=hide h1
 clear hT hX hTb hv hl hg hr hrec hi hz0 hz1 hz2 h1
 go_enter Tryz.func80,Tryz.ntmps80
 go_wp2_with fail
 clear x6
 go_loopw [5,11] (fun v i wr=>∃ k:Nat,k≤m∧i=.int .i64 k∧wr.ownsRow w.heap.size 9 1 v k (rowS g (ps.take k))∧Below w.heap.size w wr) (fun _ i _=>m - (intOf i).toNat)
 case atStart=>exact⟨0,Nat.zero_le _,rfl,World.ownsRow_nil _ _ _ _,Below.refl _ _⟩
 case round =>
  obtain⟨k,hk,rfl,hown,hbr⟩:=hrel
  have HBR:=hide hbr
  have HOW:=hide hown
  by_cases hlt:k<m
  ·obtain⟨b,off,rfl,hb,hc⟩:=HV.out.below hbr k (by rw [HL.out];exact hlt)
   have hki:(k:Int)<(m:Int):=by omega
   have hk0:(0:Int)≤(k:Int):=by omega
   have HLT:=hide hlt
   have HGK:=hide (HG.out k hlt)
   have HRK:=hide (HR.out k hlt)
   have HRE:=hide (HREC.out k hlt wr.drew hbr.drew)
   have HTS:=hide (HTK.out k hlt)
   have HLQ:Hid (∀ w':World,Below w.heap.size w w'→w'.cell? ⟨Tb,0,none⟩=some (.pointer (some ⟨p,0,none⟩))∧w'.cell? ⟨p,0,none⟩=some (.map (some mb))∧(Instr.lookup 89 (.map (some mb)) (.int .u32 (nth ps k)) false).run Tryz.prog w'=.ok (f (nth ps k)) w'):=fun w' h=>by
    have hTr:=HT.out.below h
    exact⟨(h.cell (p:=⟨Tb,0,none⟩) HTl.out).trans ((one_block HTb.out).1 0),(one_block hTr.blk).1 0,hTr.map.look 89 98 Tryz.underlying89 (Tryz.zeroValue98 _) (nth ps k) HRK.out.1 HRK.out.2⟩
   have HLR:Hid ((rowS g (ps.take k)).length=k):=HTL.out k hk
   generalize hRW:rowS g (ps.take k)=RW at *
   have hC:=hbr.drew
   generalize f (nth ps k)=fx at *
   generalize hGX:g (nth ps k)=gx at *
   generalize nth ps k=x at *
   clear hlt hbr hb hown hRW hGX
   go_wp2_with fail
   have hmix:Tryz.prog.follows .mixedOrders=true:=by kernel_rfl
   refine (wpIn_wide (n:=0)).1 ?_
   refine wpIn_normal (wpIn_region_any hmix (wpAnyC_sound (C:=fun w':World=>Below w.heap.size w w') _ _ _ _ ?_))
   change wpAnyC _ _ _ _ _ _ _ _ _ _ (World.drew _)
   refine wpAnyC_takeD (i:=0) (some 15) (v:=u5) (fun _=>trivial) (by kernel_rfl) rfl rfl (by kernel_rfl) (by kernel_rfl) (by kernel_rfl) (fun _ _ _ h=>by cases h.1) hC (Or.inl ⟨by kernel_rfl,fun w' hC=>by clear hC;go_simp⟩) ?_
   simp only [Act.put,ap1,ap2,ap3]
   refine wpAnyC_takeD (i:=1) (some 16) (v:=.pointer (some ⟨p,0,none⟩)) (fun _=>trivial) (by kernel_rfl) rfl rfl (by kernel_rfl) (by kernel_rfl) (by kernel_rfl) (fun _ _ _ h=>by cases h.1) hC (Or.inl ⟨by kernel_rfl,fun w' hC=>by have e1:=(HLQ.out w' hC).1;clear hC;go_simp⟩) ?_
   simp only [Act.put,ap1,ap2,ap3]
   refine wpAnyC_takeD (i:=2) (some 17) (v:=.pointer (some ⟨p,0,none⟩)) (fun _=>trivial) (by kernel_rfl) rfl rfl (by kernel_rfl) (by kernel_rfl) (by kernel_rfl) (fun _ _ _ h=>by cases h.1) hC (Or.inl ⟨by kernel_rfl,fun w' hC=>by have e1:=(HLQ.out w' hC).1;clear hC;go_simp⟩) ?_
   simp only [Act.put,ap1,ap2,ap3]
   refine wpAnyC_takeD (i:=3) (some 18) (v:=.pointer (some ⟨p,0,none⟩)) (fun _=>trivial) (by kernel_rfl) rfl rfl (by kernel_rfl) (by kernel_rfl) (by kernel_rfl) (fun _ _ _ h=>by cases h.1) hC (Or.inl ⟨by kernel_rfl,fun w' hC=>by clear hC;go_simp⟩) ?_
   simp only [Act.put,ap1,ap2,ap3]
   refine wpAnyC_takeD (i:=4) (some 19) (v:=.pointer (some ⟨p,0,none⟩)) (fun _=>trivial) (by kernel_rfl) rfl rfl (by kernel_rfl) (by kernel_rfl) (by kernel_rfl) (fun _ _ _ h=>by cases h.1) hC (Or.inl ⟨by kernel_rfl,fun w' hC=>by clear hC;go_simp⟩) ?_
   simp only [Act.put,ap1,ap2,ap3]
   refine wpAnyC_takeD (i:=5) (some 20) (v:=.map (some mb)) (fun _=>trivial) (by kernel_rfl) rfl rfl (by kernel_rfl) (by kernel_rfl) (by kernel_rfl) (fun _ _ _ h=>by cases h.1) hC (Or.inl ⟨by kernel_rfl,fun w' hC=>by have e1:=(HLQ.out w' hC).2.1;clear hC;go_simp⟩) ?_
   simp only [Act.put,ap1,ap2,ap3]
   refine wpAnyC_takeD (i:=6) (some 21) (v:=.int .u32 x) (fun _=>trivial) (by kernel_rfl) rfl rfl (by kernel_rfl) (by kernel_rfl) (by kernel_rfl) (fun _ _ _ h=>by cases h.1) hC (Or.inl ⟨by kernel_rfl,fun w' hC=>by clear hC;go_simp⟩) ?_
   simp only [Act.put,ap1,ap2,ap3]
   refine wpAnyC_takeD (i:=7) (some 22) (v:=fx) (fun _=>trivial) (by kernel_rfl) rfl rfl (by kernel_rfl) (by kernel_rfl) (by kernel_rfl) (fun _ _ _ h=>by cases h.1) hC (Or.inl ⟨by kernel_rfl,fun w' hC=>by have e1:=(HLQ.out w' hC).2.2;clear hC;go_simp⟩) ?_
   simp only [Act.put,ap1,ap2,ap3]
   refine wpAnyC_ready (rs:=[8]) (by kernel_rfl) (by simp) ?_
   refine AllC.cons rfl (fun K hK=>?_) AllC.nil
   go_simp
   refine⟨trivial,rfl,(callsIn_wide.2 HRE.out).mono ?_⟩
   rintro e w6 ⟨rfl,hb6⟩
   dsimp only
   have hb6':Below wr.heap.size wr w6:=((Below.refl _ wr).drew).trans (show Below wr.heap.size wr.drew w6 from hb6)
   have hC6:=HBR.out.trans (hb6'.mono HBR.out.size)
   refine hK _ _ hC6 ?_
   clear hK K hC
   try simp only [Act.put,ap1,ap2,ap3]
   refine wpAnyC_ready (rs:=[9]) (by kernel_rfl) (by simp) ?_
   refine AllC.cons rfl (fun K hK=>?_) AllC.nil
   go_simp
   generalize hWA:w6.alloc (.cells #[.string (strB gx)] 9)=WA at *
   have hbA:Below w6.heap.size w6 WA:=by rw [← hWA];exact (Below.refl _ w6).alloc (Nat.le_refl _) _
   have hNW:WA.heap[w6.heap.size]?=some (.cells #[.string (strB gx)] 9 (0,0)):=by rw [← hWA];exact heap_alloc_new w6 _
   have hC7:=hC6.trans (hbA.mono hC6.size)
   refine hK _ _ hC7 ?_
   clear hK K
   try simp only [Act.put,ap1,ap2,ap3]
   have hOA:=own_below HOW.out (hb6'.trans (hbA.mono hb6'.size))
   refine wpAnyC_ready (rs:=[10]) (by kernel_rfl) (by simp) ?_
   refine AllC.cons rfl (fun K hK=>?_) AllC.nil
   refine stepAny_lies _ (fun _=>trivial) rfl (.tmp 15) (.tmp 24) 121 rfl w.heap.size 9 i0 (.string ⟨#[]⟩) 1 16 Tryz.underlying121 HI.out.1 HI.out.2.1 HI.out.2.2.1 HI.out.2.2.2 rfl (by decide) u5 k RW rfl hOA ⟨w6.heap.size,0,none⟩ 1 1 [.string (strB gx)] rfl rfl (World.news_of_block (cs:=#[.string (strB gx)]) (t:=9) (fr:=(0,0)) hNW) (by simp [Value.oneCell']) (by decide) (by unfold maxLen;omega) (by omega) hC7.size ?_
   intro g7 cap7 w8 hown8 hgr8 hat8
   have hC8:=hC7.grown hgr8 hC7.size (fun g e=>(HOW.out.lt g e).1)
   refine hK _ _ hC8 ?_
   clear hK K
   have HO8:Hid (w8.ownsRow w.heap.size 9 1 (.slice (some ⟨g7,0,none⟩) (k+1) cap7) (k+1) (rowS g (ps.take (k+1)))):=by show World.ownsRow _ _ _ _ _ _ _;rw [HTS.out];exact hown8
   clear hown8 hgr8 hat8 hOA hNW hWA hbA hC7 hC6 hb6 hb6'
   have hC:=hC8
   refine wpAnyC_takeD (i:=11) (some 5) (v:=.slice (some ⟨g7,0,none⟩) (k+1) cap7) (fun _=>trivial) (by kernel_rfl) rfl rfl (by kernel_rfl) (by kernel_rfl) (by kernel_rfl) (fun _ _ _ h=>by cases h.1) hC (Or.inl ⟨by kernel_rfl,fun w' hC=>by clear hC;go_simp⟩) ?_
   simp only [Act.put,ap1,ap2,ap3]
   refine wpAnyC_done (by kernel_rfl) ?_ _
   refine⟨rfl,?_⟩
   go_wp2_with fail
   exact⟨⟨k+1,HLT.out,by go_num,HO8.out,hC8⟩,measTn HLT.out⟩
  ·obtain rfl:k=m:=by omega
   rw [HALL.out] at hown
   have hsh:∃ gk cap,u5=.slice (some ⟨gk,0,none⟩) k cap∧k≤cap∧gk<wr.heap.size:=by
    rcases hown.2 with ⟨_,e2⟩ | ⟨gk,cap,cur,e1,_,e3,e4,_⟩
    ·have:=HM1.out;omega
    ·exact⟨gk,cap,e1,e4,(Array.getElem?_eq_some_iff.1 e3).1⟩
   obtain⟨gk,cap,rfl,hcap,hgk⟩:=hsh
   have hJ:=stringsJoin_any gk 0 cap (ps.map fun x=>strB (g x)) (strB [44]) wr (fun j x hj=>by
    have hjl:j<ps.length:=by have:=(List.getElem?_eq_some_iff.1 hj).1;rwa [List.length_map] at this
    have hcx:=hown.cellAt j (by rw [Nat.mul_one,← HL.out];exact hjl)
    rw [Nat.zero_add,hcx]
    unfold rowS
    rw [List.getElem?_map] at hj ⊢
    rw [List.getElem?_eq_getElem hjl] at hj ⊢
    simp only [Option.map_some,Option.some.injEq] at hj ⊢
    rw [hj]) hgk (by rw [List.length_map,HL.out];omega) (by rw [List.length_map,HL.out];exact hcap) (by
    have e:(ps.map fun x=>strB (g x)).map (fun s=>s.data.toList)=ps.map g:=by rw [List.map_map];apply List.map_congr_left;intro x _;rfl
    rw [e]
    have:=HJL.out
    show (Lib.join (ps.map g) [44]).length≤_
    omega)
   have e:(ps.map fun x=>strB (g x)).map (fun s=>s.data.toList)=ps.map g:=by rw [List.map_map];apply List.map_congr_left;intro x _;rfl
   rw [e,List.length_map,HL.out,show (strB [44]).data.toList=[44] from rfl] at hJ
   have hsn:(strB nm).size=nm.length:=by unfold strB;simp [ByteArray.size]
   have n1:¬ 9223372036854775807<(strB nm).size+1:=by rw [hsn];omega
   have n2:¬ 9223372036854775807<(strB nm).size+1+(Lib.join (ps.map g) [44]).length:=by have:=HJL.out;rw [hsn];omega
   have n3:¬ 9223372036854775807<(strB nm).size+1+(Lib.join (ps.map g) [44]).length+1:=by have:=HJL.out;rw [hsn];omega
   clear hsn
   have HJ:=hide hJ
   clear hJ e hown hbr hlt
   go_wp2_with (go_at_call 81;refine HJ.out.mono ?_;rintro e w5 ⟨rfl,hb5⟩)
   go_ret
   refine⟨?_,HBR.out.trans (hb5.mono HBR.out.size)⟩
   show Ending.returned (Value.string (strB nm++strB [40]++strB (Lib.join (ps.map g) [44])++strB [41]))=_
   rw [strB_app,strB_app,strB_app]
theorem good_some {t:List TyR} {f:Nat} {p:Int} (h:GoodT t f p):kindT t p≠0:=by
 obtain⟨t0,h1,h2,h3,h4⟩:=h
 unfold kindT
 rw [h4 p h3]
 cases e:tyF t0 p with
 | none=>exact absurd e h3
 | some r =>
  obtain⟨_,_,_,_,k1,_⟩:=h1.says e
  unfold tyD
  rw [e]
  simp only [Option.getD_some]
  omega
theorem itoaS_any (n:Nat) (hn:n≤4096) (w:World) (ht:TenP w):Calls Tryz.prog 74 #[.int .i64 (n:Int)] w fun e w'=>e=.returned (.string (strB (Lib.itoa (n:Int))))∧Below w.heap.size w w':=itoa_any (n:Int) (by omega) (by omega) w ht
set_option maxHeartbeats 8000000 in
theorem textOf_any {B p mb n:Nat} {t:List TyR} {ov:Value} {f:Int→Value} (w0:World) (hT:TabB w0 B p mb n t ov f) (ht:TabK t) (h10:TenP w0):∀ (fu:Nat) (id:Int),GoodT t fu id→∀ w,Below w0.heap.size w0 w →
  Calls Tryz.prog 59 #[.pointer (some ⟨p,0,none⟩),f id] w fun e w'=>e=.returned (.string (strB (txtF t fu id)))∧Below w.heap.size w w':=by
 intro fu
 induction fu with
 | zero=>intro id h;obtain⟨_,e,_⟩:=good_parts h;cases e
 | succ fu ih =>
  intro id hgd w hbw
  have hTw:=hT.below hbw
  obtain⟨a,c,e,hv,hc,_⟩:=hTw.ents id
  have hshort:=txt_parts ht hgd
  obtain⟨fu',e2,hgp⟩:=good_parts hgd
  obtain rfl:fu=fu':=by omega
  have hks:=good_some hgd
  cases e3:tyF t id with
  | none=>exact absurd e3 (tyF_of_kind hks)
  | some r =>
   have hr:tyD t id=r:=by unfold tyD;rw [e3];rfl
   obtain⟨spin,hcs,hcn,hps⟩:(∀ p∈r.parts,1≤p∧p<4294967296∧kindT t p≠0)∧(r.kind=1∨r.kind=2∨r.kind=3∨r.kind=4∨r.kind=5∨r.kind=6∨r.kind=7∨r.kind=8)∧(r.kind=4∨r.kind=5→r.count≤4096)∧(4≤r.kind→r.parts≠[]∧r.parts.length≤65536):=by
    obtain⟨_,_,_,spin,k1,k8,ksg,kcl,n3,v4,v5,v6,v7,v8,_⟩:=ht.says e3
    have hcs:r.kind=1∨r.kind=2∨r.kind=3∨r.kind=4∨r.kind=5∨r.kind=6∨r.kind=7∨r.kind=8:=by generalize r.kind=m at k1 k8;omega
    refine⟨spin,hcs,fun h=>?_,fun h4=>?_⟩
    ·rcases h with h | h
     ·obtain⟨_,_,_,h3,_⟩:=v4 h;omega
     ·obtain⟨_,_,_,h3,_⟩:=v5 h;exact h3
    ·have hnl:∀ m:Nat,r.parts.length=m→1≤m→r.parts≠[]:=fun m h1 h2 e=>by rw [e] at h1;simp at h1;omega
     rcases hcs with c | c | c | c | c | c | c | c
     ·rw [c] at h4;omega
     ·rw [c] at h4;omega
     ·rw [c] at h4;omega
     ·obtain⟨q,a1,_⟩:=v4 c;rw [a1];simp
     ·obtain⟨q,a1,_⟩:=v5 c;rw [a1];simp
     ·obtain⟨a1,a2,a3,_⟩:=v6 c;exact⟨hnl _ a1 a2,by omega⟩
     ·obtain⟨q,a1,_⟩:=v7 c;rw [a1];simp
     ·obtain⟨a1,a2,a3,_⟩:=v8 c;exact⟨hnl _ a1 a2,by omega⟩
   rw [hr] at e hv hc hshort hgp
   rw [txtF,hr,e]
   have hb2:Below w.heap.size w ((w.alloc (.cells #[.pointer (some ⟨p,0,none⟩)] 34)).alloc (.cells #[.int .u8 (r.kind:Int),.int .i64 (r.count:Int),.int .i64 (r.size:Int),.int .i64 (r.depth:Int),.bool r.signed,.int .u32 r.cls,.slice a r.parts.length c] 98)):=((Below.refl _ w).alloc (Nat.le_refl _) _).alloc (by simp) _
   have kX:((w.alloc (.cells #[.pointer (some ⟨p,0,none⟩)] 34)).alloc (.cells #[.int .u8 (r.kind:Int),.int .i64 (r.count:Int),.int .i64 (r.size:Int),.int .i64 (r.depth:Int),.bool r.signed,.int .u32 r.cls,.slice a r.parts.length c] 98)).heap[w.heap.size+1]?=some (.cells #[.int .u8 (r.kind:Int),.int .i64 (r.count:Int),.int .i64 (r.size:Int),.int .i64 (r.depth:Int),.bool r.signed,.int .u32 r.cls,.slice a r.parts.length c] 98 (0,0)):=by
    have:=heap_alloc_new (w.alloc (.cells #[.pointer (some ⟨p,0,none⟩)] 34)) (.cells #[.int .u8 (r.kind:Int),.int .i64 (r.count:Int),.int .i64 (r.size:Int),.int .i64 (r.depth:Int),.bool r.signed,.int .u32 r.cls,.slice a r.parts.length c] 98)
    simpa using this
   have kT:((w.alloc (.cells #[.pointer (some ⟨p,0,none⟩)] 34)).alloc (.cells #[.int .u8 (r.kind:Int),.int .i64 (r.count:Int),.int .i64 (r.size:Int),.int .i64 (r.depth:Int),.bool r.signed,.int .u32 r.cls,.slice a r.parts.length c] 98)).heap[w.heap.size]?=some (.cells #[.pointer (some ⟨p,0,none⟩)] 34 (0,0)):=by
    rw [Below.heap_alloc _ _ _ (by simp)];exact heap_alloc_new _ _
   have hA:r.parts≠[]→r.parts.length≤65536→∀ (nm:List UInt8),nm.length≤1000→∀ wx,Below ((w.alloc (.cells #[.pointer (some ⟨p,0,none⟩)] 34)).alloc (.cells #[.int .u8 (r.kind:Int),.int .i64 (r.count:Int),.int .i64 (r.size:Int),.int .i64 (r.depth:Int),.bool r.signed,.int .u32 r.cls,.slice a r.parts.length c] 98)).heap.size ((w.alloc (.cells #[.pointer (some ⟨p,0,none⟩)] 34)).alloc (.cells #[.int .u8 (r.kind:Int),.int .i64 (r.count:Int),.int .i64 (r.size:Int),.int .i64 (r.depth:Int),.bool r.signed,.int .u32 r.cls,.slice a r.parts.length c] 98)) wx →
     Calls Tryz.prog 80 #[.string (strB nm),.pointer (some ⟨w.heap.size+1,0,none⟩),.pointer (some ⟨w.heap.size,0,none⟩)] wx fun e w'=>e=.returned (.string (strB (nm++[40]++Lib.join (r.parts.map (txtF t fu)) [44]++[41])))∧Below wx.heap.size wx w':=by
    intro hne hlen nm hnm wx hx
    refine around_any nm (txtF t fu) (r.kind:Int) (r.count:Int) (r.size:Int) (r.depth:Int) r.signed r.cls a r.parts.length c (w.heap.size+1) w.heap.size r.parts wx ((hTw.below hb2).below hx) ((hx.block _ (Array.getElem?_eq_some_iff.1 kX).1).trans kX) ((hx.block _ (Array.getElem?_eq_some_iff.1 kT).1).trans kT) ((hv.below hb2).below hx) rfl (List.length_pos_iff.2 hne) hlen hnm hshort (fun x hx=>⟨by have:=(spin x hx).1;omega,(spin x hx).2.1⟩) (fun x hxm wy hy=>?_)
    exact ih x (hgp x hxm) wy (((hbw.trans (hb2.mono hbw.size)).trans (hx.mono (Nat.le_trans hbw.size hb2.size))).trans (hy.mono (Nat.le_trans hbw.size (Nat.le_trans hb2.size hx.size))))
   have h10w:=(h10.below hbw).below hb2
   have HB2:=hide hb2
   have kX0:=(one_block kX).1 0
   have kX1:=(one_block kX).1 1
   have kX4:=(one_block kX).1 4
   have kX5:=(one_block kX).1 5
   have HA:=hide hA
   have HTEN:=hide h10w
   have HPS:=hide hps
   have HCN:=hide hcn
   unfold txtR entV
   generalize hK:(r.kind:Int)=K at *
   rcases hcs with ck | ck | ck | ck | ck | ck | ck | ck
   ·have e9:K=1:=by rw [← hK,ck];rfl
    subst e9
    rw [if_pos ck]
    clear kX kT hA HA hshort hgp ih spin hK kX1 kX4 kX5 ck
    go_enter Tryz.func59,Tryz.ntmps59
    go_wp2_with fail
    go_ret
    exact⟨rfl,HB2.out⟩
   ·have e9:K=2:=by rw [← hK,ck];rfl
    subst e9
    rw [if_neg (by omega),if_pos ck]
    clear kX kT hA HA hshort hgp ih spin hK kX1 kX4 kX5 ck
    go_enter Tryz.func59,Tryz.ntmps59
    go_wp2_with fail
    go_ret
    exact⟨rfl,HB2.out⟩
   ·have e9:K=3:=by rw [← hK,ck];rfl
    subst e9
    rw [if_neg (by omega),if_neg (by omega),if_pos ck]
    clear kX kT hA HA hshort hgp ih spin hK kX1 kX5 ck
    generalize r.signed=sg at *
    cases sg with
    | true =>
     rw [if_pos rfl]
     go_enter Tryz.func59,Tryz.ntmps59
     go_wp2_with fail
     go_ret
     exact⟨rfl,HB2.out⟩
    | false =>
     rw [if_neg (by simp)]
     go_enter Tryz.func59,Tryz.ntmps59
     go_wp2_with fail
     go_ret
     exact⟨rfl,HB2.out⟩
   ·have e9:K=4:=by rw [← hK,ck];rfl
    subst e9
    rw [if_neg (by omega),if_neg (by omega),if_neg (by omega)]
    have hnmE:nameT r=[118,101,99]++Lib.itoa (r.count:Int):=by unfold nameT;rw [if_pos ck]
    rw [hnmE]
    obtain⟨hp1,hp2⟩:=HPS.out (by omega)
    have hit:=itoaS_any r.count (HCN.out (by omega)) ((w.alloc (.cells #[.pointer (some ⟨p,0,none⟩)] 34)).alloc (.cells #[.int .u8 4,.int .i64 (r.count:Int),.int .i64 (r.size:Int),.int .i64 (r.depth:Int),.bool r.signed,.int .u32 r.cls,.slice a r.parts.length c] 98)) h10w
    have hfew:=itoa_few (HCN.out (by omega))
    have hsz:(strB (Lib.itoa (r.count:Int))).size=(Lib.itoa (r.count:Int)).length:=by unfold strB;simp [ByteArray.size]
    have m1:¬ 9223372036854775807<3+(strB (Lib.itoa (r.count:Int))).size:=by rw [hsz];omega
    have m2:¬ 9223372036854775807<(strB (Lib.itoa (r.count:Int))).size+3:=by rw [hsz];omega
    have hA2:=fun wx hx=>HA.out hp1 hp2 ([118,101,99]++Lib.itoa (r.count:Int)) (by rw [List.length_append];simp;omega) wx hx
    have hlit:(⟨#[118,101,99]⟩:ByteArray)++strB (Lib.itoa (r.count:Int))=strB ([118,101,99]++Lib.itoa (r.count:Int)):=strB_app [118,101,99] _
    simp only [← hlit] at hA2
    clear kX kT hA HA hshort hgp ih spin hK kX4 kX5 ck hsz hfew hp1 hp2 hnmE hlit
    go_enter Tryz.func59,Tryz.ntmps59
    go_wp2_with (first
     | (go_at_call 74;refine hit.mono ?_;rintro e w5 ⟨rfl,hb5⟩)
     | (go_at_call 80;refine (hA2 _ hb5).mono ?_;rintro e w6 ⟨rfl,hb6⟩))
    go_ret
    refine⟨?_,HB2.out.trans ((hb5.trans (hb6.mono hb5.size)).mono HB2.out.size)⟩
    first | rfl | simp
   ·have e9:K=5:=by rw [← hK,ck];rfl
    subst e9
    rw [if_neg (by omega),if_neg (by omega),if_neg (by omega)]
    have hnmE:nameT r=[97,114,114,97,121]++Lib.itoa (r.count:Int):=by unfold nameT;rw [if_neg (by omega),if_pos ck]
    rw [hnmE]
    obtain⟨hp1,hp2⟩:=HPS.out (by omega)
    have hit:=itoaS_any r.count (HCN.out (by omega)) ((w.alloc (.cells #[.pointer (some ⟨p,0,none⟩)] 34)).alloc (.cells #[.int .u8 5,.int .i64 (r.count:Int),.int .i64 (r.size:Int),.int .i64 (r.depth:Int),.bool r.signed,.int .u32 r.cls,.slice a r.parts.length c] 98)) h10w
    have hfew:=itoa_few (HCN.out (by omega))
    have hsz:(strB (Lib.itoa (r.count:Int))).size=(Lib.itoa (r.count:Int)).length:=by unfold strB;simp [ByteArray.size]
    have m1:¬ 9223372036854775807<5+(strB (Lib.itoa (r.count:Int))).size:=by rw [hsz];omega
    have m2:¬ 9223372036854775807<(strB (Lib.itoa (r.count:Int))).size+5:=by rw [hsz];omega
    have hA2:=fun wx hx=>HA.out hp1 hp2 ([97,114,114,97,121]++Lib.itoa (r.count:Int)) (by rw [List.length_append];simp;omega) wx hx
    have hlit:(⟨#[97,114,114,97,121]⟩:ByteArray)++strB (Lib.itoa (r.count:Int))=strB ([97,114,114,97,121]++Lib.itoa (r.count:Int)):=strB_app [97,114,114,97,121] _
    simp only [← hlit] at hA2
    clear kX kT hA HA hshort hgp ih spin hK kX4 kX5 ck hsz hfew hp1 hp2 hnmE hlit
    go_enter Tryz.func59,Tryz.ntmps59
    go_wp2_with (first
     | (go_at_call 74;refine hit.mono ?_;rintro e w5 ⟨rfl,hb5⟩)
     | (go_at_call 80;refine (hA2 _ hb5).mono ?_;rintro e w6 ⟨rfl,hb6⟩))
    go_ret
    refine⟨?_,HB2.out.trans ((hb5.trans (hb6.mono hb5.size)).mono HB2.out.size)⟩
    first | rfl | simp
   ·have e9:K=6:=by rw [← hK,ck];rfl
    subst e9
    rw [if_neg (by omega),if_neg (by omega),if_neg (by omega)]
    have hnmE:nameT r=[115,116,114,117,99,116]:=by unfold nameT;rw [if_neg (by omega),if_neg (by omega),if_pos ck]
    rw [hnmE]
    obtain⟨hp1,hp2⟩:=HPS.out (by omega)
    have hA2:=HA.out hp1 hp2 [115,116,114,117,99,116] (by simp) _ (Below.refl _ _)
    have hlit:(⟨#[115,116,114,117,99,116]⟩:ByteArray)=strB [115,116,114,117,99,116]:=rfl
    rw [← hlit] at hA2
    clear kX kT hA HA hshort hgp ih spin hK kX1 kX4 kX5 ck hp1 hp2 hnmE hlit
    go_enter Tryz.func59,Tryz.ntmps59
    go_wp2_with (go_at_call 80;refine hA2.mono ?_;rintro e w6 ⟨rfl,hb6⟩)
    go_ret
    refine⟨?_,HB2.out.trans (hb6.mono HB2.out.size)⟩
    first | rfl | simp
   ·have e9:K=7:=by rw [← hK,ck];rfl
    subst e9
    rw [if_neg (by omega),if_neg (by omega),if_neg (by omega)]
    have hnmE:nameT r=(enumS 99 r.cls).data.toList:=by unfold nameT;rw [if_neg (by omega),if_neg (by omega),if_neg (by omega),if_pos ck]
    rw [hnmE]
    obtain⟨hp1,hp2⟩:=HPS.out (by omega)
    have hA2:=fun wx hx=>HA.out hp1 hp2 (enumS 99 r.cls).data.toList (by have:=names_few r.cls;omega) wx hx
    simp only [strB_of (enumS 99 r.cls)] at hA2
    have hE:=enum_any 99 r.cls ((w.alloc (.cells #[.pointer (some ⟨p,0,none⟩)] 34)).alloc (.cells #[.int .u8 7,.int .i64 (r.count:Int),.int .i64 (r.size:Int),.int .i64 (r.depth:Int),.bool r.signed,.int .u32 r.cls,.slice a r.parts.length c] 98))
    generalize enumS 99 r.cls=es at *
    generalize enumB 99 r.cls=eb at *
    clear kX kT hA HA hshort hgp ih spin hK kX1 kX4 ck hp1 hp2 hnmE
    go_enter Tryz.func59,Tryz.ntmps59
    go_wp2_with (first
     | (go_at_call 82;refine hE.mono ?_;rintro e w5 ⟨rfl,hb5⟩)
     | (go_at_call 80;refine (hA2 _ hb5).mono ?_;rintro e w6 ⟨rfl,hb6⟩))
    go_ret
    refine⟨?_,HB2.out.trans ((hb5.trans (hb6.mono hb5.size)).mono HB2.out.size)⟩
    first | rfl | simp
   ·have e9:K=8:=by rw [← hK,ck];rfl
    subst e9
    rw [if_neg (by omega),if_neg (by omega),if_neg (by omega)]
    have hnmE:nameT r=[102,110]:=by unfold nameT;rw [if_neg (by omega),if_neg (by omega),if_neg (by omega),if_neg (by omega)]
    rw [hnmE]
    obtain⟨hp1,hp2⟩:=HPS.out (by omega)
    have hA2:=HA.out hp1 hp2 [102,110] (by simp) _ (Below.refl _ _)
    have hlit:(⟨#[102,110]⟩:ByteArray)=strB [102,110]:=rfl
    rw [← hlit] at hA2
    clear kX kT hA HA hshort hgp ih spin hK kX1 kX4 kX5 ck hp1 hp2 hnmE hlit
    go_enter Tryz.func59,Tryz.ntmps59
    go_wp2_with (go_at_call 80;refine hA2.mono ?_;rintro e w6 ⟨rfl,hb6⟩)
    go_ret
    refine⟨?_,HB2.out.trans (hb6.mono HB2.out.size)⟩
    first | rfl | simp
def textT (t:List TyR) (id:Int):ByteArray×Bool:=if kindT t id=0 then (⟨#[]⟩,false) else (strB (txtF t t.length id),true)
set_option maxHeartbeats 4000000 in
theorem tyText_any {B p mb n:Nat} {t:List TyR} {ov:Value} {f:Int→Value} (id:Int) (w:World) (h:TabB w B p mb n t ov f) (ht:TabK t) (h10:TenP w) (k0:0≤id) (k1:id<4294967296) :
  Calls Tryz.prog 28 #[.pointer (some ⟨p,0,none⟩),.int .u32 id] w fun e w'=>e=.returned (.tuple #[.string (textT t id).1,.bool (textT t id).2])∧Below w.heap.size w w':=by
 have hK:=tyKind_any id w h k0 k1
 unfold textT
 by_cases hz:kindT t id=0
 ·rw [if_pos hz]
  rw [hz] at hK
  clear hz h ht h10
  go_enter Tryz.func28,Tryz.ntmps28
  go_wp2_with (go_at_call 29;refine hK.mono ?_;rintro e w1 ⟨rfl,hb1⟩)
  go_returns
  exact⟨rfl,hb1⟩
 ·rw [if_neg hz]
  have hg:GoodT t t.length id:=good_all ht (tyF_of_kind hz)
  have hF:=fun wx (hx:Below w.heap.size w wx)=>find_any id wx (h.below hx) k0 k1
  have hX:=fun wx (hx:Below w.heap.size w wx)=>textOf_any w h ht h10 t.length id hg wx hx
  have hz2:¬ (kindT t id:Int)=0:=by omega
  clear h ht h10 hg hz
  generalize kindT t id=K at *
  generalize strB (txtF t t.length id)=S at *
  go_enter Tryz.func28,Tryz.ntmps28
  go_wp2_with (first
   | (go_at_call 29;refine hK.mono ?_;rintro e w1 ⟨rfl,hb1⟩)
   | (go_at_call 55;refine (hF _ hb1).mono ?_;rintro e w2 ⟨rfl,hb2⟩;have hb3:=hb1.trans (hb2.mono hb1.size))
   | (go_at_call 59;refine (hX _ hb3).mono ?_;rintro e w4 ⟨rfl,hb4⟩))
  go_returns
  exact⟨rfl,hb3.trans (hb4.mono hb3.size)⟩
theorem tyText_nil (id:Int) (w:World) :
  Calls Tryz.prog 28 #[.pointer none,.int .u32 id] w fun e w'=>e=.returned (.tuple #[.string ⟨#[]⟩,.bool false])∧Below w.heap.size w w':=by
 have hK:=tyKind_nil id w
 go_enter Tryz.func28,Tryz.ntmps28
 go_wp2_with (go_at_call 29;refine hK.mono ?_;rintro e w1 ⟨rfl,hb1⟩)
 go_returns
 exact⟨rfl,hb1⟩
set_option maxHeartbeats 4000000 in
theorem tyOffset_nil (id k:Int) (w:World) :
  Calls Tryz.prog 27 #[.pointer none,.int .u32 id,.int .i64 k] w fun e w'=>e=.returned (.tuple #[.int .i64 0,.bool false])∧Below w.heap.size w w':=by
 have hF:=find_nil id w
 unfold zeroE at hF
 have HAS:=fun w=>has_any 0 0 0 0 k w
 have hd:decide (0≤k∧k<((0:Nat):Int))=false:=decide_eq_false (by omega)
 simp only [hd] at HAS
 clear hd
 go_enter Tryz.func27,Tryz.ntmps27
 go_wp2_with (first
  | (go_at_call 55;refine hF.mono ?_;rintro e w1 ⟨rfl,hb1⟩;have hbA:=hb1.alloc hb1.size (.cells #[.int .u8 0,.int .i64 0,.int .i64 0,.int .i64 0,.bool false,.int .u32 0,.slice none 0 0] 98))
  | (go_at_call 57;refine (HAS _).mono ?_;rintro e w2 ⟨rfl,hb2⟩))
 go_returns
 exact⟨rfl,hbA.trans (hb2.mono hbA.size)⟩
set_option maxHeartbeats 4000000 in
theorem tyAlike_nil (id ie:Int) (w:World) :
  Calls Tryz.prog 23 #[.pointer none,.int .u32 id,.int .u32 ie] w fun e w'=>e=.returned (.bool false)∧Below w.heap.size w w':=by
 have hF:=fun i wx=>find_nil i wx
 unfold zeroE at hF
 have HP:=fun wx=>plain_any 0 0 0 0 0 rfl wx
 have hpl:plainK 0=false:=rfl
 simp only [hpl] at HP
 clear hpl
 have HB:=hide (Below.refl w.heap.size w)
 go_enter Tryz.func23,Tryz.ntmps23
 go_wp2_with (go_at_call 55;refine (hF _ _).mono ?_;rintro e w1 ⟨rfl,hb1⟩;replace HB:=hide (HB.out.trans (hb1.mono HB.out.size));clear hb1)
 have HA:=hide ((HB.out.alloc HB.out.size (.cells #[.int .u8 0,.int .i64 0,.int .i64 0,.int .i64 0,.bool false,.int .u32 0,.slice none 0 0] 98)).alloc (Nat.le_trans HB.out.size (by simp)) (.cells #[.int .u8 0,.int .i64 0,.int .i64 0,.int .i64 0,.bool false,.int .u32 0,.slice none 0 0] 98))
 refine (HP _).mono ?_
 rintro e w2 ⟨rfl,hb2⟩
 have HC:=hide (HA.out.trans (hb2.mono HA.out.size))
 clear hb2
 go_wp2_with fail
 go_returns
 exact⟨rfl,HC.out⟩
def sm10:List InstT:=[(14,0,0,[(4,0,⟨#[]⟩),(4,0,⟨#[]⟩)]),(21,0,1,[(2,32,⟨#[]⟩),(2,1,⟨#[]⟩)]),(23,0,2,[(1,1,⟨#[]⟩),(2,3,⟨#[]⟩)])]
theorem sm10_ok:InstsOk sm10:=by
 intro j hj
 have:j=0∨j=1∨j=2:=by simp [sm10] at hj;omega
 rcases this with rfl | rfl | rfl <;> exact⟨by decide,by decide,by decide,by decide,by decide,by decide,fun k hk=>by
  have:k=0∨k=1:=by simp [nthI,sm10] at hk;omega
  rcases this with rfl | rfl <;> exact⟨by decide,by decide,by decide,by decide,by decide⟩,by decide⟩
theorem sm10_E:tyE 9 sm10=(0,0):=by decide +kernel
theorem sm10_len:(tyTab sm10).length=2:=by decide +kernel
theorem sm10_kind:kindT (tyTab sm10) 1=3:=by decide +kernel
theorem sm10_signed:(tyD (tyTab sm10) 1).signed=true:=by decide +kernel
theorem sm10_size:sizeT (tyTab sm10) 2=3:=by decide +kernel
theorem sm10_part:partT (tyTab sm10) 2 2=(1,true):=by decide +kernel
theorem sm10_kind2:kindT (tyTab sm10) 2≠0:=by decide +kernel
theorem sm10_txt:txtF (tyTab sm10) (tyTab sm10).length 2=[118,101,99,51,40,105,110,116,41]:=by decide +kernel
theorem sm10_text:textT (tyTab sm10) 2=(⟨#[118,101,99,51,40,105,110,116,41]⟩,true):=by
 unfold textT
 rw [if_neg sm10_kind2,sm10_txt]
 rfl
end Go.Proofs.YtoebhgpciinkgaaGreatDoor
namespace Go.Proofs.YtoebhgpciinkgaaGreatDoor
open Go.RowKit
set_option linter.unusedVariables false
set_option linter.unusedSimpArgs false
theorem RowT.info:(Tryz.prog.info? 71).map (fun i=>(i.zero,i.size,i.bytes))=some (some (.agg #[.int .u16 0,.int .u32 0,.int .u32 0,.slice none 0 0]),4,40):=by kernel_rfl
theorem setFarT {w:World} {g k:Nat} {o:Obj} (h:w.heap[k]?=some o) (hne:k≠g) (i:Nat) (u:Value):(w.setCell ⟨g,i,none⟩ u).heap[k]?=some o:=(Below.heap_setCell _ _ _ _ (by simpa using hne)).trans h
theorem three_putT {w:World} {B T:Nat} {z0 z1 z2:Value} (h:w.heap[B]?=some (.cells #[z0,z1,z2] T (0,0))) (u0 u1 u2:Value) :
  (((w.setCell ⟨B,0,none⟩ u0).setCell ⟨B,1,none⟩ u1).setCell ⟨B,2,none⟩ u2).heap[B]?=some (.cells #[u0,u1,u2] T (0,0)):=by
 simp only [World.setCell,Array.getElem?_modify,h];simp
structure RowT (w : World) (lo g n k : Nat) (l : List InstT) : Prop where
  row : ∃ cs : Array Value, w.heap[g]? = some (.cells cs 71 (0, 0)) ∧ cs.size = n * 4
  lo : lo ≤ g
  each : ∀ j, j < k → ∃ aj cj nj, w.cell? ⟨g, j * 4, none⟩ = some (.int .u16 (nthI l j).1) ∧ w.cell? ⟨g, j * 4 + 1, none⟩ = some (.int .u32 (nthI l j).2.1) ∧ w.cell? ⟨g, j * 4 + 2, none⟩ = some (.int .u32 (nthI l j).2.2.1) ∧ w.cell? ⟨g, j * 4 + 3, none⟩ = some (.slice aj nj cj) ∧
    (nthI l j).2.2.2.length = nj ∧ w.ownsRow (g + 1) 87 3 (.slice aj nj cj) nj ((nthI l j).2.2.2.flatMap argC)
theorem ArgsV.grownW {w w':World} {a:Option Addr} {l:List ArgT} {row:Option Nat} (h:ArgsV w a l) (hg:w.grownBy w' row) (hne:∀ b off,a=some ⟨b,off,none⟩→row≠some b):ArgsV w' a l:=by
 intro j hj
 obtain⟨b,off,e,h1,h2,h3,h4⟩:=h j hj
 have hb:w'.heap[b]?=w.heap[b]?:=hg.block b h1 (fun e2=>hne b off e e2.symm)
 have hc:∀ i,w'.cell? ⟨b,i,none⟩=w.cell? ⟨b,i,none⟩:=fun i=>by simp only [World.cell?,hb]
 exact⟨b,off,e,Nat.lt_of_lt_of_le h1 hg.size,by rw [hc];exact h2,by rw [hc];exact h3,by rw [hc];exact h4⟩
def cellsI (x:InstT) (a:Option Addr) (n c:Nat):List Value:=[.int .u16 x.1,.int .u32 x.2.1,.int .u32 x.2.2.1,.slice a n c]
def EachW (w:World) (lo:Nat) (ob:Option Nat) (l:List InstT) (cs:List Value):Prop :=
 cs.length=l.length * 4∧∀ j,j<l.length→∃ aj cj nj,cs[j * 4]?=some (.int .u16 (nthI l j).1)∧cs[j * 4+1]?=some (.int .u32 (nthI l j).2.1)∧cs[j * 4+2]?=some (.int .u32 (nthI l j).2.2.1)∧cs[j * 4+3]?=some (.slice aj nj cj)∧(nthI l j).2.2.2.length=nj∧ArgsV w aj (nthI l j).2.2.2∧nj≤cj∧∀ b off,aj=some ⟨b,off,none⟩→lo≤b∧b<w.heap.size∧ob≠some b
theorem eachW_nil (w:World) (lo:Nat) (ob:Option Nat):EachW w lo ob [] []:=⟨rfl,fun j hj=>by simp at hj⟩
theorem EachW.below {w w':World} {lo:Nat} {ob:Option Nat} {l:List InstT} {cs:List Value} (h:EachW w lo ob l cs) (hb:Below w.heap.size w w'):EachW w' lo ob l cs:=by
 refine⟨h.1,fun j hj=>?_⟩
 obtain⟨aj,cj,nj,c0,c1,c2,c3,c4,c5,c6,c7⟩:=h.2 j hj
 exact⟨aj,cj,nj,c0,c1,c2,c3,c4,c5.below hb,c6,fun b off e=>⟨(c7 b off e).1,Nat.lt_of_lt_of_le (c7 b off e).2.1 hb.size,(c7 b off e).2.2⟩⟩
theorem EachW.set {w:World} {lo:Nat} {ob:Option Nat} {l:List InstT} {cs:List Value} (h:EachW w lo ob l cs) {b:Nat} (hb:b<lo) (i:Nat) (u:Value):EachW (w.setCell ⟨b,i,none⟩ u) lo ob l cs:=by
 refine⟨h.1,fun j hj=>?_⟩
 obtain⟨aj,cj,nj,c0,c1,c2,c3,c4,c5,c6,c7⟩:=h.2 j hj
 exact⟨aj,cj,nj,c0,c1,c2,c3,c4,c5.setCell (fun b' off' e h2=>by have:=(c7 b' off' e).1;omega) u,c6,fun b' off' e=>⟨(c7 b' off' e).1,by rw [World.size_setCell];exact (c7 b' off' e).2.1,(c7 b' off' e).2.2⟩⟩
theorem nthI_snocW (l:List InstT) (x:InstT) (j:Nat) (hj:j<l.length):nthI (l++[x]) j=nthI l j:=by simp [nthI,List.getD,List.getElem?_append_left hj]
theorem nthI_lastW (l:List InstT) (x:InstT):nthI (l++[x]) l.length=x:=by simp [nthI,List.getD]
theorem EachW.push {w w':World} {lo:Nat} {ob:Option Nat} {g':Nat} {l:List InstT} {cs:List Value} {x:InstT} {a:Option Addr} {n c:Nat} (h:EachW w lo ob l cs) (hv:∀ b,ob=some b→b<w.heap.size) (ha:ArgsV w a x.2.2.2) (hl:x.2.2.2.length=n) (hc:n≤c) (hb:∀ b off,a=some ⟨b,off,none⟩→lo≤b∧b<w.heap.size∧ob≠some b)
  (hg:w.grownBy w' ob) (hat:ob=some g'∨g'=w.heap.size):EachW w' lo (some g') (l++[x]) (cs++cellsI x a n c):=by
 obtain⟨h1,h2⟩:=h
 have far:∀ b,b<w.heap.size→ob≠some b→some g'≠some b:=fun b hb1 hb2 e=>by
  cases e
  rcases hat with h | h
  ·exact hb2 h
  ·omega
 refine⟨by simp [cellsI,h1];omega,fun j hj=>?_⟩
 rw [List.length_append,List.length_singleton] at hj
 by_cases hjl:j<l.length
 ·rw [nthI_snocW l x j hjl]
  obtain⟨aj,cj,nj,c0,c1,c2,c3,c4,c5,c6,c7⟩:=h2 j hjl
  have e:∀ i,i<cs.length→(cs++cellsI x a n c)[i]?=cs[i]?:=fun i hi=>List.getElem?_append_left hi
  refine⟨aj,cj,nj,by rw [e _ (by omega)];exact c0,by rw [e _ (by omega)];exact c1,by rw [e _ (by omega)];exact c2,by rw [e _ (by omega)];exact c3,c4,c5.grownW hg (fun b off e=>(c7 b off e).2.2),c6,fun b off e=>⟨(c7 b off e).1,Nat.lt_of_lt_of_le (c7 b off e).2.1 hg.size,far b (c7 b off e).2.1 (c7 b off e).2.2⟩⟩
 ·obtain rfl:j=l.length:=by omega
  rw [nthI_lastW]
  have e:∀ i,(cs++cellsI x a n c)[l.length * 4+i]?=(cellsI x a n c)[i]?:=fun i=>by
   rw [List.getElem?_append_right (by omega)];congr 1;omega
  refine⟨a,c,n,by have h0:=e 0;rw [Nat.add_zero] at h0;rw [h0];rfl,by rw [e 1];rfl,by rw [e 2];rfl,by rw [e 3];rfl,hl,ha.grownW hg (fun b off e=>(hb b off e).2.2),hc,fun b off e=>⟨(hb b off e).1,Nat.lt_of_lt_of_le (hb b off e).2.1 hg.size,far b (hb b off e).2.1 (hb b off e).2.2⟩⟩
theorem EachW.view {w:World} {lo lo' T n c:Nat} {a:Option Addr} {l:List InstT} {cs:List Value} (h:EachW w lo' (Value.ownBlock (.slice a n c)) l cs) (ho:w.ownsRow lo T 4 (.slice a n c) n cs) (hl:l.length=n):InstsV w a l:=by
 intro j hj
 obtain⟨aj,cj,nj,c0,c1,c2,c3,c4,c5,c6,c7⟩:=h.2 j hj
 rcases ho.2 with ⟨_,h0⟩ | ⟨g,cap',cur,hv,_,hg,_⟩
 ·omega
 ·cases hv
  have hl4:=h.1
  have e:=fun i (hi:i<n * 4)=>ho.cellAt i hi
  refine⟨g,0,aj,cj,nj,rfl,(Array.getElem?_eq_some_iff.1 hg).1,?_,?_,?_,?_,c4,c5,c6⟩
  ·rw [Nat.zero_add,e _ (by omega)];exact c0
  ·rw [Nat.zero_add,e _ (by omega)];exact c1
  ·rw [Nat.zero_add,e _ (by omega)];exact c2
  ·rw [Nat.zero_add,e _ (by omega)];exact c3
end Go.Proofs.YtoebhgpciinkgaaGreatDoor
namespace Go.Proofs.YtoebhgpciinkgaaGreatDoor
open Go.RowKit Go.Maps
set_option linter.unusedVariables false
set_option linter.unusedSimpArgs false
set_option maxRecDepth 10000
theorem sm10_tab:TabK (tyTab sm10):=by
 have h0:(idsE 9 sm10).1=0:=by decide +kernel
 have h:=ops_all sm10_ok h0
 exact tab_fits h.2 sm10_ok h0 h.1 sm10.length (Nat.le_refl _) (fun i hi=>by
  have:i=0∨i=1∨i=2:=by simp [sm10] at hi;omega
  rcases this with rfl | rfl | rfl <;> decide +kernel)
def SmQ (w w':World) (e:Ending):Prop:=∃ g c,e=.returned (modV 0 9 (some ⟨g,0,none⟩) 3 c)∧InstsV w' (some ⟨g,0,none⟩) sm10∧Below w.heap.size w w'
set_option maxHeartbeats 8000000 in
theorem awake10_of (hS:∀ w,Calls Tryz.prog 51 #[] w fun e w'=>SmQ w w' e) (w:World) (h10:TenP w):Calls Tryz.prog 20 #[] w fun e w'=>e=.returned (.bool true)∧Below w.heap.size w w':=by
 have hO:=hS w
 have hN:=fun wx g c (hv:InstsV wx (some ⟨g,0,none⟩) sm10) (hx:Below w.heap.size w wx)=>typesNew_any 0 9 (some ⟨g,0,none⟩) 3 c sm10 wx hv sm10_ok rfl (by decide) (by decide) (by decide) (by decide) (by decide) (h10.below hx)
 have HT:=hide h10
 clear h10
 go_enter Tryz.func20,Tryz.ntmps20
 go_wp2_with fail
 refine hO.mono ?_
 rintro e w1 ⟨g1,c1,rfl,hv1,hb1⟩
 have hC:=hN w1 g1 c1 hv1 hb1
 clear hO hN hv1 hS
 go_wp2_with fail
 refine hC.mono ?_
 rintro e w2 ⟨pv,rfl,hb2,hd⟩
 clear hC
 rw [sm10_E] at hd ⊢
 simp only at hd ⊢
 rcases hd with ⟨h,_⟩ | ⟨_,p,rfl,hTab⟩
 ·exact absurd rfl h
 have hB2:=hb1.trans (hb2.mono hb1.size)
 obtain⟨mb,n,ov,f,hT⟩:=hTab
 have hTx:=fun wx (hx:Below w2.heap.size w2 wx)=>tyText_any 2 wx (hT.below hx) sm10_tab ((HT.out.below hB2).below hx) (by decide) (by decide)
 have hPt:=fun wx (hx:Below w2.heap.size w2 wx)=>tyPart_any 2 2 wx (hT.below hx) sm10_tab (by decide) (by decide)
 have hId:=fun wx (hx:Below w2.heap.size w2 wx)=>tyIds_any wx (hT.below hx) (by rw [sm10_len];decide)
 have hKd:=fun wx (hx:Below w2.heap.size w2 wx)=>tyKind_any 1 wx (hT.below hx) (by decide) (by decide)
 have hSg:=fun wx (hx:Below w2.heap.size w2 wx)=>tySigned_any 1 wx (hT.below hx) (by decide) (by decide)
 have hSz:=fun wx (hx:Below w2.heap.size w2 wx)=>tySize_any 2 wx (hT.below hx) (by decide) (by decide)
 simp only [sm10_text,sm10_part,sm10_len,sm10_kind,sm10_signed,sm10_size] at hTx hPt hId hKd hSg hSz
 have hsp:=(Below.refl w2.heap.size w2).alloc (Nat.le_refl _) (.cells #[.int .i64 0,.int .i64 0] 30)
 have hN0:=one_block (heap_alloc_new w2 (.cells #[.int .i64 0,.int .i64 0] 30))
 have hlt:w2.heap.size<(w2.alloc (.cells #[.int .i64 0,.int .i64 0] 30)).heap.size:=by simp
 have HX:=hide hTx
 have HP:=hide hPt
 have HI:=hide hId
 have HK:=hide hKd
 have HG:=hide hSg
 have HZ:=hide hSz
 have HSP:=hide hsp
 have HB2:=hide hB2
 have HLT:Hid (w2.heap.size<(w2.alloc (.cells #[.int .i64 0,.int .i64 0] 30)).heap.size):=hlt
 have d0:=hN0.1 0
 have hX1:=hTx _ hsp
 clear hTx hPt hId hKd hSg hSz hsp hN0 hlt hB2 hT HT hb1 hb2
 go_wp2_with fail
 refine hX1.mono ?_
 rintro e w3 ⟨rfl,hb3⟩
 have d3:=(hb3.cell (p:=⟨w2.heap.size,0,none⟩) HLT.out).trans d0
 have hc3:=HSP.out.trans (hb3.mono HSP.out.size)
 have hP1:=HP.out _ hc3
 have HC3:=hide hc3
 clear hX1 hb3 hc3 HP HX
 go_wp2_with fail
 refine hP1.mono ?_
 rintro e w4 ⟨rfl,hb4⟩
 have hl3:w2.heap.size<w3.heap.size:=World.block_lt_of_cell? _ _ d3
 have d4:=(hb4.cell (p:=⟨w2.heap.size,0,none⟩) hl3).trans d3
 have hc4:=HC3.out.trans (hb4.mono HC3.out.size)
 have hI1:=HI.out _ hc4
 have HC4:=hide hc4
 clear hP1 hb4 hc4 HI d3 d0
 go_wp2_with fail
 refine hI1.mono ?_
 rintro e w5 ⟨⟨v,rfl,hv⟩,hb5⟩
 have hc5:=HC4.out.trans (hb5.mono HC4.out.size)
 have hK1:=HK.out _ hc5
 have HC5:=hide hc5
 rcases hv.2 with ⟨_,e2⟩ | ⟨g,cap,cur,rfl,_⟩
 ·exact absurd e2 (by decide)
 clear hI1 hb5 hc5 HK hv
 go_wp2_with fail
 refine hK1.mono ?_
 rintro e w6 ⟨rfl,hb6⟩
 have hc6:=HC5.out.trans (hb6.mono HC5.out.size)
 have hG1:=HG.out _ hc6
 have HC6:=hide hc6
 clear hK1 hb6 hc6 HG
 go_wp2_with fail
 refine hG1.mono ?_
 rintro e w7 ⟨rfl,hb7⟩
 have hc7:=HC6.out.trans (hb7.mono HC6.out.size)
 have hZ1:=HZ.out _ hc7
 have HC7:=hide hc7
 clear hG1 hb7 hc7 HZ
 go_wp2_with fail
 refine hZ1.mono ?_
 rintro e w8 ⟨rfl,hb8⟩
 have hc8:=HC7.out.trans (hb8.mono HC7.out.size)
 have HC8:=hide (HB2.out.trans (hc8.mono HB2.out.size))
 clear hZ1 hb8 hc8
 go_wp2_with fail
 go_returns
 exact⟨rfl,HC8.out⟩
end Go.Proofs.YtoebhgpciinkgaaGreatDoor
