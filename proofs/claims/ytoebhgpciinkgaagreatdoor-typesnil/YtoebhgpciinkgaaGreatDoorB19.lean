/-
  Texts in one: TypesIsNew, TypesAdd, TypesTake0.
-/
import Derived.Test.YtoebhgpciinkgaaGreatDoorB18
import Derived.BigFrame
import Derived.Laws.IdiomStrings
namespace Go.Proofs.YtoebhgpciinkgaaGreatDoor
open Go.RowKit Go.Maps
set_option linter.unusedVariables false
set_option linter.unusedSimpArgs false
set_option maxRecDepth 10000
theorem TabB.mono {w:World} {B p mb n n':Nat} {t:List TyR} {ov:Value} {f:Int→Value} (h:TabB w B p mb n t ov f) (hn:n≤n'):TabB w B p mb n' t ov f:=⟨h.blk,h.map.mono hn,h.ents,h.order,h.pB,h.mB,h.apart⟩
theorem BdB.mono {w:World} {B q p mb nb kb n:Nat} {t:List TyR} {nf:Int→Option Int} {kf:List UInt8→Bool} {ov:Value} {f:Int→Value} {n':Nat} (h:BdB w B q p mb nb kb n t nf kf ov f) (hn:n≤n'):BdB w B q p mb nb kb n' t nf kf ov f:=⟨h.tab.mono hn,h.blk,h.nums.mono hn,h.keys.mono hn,h.apart,h.low⟩
theorem View.map_put {k:IntKind} {w w':World} {a:Option Addr} {zs:List Int} {b:Nat} (h:View k w a zs) (hg:w.grownBy w' (some b)) (hm:∃ es ck,w.heap[b]?=some (.map es ck)):View k w' a zs:=by
 intro j hj
 obtain⟨b2,off,e,hlt,hc⟩:=h j hj
 obtain⟨es,ck,hm⟩:=hm
 have hne:b2≠b:=fun e=>by subst e;simp [World.cell?,hm] at hc
 refine⟨b2,off,e,Nat.lt_of_lt_of_le hlt hg.size,?_⟩
 have:=hg.block b2 hlt (fun e=>hne (Option.some.inj e))
 simp only [World.cell?,this] at hc ⊢
 exact hc
theorem own_map {w w':World} {B e size n:Nat} {v:Value} {xs:List Value} {b:Nat} (h:w.ownsRow B e size v n xs) (hg:w.grownBy w' (some b)) (hm:∃ es ck,w.heap[b]?=some (.map es ck)):w'.ownsRow B e size v n xs:=by
 obtain⟨es,ck,hm⟩:=hm
 refine own_grown h hg (fun g e2 e3=>?_)
 cases e2
 rcases h.2 with ⟨e4,_⟩ | ⟨g,cap,cur,e4,_,hb,_⟩
 ·rw [e4] at e3;cases e3
 ·rw [e4] at e3
  have:g=b:=by simpa [Value.ownBlock] using e3
  subst this
  rw [hm] at hb;cases hb
theorem TabB.map_put {w w':World} {B p mb n b:Nat} {t:List TyR} {ov:Value} {f:Int→Value} (h:TabB w B p mb n t ov f) (hg:w.grownBy w' (some b)) (hm:∃ es ck,w.heap[b]?=some (.map es ck)) (hne:b≠mb):TabB w' B p mb n t ov f:=by
 have hpb:p≠b:=fun e=>by obtain⟨es,ck,hm⟩:=hm;rw [← e,h.blk] at hm;cases hm
 refine⟨(hg.block p h.plt (fun e=>hpb (Option.some.inj e))).trans h.blk,h.map.block (hg.block mb h.map.lt (fun e=>hne (Option.some.inj e).symm)),fun id=>?_,own_map h.order hg hm,h.pB,h.mB,h.apart⟩
 obtain⟨a,c,e,hv,hc,hB⟩:=h.ents id
 exact⟨a,c,e,hv.map_put hg hm,hc,hB⟩
theorem MapU.other {w w':World} {E:TypeId} {q:IntKind} {b n g:Nat} {f:Int→Option Int} (h:MapU w E q b n f) (hg:w.grownBy w' (some g)) (hne:g≠b):MapU w' E q b n f:=h.block (hg.block b h.lt (fun e=>hne (Option.some.inj e).symm))
theorem MapS.other {w w':World} {b n g:Nat} {f:List UInt8→Bool} (h:MapS w b n f) (hg:w.grownBy w' (some g)) (hne:g≠b):MapS w' b n f:=h.block (hg.block b h.lt (fun e=>hne (Option.some.inj e).symm))
theorem measTn {k n:Nat} (h:k<n):n - (intOf (.int .i64 ((k:Int)+1))).toNat<n - (intOf (.int .i64 (k:Int))).toNat:=by simp [intOf];omega
theorem wf_u32T {x:Int} (h0:0≤x) (h1:x<4294967296):(Lit.int .u32 x).wf=true:=by simp [Lit.wf,show IntKind.u32.min=0 from rfl,show IntKind.u32.max=4294967295 from rfl];omega
theorem U8T.info:(Tryz.prog.info? 5).map (fun i=>(i.zero,i.size,i.bytes))=some (some (.int .u8 0),1,1):=by kernel_rfl
theorem keyK_take (op:Int) (ns:List Int) (k:Nat) (h:k<ns.length):keyK op (ns.take (k+1))=keyK op (ns.take k)++numK (nth ns k):=by
 unfold keyK
 rw [List.take_add_one,List.getElem?_eq_getElem h,List.flatMap_append,List.append_assoc]
 simp [nth,List.getD,h]
theorem keyK_len {op:Int} (ho:op<65536):∀ {ns:List Int},(∀ n∈ns,n<4294967296)→(keyK op ns).length≤11 * ns.length+5
 | ns,h=>by
  unfold keyK
  rw [List.length_append]
  have h1:=dec_len 4 op.toNat (by omega)
  have h2:(ns.flatMap numK).length≤11 * ns.length:=by
   induction ns with
   | nil=>simp
   | cons n ns ih =>
    rw [List.flatMap_cons,List.length_append,List.length_cons]
    have:=numK_len (h n (by simp))
    have:=ih (fun m hm=>h m (by simp [hm]))
    omega
  omega
theorem row_text {w:World} {B n:Nat} {v:Value} {l:List UInt8} (h:w.ownsRow B 5 1 v n (Lib.byteCells l)):(convert 142 9 v).run Tryz.prog w=.ok (.string ⟨l.toArray⟩) w:=by
 have hl:l.length=n:=by have:=h.1;unfold Lib.byteCells at this;simpa using this
 rcases h.2 with ⟨e,e2⟩ | ⟨g,cap,cur,e,_,hb,_,_,_,ht⟩
 ·subst e
  have:l=[]:=List.length_eq_zero_iff.1 (by omega)
  subst this
  exact run_convert_bytes_nil w _ _ Tryz.underlying142 Tryz.underlying5 _ _ _ Tryz.underlying9
 ·subst e
  rw [← hl]
  refine run_convert_bytes_back w _ _ 5 ⟨g,0,none⟩ cap l Tryz.underlying142 Tryz.underlying5 Tryz.underlying9 (fun j hj=>?_)
  have hc:=h.cellAt j (by omega)
  have e:(⟨g,0,none⟩:Addr).add j=⟨g,j,none⟩:=by unfold Addr.add;split <;> simp_all
  rw [e,hc]
  unfold Lib.byteCells
  simp [hj]
def KeyR (w:World) (B:Nat) (v:Value) (l:List UInt8):Prop:=w.ownsRow B 5 1 v l.length (Lib.byteCells l)
theorem KeyR.app {w':World} {B:Nat} {v':Value} {l m:List UInt8} (h:w'.ownsRow B 5 1 v' (l.length+m.length) (Lib.byteCells l++Lib.byteCells m)):KeyR w' B v' (l++m):=by
 unfold KeyR
 rw [List.length_append]
 have e:Lib.byteCells (l++m)=Lib.byteCells l++Lib.byteCells m:=by unfold Lib.byteCells;rw [List.map_append]
 rw [e];exact h
set_option maxHeartbeats 8000000 in
theorem isNew_any {B q p mb nb kb n:Nat} {t:List TyR} {nf:Int→Option Int} {kf:List UInt8→Bool} {ov:Value} {f:Int→Value} (x:InstT) (ax:Option Addr) (na cx:Nat) (w:World) (hB:BdB w B q p mb nb kb n t nf kf ov f) (hv:ArgsV w ax x.2.2.2) (hl:x.2.2.2.length=na) (hok:InstOk x) (hfew:na<65536) (hn:n<4194304) (ht:TenP w) (hBw:B≤w.heap.size) :
  Calls Tryz.prog 73 #[.pointer (some ⟨q,0,none⟩),instV x ax na cx] w fun e w'=>e=.returned (.bool (!kf (keyL x)))∧BdB w' B q p mb nb kb (n+1) t nf (fun s=>kf s || decide (s=keyL x)) ov f∧Below B w w'∧(∀ k,k<w.heap.size→k≠kb→w'.heap[k]?=w.heap[k]?):=by
 obtain⟨op,ty,res,l⟩:=x
 obtain⟨o0,o1,_,_,r0,r1,hargs,_⟩:=hok
 simp only at o0 o1 r0 r1 hargs hv hl
 obtain⟨i0,hi,hz0,hz1,hz2⟩:=info_parts U8T.info
 have HI:=hide (And.intro hi (And.intro hz0 (And.intro hz1 hz2)))
 have hb1:Below w.heap.size w (w.alloc (.cells #[.int .u16 op,.int .u32 ty,.int .u32 res,.slice ax na cx] 71)):=(Below.refl _ w).alloc (Nat.le_refl _) _
 have hbx:=one_block (heap_alloc_new w (.cells #[.int .u16 op,.int .u32 ty,.int .u32 res,.slice ax na cx] 71))
 have hlx:(w.alloc (.cells #[.int .u16 op,.int .u32 ty,.int .u32 res,.slice ax na cx] 71)).heap.size=w.heap.size+1:=by simp
 have c2:(w.alloc (.cells #[.int .u16 op,.int .u32 ty,.int .u32 res,.slice ax na cx] 71)).cell? ⟨w.heap.size,2,none⟩=some (.int .u32 res):=hbx.1 2
 have c3:(w.alloc (.cells #[.int .u16 op,.int .u32 ty,.int .u32 res,.slice ax na cx] 71)).cell? ⟨w.heap.size,3,none⟩=some (.slice ax na cx):=hbx.1 3
 obtain⟨on,rfl⟩:=Int.eq_ofNat_of_zero_le o0
 have hA0:=fun wx (hx:TenP wx) (hs:(w.alloc (.cells #[.int .u16 (on:Int),.int .u32 ty,.int .u32 res,.slice ax na cx] 71)).heap.size≤wx.heap.size)=>appendUint_any (w.alloc (.cells #[.int .u16 (on:Int),.int .u32 ty,.int .u32 res,.slice ax na cx] 71)).heap.size 0 on (by omega) (.slice none 0 0) [] wx (World.ownsRow_nil wx _ _ _) hs (by omega) hx
 have hcv0:IntKind.u64.wrap (on:Int)=(on:Int):=by rw [IntKind.wrap_u64];omega
 have HA0:=hide (hA0 _ (ht.below hb1) (Nat.le_refl _))
 have HN:Hid (∀ k,k<na→0≤nth (l.map (·.2.1)) k∧nth (l.map (·.2.1)) k<4294967296∧nth (l.map (·.2.1)) k=(nthA l k).2.1):=fun k hk=>by
  have h1:=hargs k (by omega)
  have e:nth (l.map (·.2.1)) k=(nthA l k).2.1:=by rw [nthA_lt _ _ (by omega)];simp [nth,List.getD,show k<l.length by omega]
  rw [e];exact⟨h1.2.2.1,h1.2.2.2.1,rfl⟩
 have HKT:Hid (∀ k,k<na→keyK (on:Int) ((l.map (·.2.1)).take (k+1))=keyK (on:Int) ((l.map (·.2.1)).take k)++numK (nth (l.map (·.2.1)) k)):=fun k hk=>keyK_take _ _ k (by rw [List.length_map];omega)
 have HKL:Hid (∀ k,k≤na→(keyK (on:Int) ((l.map (·.2.1)).take k)).length≤720896):=fun k hk=>by
  have h1:=keyK_len (op:=(on:Int)) o1 (ns:=(l.map (·.2.1)).take k) (fun m hm=>by
   obtain⟨a,ha,rfl⟩:=List.mem_map.1 (List.mem_of_mem_take hm)
   obtain⟨j,hj,rfl⟩:=List.mem_iff_getElem.1 ha
   have:=(hargs j hj).2.2.2.1
   rw [nthA_lt _ _ hj] at this
   exact this)
  rw [List.length_take,List.length_map] at h1
  omega
 have HKE:Hid (keyK (on:Int) ((l.map (·.2.1)).take na)=keyL ((on:Int),ty,res,l)):=by
  show _=keyK (on:Int) (l.map (·.2.1))
  rw [List.take_of_length_le (by rw [List.length_map];omega)]
 have HK0:Hid (keyK (on:Int) ((l.map (·.2.1)).take 0)=Lib.decDigits on):=by
  show Lib.decDigits on++[]=_
  rw [List.append_nil]
 have HV:=hide (hv.below hb1)
 have HLN:=hide hl
 have HT1:=hide (ht.below hb1)
 have HB:=hide hB
 have HB1:=hide hb1
 have HLX:=hide hlx
 have HC2:=hide c2
 have HBW:=hide hBw
 have hnai:(na:Int)≤65535:=by omega
 unfold instV
 simp only
 generalize keyL ((on:Int),ty,res,l)=KEY at *
 clear hB hv hl hargs ht hb1 hbx hlx hA0 hi hz0 hz1 hz2 o0 o1 hfew c2 hBw
 go_enter Tryz.func73,Tryz.ntmps73
 go_wp2_with (go_at_call 100;refine HA0.out.mono ?_;rintro e w1 ⟨v1,rfl,hown1,hb1,_⟩;have c3':=(hb1.cell (p:=⟨w.heap.size,3,none⟩) (by have:=HLX.out;show w.heap.size<_;omega)).trans c3)
 generalize (w.alloc (.cells #[.int .u16 (on:Int),.int .u32 ty,.int .u32 res,.slice ax na cx] 71))=W at *
 have HW1:=hide hb1
 have HO1:Hid (KeyR w1 W.heap.size v1 (keyK (on:Int) ((l.map (·.2.1)).take 0))):=by
  rw [HK0.out]
  have h:=hown1
  rw [Nat.zero_add,List.nil_append] at h
  exact h
 clear hown1 hb1 c3 c3' hcv0 HA0
 go_loopw [5,17] (fun v i wr=>∃ k:Nat,k≤na∧i=.int .i64 k∧KeyR wr W.heap.size v (keyK (on:Int) ((l.map (·.2.1)).take k))∧Below W.heap.size W wr) (fun _ i _=>na - (intOf i).toNat)
 case atStart=>exact⟨0,Nat.zero_le _,rfl,HO1.out,HW1.out⟩
 case round =>
  obtain⟨k,hk,rfl,hown,hbr⟩:=hrel
  have HBR:=hide hbr
  have HOW:=hide hown
  by_cases hlt:k<na
  ·obtain⟨b,off,rfl,hb,d0,d1,d2⟩:=HV.out k (by rw [HLN.out];exact hlt)
   obtain⟨z0,z1,z2⟩:=HN.out k hlt
   have hbl:b<W.heap.size:=hb
   have d0':=(hbr.cell (p:=⟨b,off+k * 3,none⟩) hbl).trans d0
   have d1':=(hbr.cell (p:=⟨b,off+k * 3+1,none⟩) hbl).trans d1
   have d2':=(hbr.cell (p:=⟨b,off+k * 3+2,none⟩) hbl).trans d2
   rw [← z2] at d1'
   have HKS:=hide (HKT.out k hlt)
   have HKN:=hide (HKL.out k (by omega))
   have hki:(k:Int)<(na:Int):=by omega
   have hk0:(0:Int)≤(k:Int):=by omega
   have HLT:=hide hlt
   obtain⟨xn,hxn⟩:=Int.eq_ofNat_of_zero_le z0
   have HXN:Hid ((xn:Int)<4294967296):=by show _<_;rw [← hxn];exact z1
   rw [hxn] at HKS d1'
   have hcv:IntKind.u64.wrap (xn:Int)=(xn:Int):=by have:=HXN.out;rw [IntKind.wrap_u64];omega
   have HSW:Hid (w.heap.size+1≤wr.heap.size):=by show _≤_;rw [← HLX.out];exact hbr.size
   have hbA:Below wr.heap.size wr (wr.alloc (.cells #[.int .u8 (nthA l k).1,.int .u32 (xn:Int),.string (nthA l k).2.2] 87)):=(Below.refl _ wr).alloc (Nat.le_refl _) _
   have HG:Hid ((wr.alloc (.cells #[.int .u8 (nthA l k).1,.int .u32 (xn:Int),.string (nthA l k).2.2] 87)).drew.heap[wr.heap.size]?=some (.cells #[.int .u8 (nthA l k).1,.int .u32 (xn:Int),.string (nthA l k).2.2] 87 (0,0))):=heap_alloc_new wr _
   have HSR:Hid (W.heap.size≤wr.heap.size):=hbr.size
   have HTR:=hide (HT1.out.below hbr)
   generalize (nthA l k).1=y0 at *
   generalize (nthA l k).2.2=y2 at *
   generalize hK0:keyK (on:Int) ((l.map (·.2.1)).take k)=K0 at *
   have HKN0:Hid (K0.length+11≤720910):=by show _≤_;have h1:=HKN.out;have h2:=HKL.out k hk;rw [hK0] at h2;omega
   have HKS2:Hid (keyK (on:Int) ((l.map (·.2.1)).take (k+1))=K0++32 :: Lib.decDigits xn):=HKS.out
   clear hlt hbr d0 d1 d2 hb z0 z1 z2 hxn hbA hK0 HKS HKN hown
   go_wp2_with fail
   have hmix:Tryz.prog.follows .mixedOrders=true:=by kernel_rfl
   refine (wpIn_wide (n:=0)).1 ?_
   refine wpIn_normal (wpIn_region_any hmix (wpAnyE_sound (C:=fun w':World=>w'.heap[wr.heap.size]?=some (.cells #[.int .u8 y0,.int .u32 (xn:Int),.string y2] 87 (0,0))) (E:=fun _=>false) _ _ _ _ ?_))
   change wpAnyE _ _ _ _ _ _ _ _ _ _ _ (World.drew _)
   have hC0:=HG.out
   refine wpAnyE_takeD (i:=0) (some 21) (v:=u5) (fun _=>trivial) (by kernel_rfl) rfl rfl (by kernel_rfl) (by kernel_rfl) (by kernel_rfl) (by kernel_rfl) (fun _ _ _ h=>by cases h.1) hC0 (Or.inl ⟨by rfl,fun w' hC=>by clear hC;go_simp⟩) ?_
   simp only [Act.put,ap1,ap2,ap3]
   refine wpAnyE_takeD (i:=3) (some 24) (v:=.pointer (some ⟨wr.heap.size,1,none⟩)) (fun _=>trivial) (by kernel_rfl) rfl rfl (by kernel_rfl) (by kernel_rfl) (by kernel_rfl) (by kernel_rfl) (fun _ _ _ h=>by cases h.1) hC0 (Or.inl ⟨by rfl,fun w' hC=>by clear hC;go_simp⟩) ?_
   simp only [Act.put,ap1,ap2,ap3]
   refine wpAnyE_takeD (i:=4) (some 25) (v:=.int .u32 (xn:Int)) (fun _=>trivial) (by kernel_rfl) rfl rfl (by kernel_rfl) (by kernel_rfl) (by kernel_rfl) (by kernel_rfl) (fun _ _ _ h=>by cases h.1) hC0 (Or.inl ⟨by rfl,fun w' hC=>by have e1:=(one_block hC).1 1;clear hC;go_simp⟩) ?_
   simp only [Act.put,ap1,ap2,ap3]
   refine wpAnyE_takeD (i:=5) (some 26) (v:=.int .u64 (xn:Int)) (fun _=>trivial) (by kernel_rfl) rfl rfl (by kernel_rfl) (by kernel_rfl) (by kernel_rfl) (by kernel_rfl) (fun _ _ _ h=>by cases h.1) hC0 (Or.inl ⟨by rfl,fun w' hC=>by clear hC;go_simp⟩) ?_
   simp only [Act.put,ap1,ap2,ap3]
   refine wpAnyE_ready (rs:=[1]) (by kernel_rfl) (by simp) ?_
   refine AllE.cons rfl (fun K hK=>?_) AllE.nil
   go_simp
   generalize hWA:((wr.alloc (.cells #[.int .u8 y0,.int .u32 (xn:Int),.string y2] 87)).alloc (.cells #[.int .u8 32] 5)).drew=WA at *
   have hsA:WA.heap.size=wr.heap.size+2:=by rw [← hWA];show ((wr.alloc _).alloc _).heap.size=_;simp
   have hbWA:Below wr.heap.size wr WA:=by rw [← hWA];exact (((Below.refl _ wr).alloc (Nat.le_refl _) _).alloc (by simp) _).drew
   have hN32:WA.heap[wr.heap.size+1]?=some (.cells #[.int .u8 32] 5 (0,0)):=by
    rw [← hWA]
    have:=heap_alloc_new (wr.alloc (.cells #[.int .u8 y0,.int .u32 (xn:Int),.string y2] 87)) (.cells #[.int .u8 32] 5)
    rw [World.size_alloc] at this
    exact this
   have hC1:WA.heap[wr.heap.size]?=some (.cells #[.int .u8 y0,.int .u32 (xn:Int),.string y2] 87 (0,0)):=by
    rw [← hWA]
    exact (Below.heap_alloc _ _ _ (by simp)).trans (heap_alloc_new wr _)
   refine hK _ _ (.inr hC1) ?_
   clear hK K
   try simp only [Act.put,ap1,ap2,ap3]
   have hOB:=own_below HOW.out hbWA
   refine wpAnyE_ready (rs:=[2]) (by kernel_rfl) (by simp) ?_
   refine AllE.cons rfl (fun K hK=>?_) AllE.nil
   refine stepAny_lies _ (fun _=>trivial) rfl (.tmp 21) (.tmp 22) 142 rfl W.heap.size 5 i0 (.int .u8 0) 1 1 Tryz.underlying142 HI.out.1 HI.out.2.1 HI.out.2.2.1 HI.out.2.2.2 rfl (by decide) u5 K0.length (Lib.byteCells K0) rfl hOB ⟨wr.heap.size+1,0,none⟩ 1 1 [.int .u8 32] rfl rfl (World.news_of_block (cs:=#[.int .u8 32]) (t:=5) (fr:=(0,0)) hN32) (by simp [Value.oneCell']) (by decide) (by unfold maxLen;have:=HKN0.out;omega) (by have:=HKN0.out;omega) (by have:=HSR.out;omega) ?_
   intro g7 cap7 w7 hown7 hgr7 hat7
   have hvk:∀ g,u5.ownBlock=some g→W.heap.size≤g∧g<wr.heap.size:=fun g e=>HOW.out.lt g e
   have hC7:=(hgr7.block wr.heap.size (by omega) (fun e=>by have:=(hvk _ e.symm).2;omega)).trans hC1
   have hb7:Below W.heap.size W w7:=(HBR.out.trans (hbWA.mono HSR.out)).grown hgr7 (by have:=HSR.out;omega) (fun g e=>(hvk g e).1)
   refine hK _ _ (.inr hC7) ?_
   clear hK K
   have HA7:=hide (appendUint_any W.heap.size (K0.length+1) xn (by have:=HXN.out;omega) _ (Lib.byteCells K0++[.int .u8 32]) w7 hown7 hb7.size (by have:=HKN0.out;omega) (HT1.out.below hb7))
   have HGL:=hide (Array.getElem?_eq_some_iff.1 hC7).1
   clear hown7 hat7 hOB hC1 hC0 hbWA hsA hWA hN32
   refine wpAnyE_ready (rs:=[6]) (by kernel_rfl) (by simp) ?_
   refine AllE.cons rfl (fun K hK=>?_) AllE.nil
   go_simp
   refine⟨trivial,rfl,(callsIn_wide.2 HA7.out).mono ?_⟩
   rintro e w8 ⟨v8,rfl,hown8,hb8,hok8⟩
   dsimp only
   have hC8:=hok8 wr.heap.size _ hC7 (by simp) (fun c fz e=>by cases e)
   refine hK _ _ (.inr hC8) ?_
   clear hK K
   try simp only [Act.put,ap1,ap2,ap3]
   have HO8:Hid (KeyR w8 W.heap.size v8 (K0++32 :: Lib.decDigits xn)):=by
    have e:Lib.byteCells K0++[Value.int .u8 32]++Lib.byteCells (Lib.decDigits xn)=Lib.byteCells K0++Lib.byteCells (32 :: Lib.decDigits xn):=by
     rw [List.append_assoc];rfl
    refine KeyR.app ?_
    rw [← e,List.length_cons,show K0.length+((Lib.decDigits xn).length+1)=K0.length+1+(Lib.decDigits xn).length by omega]
    exact hown8
   have HB8:=hide (hb7.trans hb8)
   clear hown8 hb8 hok8 hC7 hb7 HA7 HGL hgr7 hvk
   refine wpAnyE_takeD (i:=7) (some 5) (v:=v8) (fun _=>trivial) (by kernel_rfl) rfl rfl (by kernel_rfl) (by kernel_rfl) (by kernel_rfl) (by kernel_rfl) (fun _ _ _ h=>by cases h.1) hC8 (Or.inl ⟨by rfl,fun w' hC=>by clear hC;go_simp⟩) ?_
   simp only [Act.put,ap1,ap2,ap3]
   refine wpAnyE_done (by kernel_rfl) ?_ _
   refine⟨rfl,?_⟩
   go_wp2_with fail
   exact⟨⟨k+1,HLT.out,by go_num,by rw [HKS2.out];exact HO8.out,HB8.out⟩,measTn HLT.out⟩
  ·obtain rfl:k=na:=by omega
   rw [HKE.out] at hown
   have HKEY:Hid (KeyR wr W.heap.size u5 KEY):=hown
   have HKL2:Hid (KEY.length≤720896):=by show _≤_;rw [← HKE.out];exact HKL.out k (Nat.le_refl _)
   have HBD:=hide ((HB.out.below HB1.out).below hbr)
   have HBA:Hid (Below B w wr):=(HB1.out.trans (hbr.mono HB1.out.size)).mono HBW.out
   have c2':=(hbr.cell (p:=⟨w.heap.size,2,none⟩) (by have:=HLX.out;show w.heap.size<_;omega)).trans HC2.out
   have hq:=HBD.out.cells.2.2
   have hcv1:(convert 142 9 u5).run Tryz.prog wr.drew=.ok (.string ⟨KEY.toArray⟩) wr.drew:=row_text (hown.drew)
   have hml:KEY.length≤maxLen:=by have:=HKL2.out;unfold maxLen;omega
   have hkb:MapS wr.drew kb n kf:=HBD.out.keys.block rfl
   obtain⟨cz,hlk⟩:=hkb.look 82 Tryz.underlying82 (Tryz.zeroValue22 _) ⟨KEY.toArray⟩ hml
   have hkk:kf (⟨KEY.toArray⟩:ByteArray).data.toList=kf KEY:=rfl
   rw [hkk] at hlk
   have hbrx:=hbr
   clear hown hbr hlt hkb hkk
   cases hkf:kf KEY with
   | true =>
    rw [hkf] at hlk
    have HFIN:Hid (BdB wr.drew B q p mb nb kb (n+1) t nf (fun s=>kf s || decide (s=KEY)) ov f):=by
     have h:=HBD.out.below (Below.refl _ _).drew
     refine⟨h.tab.mono (Nat.le_succ _),h.blk,h.nums.mono (Nat.le_succ _),?_,h.apart,h.low⟩
     refine (h.keys.mono (Nat.le_succ _)).congr (fun s=>?_)
     by_cases e:s=KEY
     ·rw [e,hkf];simp
     ·simp [e]
    have HP:Hid (∀ k,k<w.heap.size→k≠kb→wr.drew.heap[k]?=w.heap[k]?):=fun k hk _=>(HB1.out.trans (hbrx.mono HB1.out.size)).block k hk
    have HKF:=hide hkf
    clear hkf hbrx
    go_wp2_with fail
    go_region_with (fail)
    all_goals
     go_wp2_with fail
     go_ret
     exact⟨by rw [HKF.out];rfl,HFIN.out,HBA.out.drew,HP.out⟩
   | false =>
    rw [hkf] at hlk
    have hkb2:MapS wr.drew.drew kb n kf:=HBD.out.keys.block rfl
    obtain⟨w9,hrun,hk9,hg9⟩:=hkb2.put 82 Tryz.underlying82 (by unfold maxLen;omega) ⟨KEY.toArray⟩ hml res (wf_u32T r0 r1)
    have hcv2:(convert 142 9 u5).run Tryz.prog wr.drew.drew=.ok (.string ⟨KEY.toArray⟩) wr.drew.drew:=row_text (HKEY.out.drew.drew)
    have HFIN:Hid (BdB w9 B q p mb nb kb (n+1) t nf (fun s=>kf s || decide (s=KEY)) ov f):=by
     have h:=(HBD.out.below (Below.refl _ _).drew).below (Below.refl _ _).drew
     have hm:=h.keys.obj
     have hqb:q≠kb:=fun e=>by obtain⟨es,ck,hm⟩:=hm;rw [← e,h.blk] at hm;cases hm
     exact⟨(h.tab.map_put hg9 hm h.apart.2.2).mono (Nat.le_succ _),(hg9.block q (Array.getElem?_eq_some_iff.1 h.blk).1 (fun e=>hqb (Option.some.inj e))).trans h.blk,(h.nums.other hg9 (fun e=>h.apart.1 e.symm)).mono (Nat.le_succ _),hk9,h.apart,h.low⟩
    have HB9:Hid (Below B w w9):=HBA.out.drew.drew.grown hg9 (Nat.le_trans HBW.out HBA.out.size) (fun g e=>by cases e;exact HB.out.low.2.2)
    have HP:Hid (∀ k,k<w.heap.size→k≠kb→w9.heap[k]?=w.heap[k]?):=fun k hk hne=>(hg9.block k (Nat.lt_of_lt_of_le hk (Nat.le_trans HB1.out.size hbrx.size)) (fun e=>hne (Option.some.inj e))).trans ((HB1.out.trans (hbrx.mono HB1.out.size)).block k hk)
    have HKF:=hide hkf
    clear hkf hbrx hk9 hg9 hkb2
    go_wp2_with fail
    go_region_with (fail)
    all_goals
     go_wp2_with fail
     go_region_with (fail)
     all_goals
      go_wp2_with fail
      go_ret
      exact⟨by rw [HKF.out];rfl,HFIN.out,HB9.out,HP.out⟩
set_option maxHeartbeats 8000000 in
theorem addNumber_any {B q p mb nb kb n:Nat} {t:List TyR} {nf:Int→Option Int} {kf:List UInt8→Bool} {ov:Value} {f:Int→Value} (x:InstT) (ax:Option Addr) (na cx:Nat) (w:World) (hB:BdB w B q p mb nb kb n t nf kf ov f) (hv:ArgsV w ax x.2.2.2) (hl:x.2.2.2.length=na) (hok:InstOk x) (h1:1≤na) (hn:n<4194304) (hBw:B≤w.heap.size) :
  Calls Tryz.prog 69 #[.pointer (some ⟨q,0,none⟩),instV x ax na cx] w fun e w'=>e=.returned (.tuple #[])∧BdB w' B q p mb nb kb (n+1) t (tyNum t nf x) kf ov f∧Below B w w':=by
 obtain⟨op,ty,res,l⟩:=x
 obtain⟨o0,o1,t0,t1,r0,r1,hargs,_⟩:=hok
 simp only at o0 o1 t0 t1 r0 r1 hargs hv hl
 have hb1:Below w.heap.size w (w.alloc (.cells #[.int .u16 op,.int .u32 ty,.int .u32 res,.slice ax na cx] 71)):=(Below.refl _ w).alloc (Nat.le_refl _) _
 have hbx:=one_block (heap_alloc_new w (.cells #[.int .u16 op,.int .u32 ty,.int .u32 res,.slice ax na cx] 71))
 have hlx:w.heap.size<(w.alloc (.cells #[.int .u16 op,.int .u32 ty,.int .u32 res,.slice ax na cx] 71)).heap.size:=by simp
 have c1:(w.alloc (.cells #[.int .u16 op,.int .u32 ty,.int .u32 res,.slice ax na cx] 71)).cell? ⟨w.heap.size,1,none⟩=some (.int .u32 ty):=hbx.1 1
 have c2:(w.alloc (.cells #[.int .u16 op,.int .u32 ty,.int .u32 res,.slice ax na cx] 71)).cell? ⟨w.heap.size,2,none⟩=some (.int .u32 res):=hbx.1 2
 have c3:(w.alloc (.cells #[.int .u16 op,.int .u32 ty,.int .u32 res,.slice ax na cx] 71)).cell? ⟨w.heap.size,3,none⟩=some (.slice ax na cx):=hbx.1 3
 obtain⟨b,off,rfl,hb,_,d1,_⟩:=(hv.below hb1) 0 (by omega)
 rw [Nat.zero_mul,Nat.add_zero] at d1
 have hn0:(0:Int)<na:=by omega
 have hn1:0<na:=h1
 have hA:0≤(nthA l 0).2.1∧(nthA l 0).2.1<4294967296:=⟨(hargs 0 (by omega)).2.2.1,(hargs 0 (by omega)).2.2.2.1⟩
 have hB1:=hB.below hb1
 have q0:=hB1.cells.1
 have hql:q<(w.alloc (.cells #[.int .u16 op,.int .u32 ty,.int .u32 res,.slice (some ⟨b,off,none⟩) na cx] 71)).heap.size:=(Array.getElem?_eq_some_iff.1 hB1.blk).1
 have hK:=tyKind_any ty _ (hB1.tab.below (Below.refl _ _).drew) t0 t1
 have HB:=hide hB
 have HB1:=hide hB1
 have HBW:=hide hBw
 have HX:=hide hb1
 have hspec:tyNum t nf (op,ty,res,l)=if kindT t ty=3 then (fun y=>if y=res then some (nthA l 0).2.1 else nf y) else nf:=rfl
 rw [hspec]
 unfold instV
 simp only
 generalize (nthA l 0).2.1=a0 at *
 have HA:=hide hA
 clear hB hv hl hargs hb1 hbx hB1 hBw hspec hA
 by_cases h3:kindT t ty=3
 ·rw [if_pos h3]
  rw [h3] at hK
  clear h3
  go_enter Tryz.func69,Tryz.ntmps69
  go_wp2_with fail
  generalize (w.alloc (.cells #[.int .u16 op,.int .u32 ty,.int .u32 res,.slice (some ⟨b,off,none⟩) na cx] 71))=W at *
  go_region_with (go_at_call 29;refine hK.mono ?_;rintro e w1 ⟨rfl,hb1⟩)
  all_goals
   have hbW:Below W.heap.size W w1:=((Below.refl _ W).drew).trans hb1
   have q1:=(hbW.cell (p:=⟨q,1,none⟩) hql).trans HB1.out.cells.2.1
   have e2:=(hbW.cell (p:=⟨w.heap.size,2,none⟩) hlx).trans c2
   have e3:=(hbW.cell (p:=⟨w.heap.size,3,none⟩) hlx).trans c3
   have e4:=(hbW.cell (p:=⟨b,off+1,none⟩) hb).trans d1
   have hB2:=(HB1.out.below hbW)
   have hnm:MapU w1.drew 22 .u32 nb n nf:=hB2.nums.block rfl
   obtain⟨w9,hrun,hk9,hg9⟩:=hnm.ins 81 Tryz.underlying81 Tryz.underlying22 (by unfold maxLen;omega) res a0 r0 r1 (wf_u32T HA.out.1 HA.out.2)
   have HFIN:Hid (BdB w9 B q p mb nb kb (n+1) t (fun y=>if y=res then some a0 else nf y) kf ov f):=by
    have h:=hB2.below (Below.refl _ _).drew
    have hm:=h.nums.obj
    have hqb:q≠nb:=fun e=>by obtain⟨es,ck,hm⟩:=hm;rw [← e,h.blk] at hm;cases hm
    exact⟨(h.tab.map_put hg9 hm h.apart.2.1).mono (Nat.le_succ _),(hg9.block q (Array.getElem?_eq_some_iff.1 h.blk).1 (fun e=>hqb (Option.some.inj e))).trans h.blk,hk9,(h.keys.other hg9 h.apart.1).mono (Nat.le_succ _),h.apart,h.low⟩
   have HB9:Hid (Below B w w9):=((HX.out.trans (hbW.mono HX.out.size)).mono HBW.out).drew.grown hg9 (Nat.le_trans HBW.out (Nat.le_trans HX.out.size hbW.size)) (fun g e=>by cases e;exact HB.out.low.2.1)
   clear hb1 hbW c1 c2 c3 d1 hB2 hnm hk9 hg9 hK q0
   go_wp2_with fail
   go_region_with (fail)
   all_goals
    go_wp2_with fail
    go_end0
    exact⟨rfl,HFIN.out,HB9.out⟩
 ·rw [if_neg h3]
  have h3':((kindT t ty:Int)==3)=false:=by simp;omega
  have h3'':¬ (kindT t ty:Int)=3:=by omega
  generalize (kindT t ty:Int)=K at *
  clear h3
  go_enter Tryz.func69,Tryz.ntmps69
  go_wp2_with fail
  generalize (w.alloc (.cells #[.int .u16 op,.int .u32 ty,.int .u32 res,.slice (some ⟨b,off,none⟩) na cx] 71))=W at *
  go_region_with (go_at_call 29;refine hK.mono ?_;rintro e w1 ⟨rfl,hb1⟩)
  all_goals
   have hbW:Below W.heap.size W w1:=((Below.refl _ W).drew).trans hb1
   have HFIN:=hide ((HB1.out.below hbW).mono (Nat.le_succ n))
   have HB9:Hid (Below B w w1):=(HX.out.trans (hbW.mono HX.out.size)).mono HBW.out
   clear hb1 hbW c1 c2 c3 d1 hK q0
   go_wp2_with fail
   go_end0
   exact⟨rfl,HFIN.out,HB9.out⟩
theorem read_new {b:Int} (hb:b≤65536) {t:List TyR} {nf:Int→Option Int} {x:InstT} (hO:OpsK b x) (h0:(tyRead t nf x).1=0) (hk:(tyRead t nf x).2.kind≠0):NewT t (tyRead t nf x).2:=by
 rcases tyRead_cases h0 hk with ⟨e,hr⟩ | ⟨e,hr⟩ | ⟨e,_,_,hr⟩ | ⟨e,e1,e2,e3,hr⟩ | ⟨e,e1,e2,e3,hr⟩ | ⟨e,e1,e2,e3,hr⟩ | ⟨e,e1,hr⟩ | ⟨e,e1,e2,hr⟩
 all_goals rw [hr]
 ·exact⟨⟨rfl,rfl⟩,by simp,.inr (by simp),by simp [plainK],by simp [plainK]⟩
 ·exact⟨⟨rfl,rfl⟩,by simp,.inr (by simp),fun _ p hp=>by simp at hp,by simp⟩
 ·exact⟨⟨rfl,rfl⟩,by simp,.inr (by simp),fun _ p hp=>by simp at hp,by simp⟩
 ·have ha:=(hO.o23 e).2
  refine⟨⟨rfl,rfl⟩,fun _=>⟨_,rfl⟩,.inl (by simp only;omega),fun _ p hp=>?_,by simp⟩
  obtain rfl:p=tyArg x 0:=by simpa using hp
  refine⟨?_,by omega,by omega⟩
  unfold plainT plainK
  rcases e1 with e1 | e1 <;> rw [e1] <;> rfl
 ·have ha:=(hO.o28 e).2.1
  refine⟨⟨rfl,rfl⟩,fun _=>⟨_,rfl⟩,.inl (by simp only;omega),fun _ p hp=>?_,by simp⟩
  obtain rfl:p=tyArg x 0:=by simpa using hp
  exact⟨e1,by omega,by omega⟩
 ·rw [List.all_eq_true] at e3
  exact⟨⟨rfl,rfl⟩,by simp,.inr (by simp),fun _ p hp=>⟨e3 p hp,by have:=hO.ids p hp;omega,by have:=hO.ids p hp;omega⟩,fun _=>e2⟩
 ·exact⟨⟨rfl,rfl⟩,by simp,.inr (by simp),by simp [plainK],by simp [plainK]⟩
 ·exact⟨⟨rfl,rfl⟩,by simp,.inr (by simp),by simp [plainK],by simp [plainK]⟩
theorem ownsRow_setCell_other14 {w:World} {B e size n k cap g:Nat} {xs:List Value} (h:w.ownsRow B e size (.slice (some ⟨g,0,none⟩) k cap) n xs) {p i:Nat} (hne:p≠g) (u:Value):(w.setCell ⟨p,i,none⟩ u).ownsRow B e size (.slice (some ⟨g,0,none⟩) k cap) n xs:=by
 obtain⟨h1,h2⟩:=h
 refine⟨h1,?_⟩
 rcases h2 with h2 | ⟨g2,cap2,cur,e1,e2,e3,e4⟩
 ·exact .inl h2
 ·refine .inr ⟨g2,cap2,cur,e1,e2,?_,e4⟩
  have:g2=g:=by injection e1 with e1;simp at e1;exact e1.symm
  subst this
  exact (Below.heap_setCell _ _ _ _ (by simpa using Ne.symm hne)).trans e3
theorem take_end {Z w9 w9b w10:World} {B q p mb nb kb n:Nat} {t:List TyR} {nf:Int→Option Int} {kf:List UInt8→Bool} {ov:Value} {f:Int→Value} (hbd:BdB Z B q p mb nb kb n t nf kf ov f) {r:TyR} (hnew:tyF t r.id=none) {a:Option Addr} {c:Nat} (hv:View .u32 Z a r.parts) (hc:r.parts.length≤c) {lo:Nat} (hBlo:B≤lo) (hfr:∀ b o,a=some ⟨b,o,none⟩→lo≤b) (hov:∀ g,ov.ownBlock=some g→g<lo) (hp:p<lo)
  (h9:MapV w9 mb (n+1) zeroE (fun y=>if y=r.id then entV r a r.parts.length c else f y)) (hg9:Z.grownBy w9 (some mb)) (hb9:Below w9.heap.size w9 w9b) {g k cap:Nat}
  (h10:w10.ownsRow B 22 1 (.slice (some ⟨g,0,none⟩) k cap) (t.length+1) (((t.map (·.id)).map (Value.int .u32))++[.int .u32 r.id])) (hg10:w9b.grownBy w10 ov.ownBlock) (hat:ov.ownBlock=some g∨g=w9b.heap.size) :
  BdB (w10.setCell ⟨p,1,none⟩ (.slice (some ⟨g,0,none⟩) k cap)) B q p mb nb kb (n+1) (t++[r]) nf kf (.slice (some ⟨g,0,none⟩) k cap) (fun y=>if y=r.id then entV r a r.parts.length c else f y):=by
 have hmo:=hbd.tab.map.obj
 -- the order's block is no map, no table, no builder
 have hovb:∀ x,ov.ownBlock=some x→∃ cur,Z.heap[x]?=some (.cells cur 22 (0,0)):=fun x e=>by
  rcases hbd.tab.order.2 with ⟨e1,_⟩ | ⟨g2,cap2,cur,e1,_,e2,_⟩
  ·rw [e1] at e;cases e
  ·rw [e1] at e
   have:g2=x:=by simpa [Value.ownBlock] using e
   subst this
   exact⟨cur,e2⟩
 have hpo:ov.ownBlock≠some p:=fun e=>by obtain⟨cur,e2⟩:=hovb p e;rw [hbd.tab.blk] at e2;injection e2 with e2;injection e2 with _ e2;exact absurd e2 (by decide)
 have hqo:ov.ownBlock≠some q:=fun e=>by obtain⟨cur,e2⟩:=hovb q e;rw [hbd.blk] at e2;injection e2 with e2;injection e2 with _ e2;exact absurd e2 (by decide)
 have hmap:∀ x,(∃ es ck,Z.heap[x]?=some (.map es ck))→ov.ownBlock≠some x:=fun x hx e=>by obtain⟨cur,e2⟩:=hovb x e;obtain⟨es,ck,hx⟩:=hx;rw [hx] at e2;cases e2
 have hpm:p≠mb:=fun e=>by obtain⟨es,ck,hm⟩:=hmo;rw [← e,hbd.tab.blk] at hm;cases hm
 have hqm:q≠mb:=fun e=>by obtain⟨es,ck,hm⟩:=hmo;rw [← e,hbd.blk] at hm;cases hm
 have hqp:q≠p:=fun e=>by have h1:=hbd.blk;rw [e,hbd.tab.blk] at h1;injection h1 with h1;injection h1 with _ h1;exact absurd h1 (by decide)
 have hs9:=hg9.size
 have hs9b:=hb9.size
 have hs10:=hg10.size
 -- a block that is none of these stays
 have keep:∀ x,x<Z.heap.size→x≠mb→ov.ownBlock≠some x→x≠p→(w10.setCell ⟨p,1,none⟩ (.slice (some ⟨g,0,none⟩) k cap)).heap[x]?=Z.heap[x]?:=fun x hx h1 h2 h3=>by
  refine (Below.heap_setCell _ _ _ _ (by simpa using h3)).trans ?_
  refine (hg10.block x (by omega) (fun e=>h2 e.symm)).trans ?_
  refine (hb9.block x (by omega)).trans ?_
  exact hg9.block x hx (fun e=>h1 (Option.some.inj e))
 have hsz:Z.heap.size≤(w10.setCell ⟨p,1,none⟩ (.slice (some ⟨g,0,none⟩) k cap)).heap.size:=by rw [World.size_setCell];omega
 have mp:∀ x,(∃ es ck,Z.heap[x]?=some (.map es ck))→x≠p:=fun x hx e=>by obtain⟨es,ck,hx⟩:=hx;rw [e,hbd.tab.blk] at hx;cases hx
 have hgp:g≠p:=fun e=>by
  rcases hat with h | h
  ·exact hpo (by rw [h,e])
  ·have:=hbd.tab.plt;omega
 have hview:∀ {a':Option Addr} {zs:List Int},View .u32 Z a' zs→(∀ b o,a'=some ⟨b,o,none⟩→zs≠[]→ov.ownBlock≠some b)→View .u32 (w10.setCell ⟨p,1,none⟩ (.slice (some ⟨g,0,none⟩) k cap)) a' zs:=fun {a' zs} hv' hno=>by
  intro j hj
  obtain⟨b,off,e,hlt,hcl⟩:=hv' j hj
  have hz:zs≠[]:=fun e2=>by rw [e2] at hj;simp at hj
  have hbm:b≠mb:=fun e2=>by obtain⟨es,ck,hm⟩:=hmo;subst e2;simp [World.cell?,hm] at hcl
  have hbp:b≠p:=fun e2=>by
   subst e2
   simp only [World.cell?,hbd.tab.blk] at hcl
   rcases hbd.tab.order.2 with ⟨e1,_⟩ | ⟨g2,cap2,cur,e1,_⟩
   all_goals
    rw [e1] at hcl
    rcases h:off+j with _ | _ | m
    ·rw [h] at hcl;cases hcl
    ·rw [h] at hcl;cases hcl
    ·rw [h] at hcl;simp at hcl
  refine⟨b,off,e,Nat.lt_of_lt_of_le hlt hsz,?_⟩
  have hk:=keep b hlt hbm (hno b off e hz) hbp
  simp only [World.cell?,hk] at hcl ⊢
  exact hcl
 have hnov:∀ b o,a=some ⟨b,o,none⟩→r.parts≠[]→ov.ownBlock≠some b:=fun b o e _ e2=>by have h1:=hfr b o e;have h2:=hov b e2;omega
 have hpb:w10.heap[p]?=some (.cells #[.map (some mb),ov] 91 (0,0)):=by
  refine (hg10.block p (by have:=hbd.tab.plt;omega) (fun e=>hpo e.symm)).trans ?_
  refine (hb9.block p (by have:=hbd.tab.plt;omega)).trans ?_
  exact (hg9.block p hbd.tab.plt (fun e=>hpm (Option.some.inj e))).trans hbd.tab.blk
 have hmob:mb<Z.heap.size:=hbd.tab.map.lt
 have tyr:tyD (t++[r]) r.id=r:=by unfold tyD;rw [tyF_snoc,hnew];simp
 have tyo:∀ id,id≠r.id→tyD (t++[r]) id=tyD t id:=fun id h=>by
  unfold tyD
  rw [tyF_snoc]
  cases e:tyF t id with
  | some x=>rfl
  | none=>simp [Ne.symm h]
 refine⟨⟨?_,?_,fun id=>?_,?_,hbd.tab.pB,hbd.tab.mB,fun id b o m c' e hne=>?_⟩,?_,?_,?_,hbd.apart,hbd.low⟩
 ·simp [World.setCell,Array.getElem?_modify,hpb]
 ·refine h9.block ?_
  refine (Below.heap_setCell _ _ _ _ (by simpa using hpm.symm)).trans ?_
  refine (hg10.block mb (by omega) (fun e=>hmap mb hmo e.symm)).trans ?_
  exact hb9.block mb (by omega)
 ·by_cases e:id=r.id
  ·subst e
   rw [tyr]
   simp only [if_true]
   exact⟨a,c,rfl,hview hv hnov,hc,fun b o e=>Nat.le_trans hBlo (hfr b o e)⟩
  ·rw [tyo id e]
   simp only [if_neg e]
   obtain⟨a',c',e1,hv',hc',hB'⟩:=hbd.tab.ents id
   exact⟨a',c',e1,hview hv' (fun b o e2 hne=>hbd.tab.apart id b o _ c' (by rw [e1,e2]) hne),hc',hB'⟩
 ·rw [List.length_append,List.map_append,List.map_append]
  exact ownsRow_setCell_other14 h10 (by simpa using Ne.symm hgp) _
 ·by_cases e1:id=r.id
  ·subst e1
   rw [tyr] at e hne
   rw [if_pos rfl] at e
   have e2:a=some ⟨b,o,none⟩:=by unfold entV at e;simp at e;exact e.1
   intro e3
   have hbg:g=b:=by simpa [Value.ownBlock] using e3
   have h1:=hfr b o e2
   have h2:=view_block hv hne e2
   rcases hat with h | h
   ·have:=hov g h;omega
   ·omega
  ·rw [tyo id e1] at e hne
   rw [if_neg e1] at e
   intro e3
   have hbg:g=b:=by simpa [Value.ownBlock] using e3
   have h1:=hbd.tab.apart id b o m c' e hne
   obtain⟨a',c2,e4,hv',_⟩:=hbd.tab.ents id
   have e5:a'=some ⟨b,o,none⟩:=by rw [e4] at e;unfold entV at e;simp at e;exact e.1
   have h2:=view_block hv' hne e5
   rcases hat with h | h
   ·exact h1 (by rw [h,hbg])
   ·omega
 ·exact (keep q (Array.getElem?_eq_some_iff.1 hbd.blk).1 hqm hqo hqp).trans hbd.blk
 ·exact (hbd.nums.block (keep nb hbd.nums.lt hbd.apart.2.1 (hmap nb hbd.nums.obj) (mp nb hbd.nums.obj))).mono (Nat.le_succ _)
 ·exact (hbd.keys.block (keep kb hbd.keys.lt hbd.apart.2.2 (hmap kb hbd.keys.obj) (mp kb hbd.keys.obj))).mono (Nat.le_succ _)
end Go.Proofs.YtoebhgpciinkgaaGreatDoor
