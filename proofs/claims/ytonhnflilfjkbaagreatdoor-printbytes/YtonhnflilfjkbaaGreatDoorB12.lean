/-
  Texts in one: MathD, WordsSplit, FrameWrite, CodeFronts, CodeWinst.
-/
import Derived.Test.YtonhnflilfjkbaaGreatDoorB11
namespace Go.Proofs.YtonhnflilfjkbaaGreatDoor
open Go.RowKit
set_option linter.unusedVariables false
def instAt (zs:List Int) (b:Int) (p:Nat):InstT×Int:=instI (rawAt zs p).1 (rawAt zs p).2 b
def decF (zs:List Int) (b:Int):List Nat→Int×Nat
 | []=>(0,0)
 | p :: ps=>if (instAt zs b p).2≠0 then ((instAt zs b p).2,p) else decF zs b ps
def decE (bs:List Int):Int×Nat :=
 if splitErr bs≠0 then (splitErr bs,0) else if (readE (splitL bs)).1≠0 then readE (splitL bs) else decF (splitL bs) (nth (splitL bs) 3) (rest (splitL bs) 5)
def instsAt (zs:List Int) (b:Int) (ps:List Nat):List InstT:=ps.map fun p=>(instAt zs b p).1
def decL (bs:List Int):List InstT:=if (decE bs).1=0 then instsAt (splitL bs) (nth (splitL bs) 3) (rest (splitL bs) 5) else []
def decH (bs:List Int) (i:Nat):Int:=if (decE bs).1=0 then nth (splitL bs) i else 0
theorem decF_app (zs:List Int) (b:Int):∀ (l m:List Nat),(∀ p∈l,(instAt zs b p).2=0)→decF zs b (l++m)=decF zs b m
 | [],m,_=>rfl
 | p :: l,m,h=>by
  rw [List.cons_append,decF,if_neg (by simp [h p (by simp)])]
  exact decF_app zs b l m fun q hq=>h q (by simp [hq])
theorem decF_all (zs:List Int) (b:Int) (l:List Nat) (h:∀ p∈l,(instAt zs b p).2=0):decF zs b l=(0,0):=by
 have:=decF_app zs b l [] h
 simpa [decF] using this
theorem decF_any (zs:List Int) (b:Int):∀ l:List Nat,(decF zs b l=(0,0)∧∀ p∈l,(instAt zs b p).2=0)∨(decF zs b l).1≠0
 | []=>.inl ⟨rfl,fun p hp=>by simp at hp⟩
 | p :: l=>by
  rw [decF]
  by_cases h:(instAt zs b p).2=0
  ·rw [if_neg (by simp [h])]
   rcases decF_any zs b l with ⟨h1,h2⟩ | h1
   ·refine .inl ⟨h1,fun q hq=>?_⟩
    rcases List.mem_cons.1 hq with rfl | hq
    ·exact h
    ·exact h2 q hq
   ·exact .inr h1
  ·rw [if_pos h];exact .inr h
theorem readE_any (zs:List Int):readE zs=(0,0)∨(readE zs).1≠0:=by
 by_cases h:(readE zs).1=0
 ·left
  obtain⟨h1,h2,h3⟩:=readE_ok zs h
  unfold readE
  rw [if_neg (by omega),if_neg (by simp [h2]),if_neg (by omega)]
 ·exact .inr h
theorem decE_any (bs:List Int):decE bs=(0,0)∨(decE bs).1≠0:=by
 unfold decE
 by_cases h1:splitErr bs=0
 ·rw [if_neg (by simp [h1])]
  by_cases h2:(readE (splitL bs)).1=0
  ·rw [if_neg (by simp [h2])]
   rcases decF_any (splitL bs) (nth (splitL bs) 3) (rest (splitL bs) 5) with ⟨h,_⟩ | h
   ·exact .inl h
   ·exact .inr h
  ·rw [if_pos h2];exact .inr h2
 ·rw [if_pos h1];exact .inr h1
theorem decE_ok {bs:List Int} (h:(decE bs).1=0):splitErr bs=0∧(readE (splitL bs)).1=0∧(∀ p∈rest (splitL bs) 5,(instAt (splitL bs) (nth (splitL bs) 3) p).2=0)∧decL bs=instsAt (splitL bs) (nth (splitL bs) 3) (rest (splitL bs) 5)∧decH bs 2=nth (splitL bs) 2∧decH bs 3=nth (splitL bs) 3:=by
 have h0:=h
 unfold decE at h0
 by_cases h1:splitErr bs=0
 ·rw [if_neg (by simp [h1])] at h0
  by_cases h2:(readE (splitL bs)).1=0
  ·rw [if_neg (by simp [h2])] at h0
   rcases decF_any (splitL bs) (nth (splitL bs) 3) (rest (splitL bs) 5) with ⟨h3,h4⟩ | h3
   ·exact⟨h1,h2,h4,by unfold decL;rw [if_pos h],by unfold decH;rw [if_pos h],by unfold decH;rw [if_pos h]⟩
   ·exact absurd h0 h3
  ·rw [if_pos h2] at h0;exact absurd h0 h2
 ·rw [if_pos h1] at h0;exact absurd h0 h1
theorem rawAt_within {zs:List Int} (hw:Within 4294967296 zs) (p:Nat):Within 4294967296 (rawAt zs p).2:=by
 intro z hz
 unfold rawAt midL at hz
 exact hw z (List.mem_of_mem_drop (List.mem_of_mem_take hz))
/-! ### what is read lies within its bounds -/

theorem argI_ok {c b:Int} {zs:List Int} (hw:Within 4294967296 zs) (hl:zs.length≤1048576):ArgOk (argI c zs b).1:=by
 have h0:ArgOk noArg:=⟨by decide,by decide,by decide,by decide,by decide⟩
 unfold argI
 split
 ·exact h0
 ·rename_i h1
  split
  ·have h2:=(textI_range zs).2.2.2.2
   exact⟨by simp,by simp,by simp,by simp,by simp only;omega⟩
  ·split
   ·exact h0
   ·split
    ·exact h0
    ·have hk:=kindI_range c
     have hn:=hw.at (k:=0) (by omega)
     exact⟨by simp only;omega,by simp only;omega,hn.1,hn.2,by simp [ByteArray.size]⟩
theorem argsI_ok (f:Frm) (b:Int):∀ (fuel:Nat) (zs:List Int) (acc:List ArgT),Within 4294967296 zs→zs.length≤1048576→ArgsOk acc→ArgsOk (argsI f b fuel zs acc).1∧(argsI f b fuel zs acc).1.length≤acc.length+fuel
 | 0,zs,acc,_,_,_=>by rw [argsI];exact⟨argsOk_nil,by simp⟩
 | fuel+1,zs,acc,hw,hl,ha=>by
  rw [argsI]
  split
  ·split
   ·exact⟨ha,by simp only;omega⟩
   ·exact⟨argsOk_nil,by simp⟩
  ·split
   ·exact⟨argsOk_nil,by simp⟩
   ·have:=argsI_ok f b fuel (zs.drop (argI (letterI f acc.length) zs b).2.1.toNat) (acc++[(argI (letterI f acc.length) zs b).1]) (fun z hz=>hw z (List.mem_of_mem_drop hz)) (by rw [List.length_drop];omega) (argsOk_push ha (argI_ok hw hl))
    refine⟨this.1,?_⟩
    have h2:=this.2
    rw [List.length_append,List.length_singleton] at h2
    omega
theorem instI_ok {op b:Int} {zs:List Int} (ho0:0≤op) (ho1:op<65536) (hw:Within 4294967296 zs):InstOk (instI op zs b).1:=by
 have h0:InstOk noInst:=⟨by decide,by decide,by decide,by decide,by decide,by decide,argsOk_nil,by decide⟩
 unfold instI
 by_cases h1:65535≤zs.length
 ·rw [if_pos h1];exact h0
 ·rw [if_neg h1]
  split
  ·exact h0
  ·generalize (lookF refT op).1=f
   unfold instF
   split
   ·exact h0
   ·split
    ·exact h0
    ·split
     ·exact h0
     ·have ha:=argsI_ok f b (zs.length+1) (zs.drop (f.2.1.toNat+f.2.2.1.toNat)) [] (fun z hz=>hw z (List.mem_of_mem_drop hz)) (by rw [List.length_drop];omega) argsOk_nil
      have hty:0≤(headTy f.2.1 zs b).1∧(headTy f.2.1 zs b).1<4294967296:=by
       unfold headTy
       split
       ·split
        ·simp
        ·exact hw.at (by omega)
       ·simp
      have hre:0≤(headRes f.2.2.1 zs b f.2.1.toNat).1∧(headRes f.2.2.1 zs b f.2.1.toNat).1<4294967296:=by
       unfold headRes
       split
       ·split
        ·simp
        ·exact hw.at (by omega)
       ·simp
      refine⟨ho0,ho1,hty.1,hty.2,hre.1,hre.2,ha.1,?_⟩
      have:=ha.2
      simp only [List.length_nil,Nat.zero_add] at this ⊢
      omega
theorem instAt_ok {zs:List Int} (hw:Within 4294967296 zs) (b:Int) (p:Nat):InstOk (instAt zs b p).1:=instI_ok (opI_lo _ _) (opI_hi _ _) (rawAt_within hw p)
theorem instsAt_ok {zs:List Int} (hw:Within 4294967296 zs) (b:Int) (ps:List Nat):InstsOk (instsAt zs b ps):=by
 intro j hj
 rw [nthI_lt _ _ hj]
 simp only [instsAt,List.getElem_map]
 exact instAt_ok hw b _
theorem decL_ok {bs:List Int} (hw:Within 256 bs):InstsOk (decL bs):=by
 unfold decL
 split
 ·exact instsAt_ok (splitL_within bs hw) _ _
 ·exact instsOk_nil
theorem nth_range32 {zs:List Int} (hw:Within 4294967296 zs) (i:Nat):0≤nth zs i∧nth zs i<4294967296:=by
 by_cases h:i<zs.length
 ·exact hw.at h
 ·simp [nth,List.getD,List.getElem?_eq_none (by omega:zs.length≤i)]
theorem decH_range {bs:List Int} (hw:Within 256 bs) (i:Nat):0≤decH bs i∧decH bs i<4294967296:=by
 unfold decH
 split
 ·exact nth_range32 (splitL_within bs hw) i
 ·simp
set_option maxRecDepth 10000
theorem Split.info:(Tryz.prog.info? 22).map (fun i=>(i.zero,i.size,i.bytes))=some (some (.int .u32 0),1,4):=by kernel_rfl
theorem split_large (a:Option Addr) (n cap:Nat) (w:World) (h:4194304<n) :
  Calls Tryz.prog 61 #[.slice a n cap] w fun e w'=>e=.returned (.tuple #[.slice none 0 0,.int .i64 4])∧w=w':=by
 have h':(4194304:Int)<(n:Int):=by omega
 go_enter Tryz.func61,Tryz.ntmps61
 go_wp2
 go_ret2
 exact⟨rfl,rfl⟩
theorem split_odd (a:Option Addr) (n cap:Nat) (w:World) (h:¬ 4194304<n) (h2:¬ n % 4=0) :
  Calls Tryz.prog 61 #[.slice a n cap] w fun e w'=>e=.returned (.tuple #[.slice none 0 0,.int .i64 10])∧w=w':=by
 have h':¬ (4194304:Int)<(n:Int):=by omega
 have h2':(((n:Int) % 4)==0)=false:=by simp;omega
 go_enter Tryz.func61,Tryz.ntmps61
 go_wp2
 go_ret2
 exact⟨rfl,rfl⟩
set_option maxHeartbeats 1000000 in
theorem split_ok (a:Option Addr) (m cap:Nat) (zs:List Int) (w:World) (ha:View .u8 w a zs) (hl:zs.length=4 * m) (hw:Within 256 zs) (h:¬ 4194304<4 * m) :
  Calls Tryz.prog 61 #[.slice a (4 * m) cap] w fun e w'=>e=.returned (.tuple #[.slice (some ⟨w.heap.size,0,none⟩) m m,.int .i64 0]) ∧
   w'.ownsRow w.heap.size 22 1 (.slice (some ⟨w.heap.size,0,none⟩) m m) m ((splitL zs).map (Value.int .u32))∧Below w.heap.size w w':=by
 obtain⟨i0,hi,hz0,hz1,hz2⟩:=info_parts Split.info
 have HL:Hid (zs.length=4 * m):=hl
 clear hl
 have h':¬ (4194304:Int)<4 * (m:Int):=by omega
 go_enter Tryz.func61,Tryz.ntmps61
 go_wp2_with (at_make;refine wpList_make_full _ rfl _ _ 52 rfl w.heap.size 22 i0 (.int .u32 0) 1 Tryz.underlying52 hi hz0 hz1 _ _ _ _ m rfl rfl (by omega) (by omega) (by rw [hz2];omega) (by unfold maxLen;omega) (Nat.le_refl _) ?_)
 intro w1 hown1 hgrow1
 have hb1:Below w.heap.size w w1:=(Below.refl _ w).grown hgrow1 (Nat.le_refl _) (by simp)
 have hr1:=made_row zs hown1
 rw [← partL_zero zs zs] at hr1
 clear hown1 hgrow1
 go_wp2
 go_loopw [20] (fun i wr=>∃ k:Nat,k≤4 * m∧i=.int .i64 k∧wr.ownsRow w.heap.size 22 1 (.slice (some ⟨w.heap.size,0,none⟩) m m) m ((partL zs k m).map (Value.int .u32))∧Below w.heap.size w wr)
  (fun i _=>4 * m - (intOf i).toNat)
 case atStart=>exact⟨0,Nat.zero_le _,rfl,hr1,hb1⟩
 case round =>
  obtain⟨k,hk,rfl,hown,hnx⟩:=hrel
  clear hr1 hb1
  by_cases hlt:k<4 * m
  ·obtain⟨b,off,rfl,hbs,hc⟩:=ha k (by rw [HL.out];exact hlt)
   have hx:=hw.at (k:=k) (by rw [HL.out];exact hlt)
   have hcr:wr.cell? ⟨b,off+k,none⟩=some (.int .u8 (nth zs k)):=(hnx.cell (p:=⟨b,off+k,none⟩) hbs).trans hc
   have hpb:=partW_bounds zs k (k / 4) hw (by rw [HL.out];omega)
   have HP:Hid (bits .or .u32 (partW zs k (k / 4)) (plc (nth zs k) (k % 4))=partW zs (k+1) (k / 4)):=partW_step zs k hw (by rw [HL.out];exact hlt)
   have hd:wr.cell? ⟨w.heap.size,k / 4,none⟩=some (.int .u32 (partW zs k (k / 4))):=by
    rw [hown.cellAt (k / 4) (by omega)]
    have:k / 4<m:=by omega
    simp [partL,this]
   have hf:wr.frozen? ⟨w.heap.size,k / 4,none⟩=false:=hown.frozenAt _
   have hs:=(hown.stored (k / 4) (.int .u32 (partW zs (k+1) (k / 4)))).1
   rw [← List.map_set,partL_set] at hs
   generalize nth zs k=x at hx hcr HP
   generalize partW zs k (k / 4)=y at hpb hd HP
   have hx0:=hx.1
   have hx1:=hx.2
   have hy0:=hpb.1
   have hy1:=hpb.2
   have hk0:(0:Int)≤(k:Int) / 4:=by omega
   have hk4:(k:Int) / 4<(m:Int):=by omega
   have eq:(k:Int).tdiv 4=((k / 4:Nat):Int):=by rw [Int.tdiv_eq_ediv_of_nonneg (by omega)];omega
   have em:(k:Int).tmod 4=((k % 4:Nat):Int):=by rw [Int.tmod_eq_emod_of_nonneg (by omega)];omega
   have eq':(k:Int) / 4=((k / 4:Nat):Int):=by omega
   have em':(k:Int) % 4=((k % 4:Nat):Int):=by omega
   have hj:k / 4<m:=by omega
   have hr:k % 4<4:=by omega
   have HS:Hid ((wr.setCell ⟨w.heap.size,k / 4,none⟩ (.int .u32 (bits .or .u32 y (plc x (k % 4))))).ownsRow w.heap.size 22 1 (.slice (some ⟨w.heap.size,0,none⟩) m m) m ((partL zs (k+1) m).map (Value.int .u32))):=by rw [HP.out];exact hs
   clear hc hx hpb hown ha hs HP hk0 hk4
   generalize k / 4=j at *
   generalize k % 4=r at *
   have hA:=fun wx=>atPlace_any x (r:Int) wx hx0 hx1 (by omega) (by omega)
   have hj0:(0:Int)≤(j:Int):=by omega
   have hj1:(j:Int)<(m:Int):=by omega
   have hwj:IntKind.i64.wrap (j:Int)=(j:Int):=by rw [IntKind.wrap_i64];omega
   go_wp2
   go_region_with (go_at_call 99;refine (hA _).mono ?_;rintro e w' ⟨rfl,rfl⟩)
   all_goals
    go_wp2
    go_roundw
    case rel=>exact⟨k+1,by omega,by go_num,HS.out.drew,(hnx.setCell (Nat.le_refl _) _).drew⟩
    case measure=>simp [intOf];omega
  ·go_wp2
   go_ret2
   obtain rfl:k=4 * m:=by omega
   have e:=partL_whole zs (by rw [HL.out];omega)
   rw [HL.out,show 4 * m / 4=m by omega] at e
   rw [e] at hown
   exact⟨rfl,hown,hnx⟩
theorem split_any (a:Option Addr) (n cap:Nat) (zs:List Int) (w:World) (ha:View .u8 w a zs) (hl:zs.length=n) (hw:Within 256 zs) :
  Calls Tryz.prog 61 #[.slice a n cap] w fun e w'=>∃ ax m,e=.returned (.tuple #[.slice ax m m,.int .i64 (splitErr zs)])∧(splitOut zs).length=m∧View .u32 w' ax (splitOut zs)∧NewAt w.heap.size ax∧Below w.heap.size w w':=by
 by_cases h:4194304<n
 ·refine (split_large a n cap w h).mono ?_
  rintro e w' ⟨rfl,rfl⟩
  rw [splitErr_large zs (by omega),splitOut_large zs (by omega)]
  exact⟨none,0,rfl,rfl,view_nil,newAt_none,Below.refl _ _⟩
 ·by_cases h2:n % 4=0
  ·obtain⟨m,rfl⟩:∃ m,n=4 * m:=⟨n / 4,by omega⟩
   refine (split_ok a m cap zs w ha hl hw h).mono ?_
   rintro e w' ⟨rfl,hown,hb⟩
   rw [splitErr_ok zs (by omega) (by omega),splitOut_ok zs (by omega) (by omega)]
   have hs:(splitL zs).length=m:=by rw [splitL_len,hl];omega
   exact⟨_,m,rfl,hs,View.ofRow hown hs,newAt_mk (Nat.le_refl _),hb⟩
  ·refine (split_odd a n cap w h h2).mono ?_
   rintro e w' ⟨rfl,rfl⟩
   rw [splitErr_odd zs (by omega) (by omega),splitOut_odd zs (by omega) (by omega)]
   exact⟨none,0,rfl,rfl,view_nil,newAt_none,Below.refl _ _⟩
theorem write_bound (gen bound:Int) (a:Option Addr) (n cap:Nat) (w:World) (hb0:0≤bound) (hb1:bound<4294967296) (hb:bound=0∨65536<bound) :
  Calls Tryz.prog 71 #[.agg #[.int .u32 gen,.int .u32 bound],.slice a n cap] w fun e w'=>e=.returned (.tuple #[.slice none 0 0,.agg #[.int .i64 24,.int .i64 0]])∧Below w.heap.size w w':=by
 have hM:=fun w=>mayBeBound_any bound w hb0 hb1
 have e1:(!(decide (bound=0) || decide (65536<bound)))=false:=by rcases hb with h1 | h1 <;> simp [h1]
 rw [e1] at hM
 clear hb e1
 go_enter Tryz.func71,Tryz.ntmps71
 go_wp2_with (go_at_call 111;refine (hM _).mono ?_;rintro e w' ⟨rfl,rfl⟩)
 exact bodyPost_ret (v:=.tuple #[.slice none 0 0,.agg #[.int .i64 24,.int .i64 0]]) (by simp [results,Tryz.results71,go_sem]) rfl ⟨rfl,((Below.refl _ _).alloc (Nat.le_refl _) _).alloc (by simp) _⟩
theorem bound_ok {bound:Int} (hb1:¬ bound=0) (hb2:¬ 65536<bound):(!(decide (bound=0) || decide (65536<bound)))=true:=by simp [hb1];omega
set_option maxRecDepth 100000 in
set_option maxHeartbeats 4000000 in
theorem write_fault (gen bound:Int) (a:Option Addr) (n cap:Nat) (rs:List (Int×List Int)) (w:World) (hb0:0≤bound) (hb1:¬ bound=0) (hb2:¬ 65536<bound) (ha:RawsV w a rs) (hok:RawsOk rs) (hl:rs.length=n) (hn:32 * n≤140737488351232) (hz:¬ (fault rs 0).1=0) :
  Calls Tryz.prog 71 #[.agg #[.int .u32 gen,.int .u32 bound],.slice a n cap] w fun e w'=>e=.returned (.tuple #[.slice none 0 0,.agg #[.int .i64 (fault rs 0).1,.int .i64 (fault rs 0).2]])∧Below w.heap.size w w':=by
 have hF:=fun wx (hb:Below w.heap.size w wx)=>measure_any a n cap rs wx (ha.below hb) hok hl hn
 have hM:=fun w=>mayBeBound_any bound w hb0 (by omega)
 rw [bound_ok hb1 hb2] at hM
 have hzb:((fault rs 0).1==0)=false:=by simpa using hz
 clear hz
 generalize (fault rs 0).1=er at hF hzb ⊢
 generalize (fault rs 0).2=at_ at hF ⊢
 generalize sizeOut rs=so at hF
 clear hl hb1 hb2
 go_enter Tryz.func71,Tryz.ntmps71
 go_wp2_with (go_at_call 111;refine (hM _).mono ?_;rintro e w' ⟨rfl,rfl⟩)
 refine (hF _ (((Below.refl _ w).alloc (Nat.le_refl _) (.cells #[.int .u32 gen,.int .u32 bound] 106)).alloc (by simp) (.cells #[.int .i64 0,.int .i64 0] 28))).mono ?_
 rintro e w1 ⟨rfl,hbF⟩
 have hres1:w1.heap[w.heap.size+1]?=some (.cells #[.int .i64 0,.int .i64 0] 28 (0,0)):=by
  rw [hbF.block _ (by simp)]
  have:=heap_alloc_new (w.alloc (.cells #[.int .u32 gen,.int .u32 bound] 106)) (.cells #[.int .i64 0,.int .i64 0] 28)
  simpa using this
 have s1:w.heap.size+2≤w1.heap.size:=by have:=hbF.size;simp at this;omega
 have hbw1:Below w.heap.size w w1:=(((Below.refl _ w).alloc (Nat.le_refl _) _).alloc (by simp) _).trans (hbF.mono (by simp;omega))
 have hres2:=(Below.heap_alloc w1 (.cells #[.int .i64 er,.int .i64 at_] 28) _ (by omega)).trans hres1
 have hbw2:=hbw1.alloc (by omega) (.cells #[.int .i64 er,.int .i64 at_] 28)
 obtain⟨c0,c1,f1⟩:=cell_of_two hres2
 have f0:(w1.alloc (.cells #[.int .i64 er,.int .i64 at_] 28)).frozen? ⟨w.heap.size+1,0,none⟩=false:=by simp [World.frozen?,hres2]
 have hz:=spot_set hres2 (.int .i64 er) (.int .i64 at_)
 have HZ:Hid (_∧_):=hz
 have HB:Hid _:=hbw2
 clear hz hres1 hres2 hbw1 hbF hF hbw2 hM
 go_wp2
 go_region
 all_goals
  go_wp2
  exact bodyPost_ret (v:=.tuple #[.slice none 0 0,.agg #[.int .i64 er,.int .i64 at_]]) (by simp [results,Tryz.results71,go_sem,HZ.out.1,HZ.out.2]) rfl ⟨rfl,by first | exact ((HB.out.setCell (by simp) _).setCell (by simp) _).drew | exact ((HB.out.drew.setCell (by simp) _).setCell (by simp) _) | exact ((HB.out.setCell (by simp) _).setCell (by simp) _)⟩
set_option maxRecDepth 100000 in
set_option maxHeartbeats 4000000 in
theorem write_ok (gen bound:Int) (a:Option Addr) (n cap:Nat) (rs:List (Int×List Int)) (w:World) (hb0:0≤bound) (hb1:¬ bound=0) (hb2:¬ 65536<bound) (ha:RawsV w a rs) (hok:RawsOk rs) (hl:rs.length=n) (hn:32 * n≤140737488351232) (hz:fault rs 0=(0,0)) :
  Calls Tryz.prog 71 #[.agg #[.int .u32 gen,.int .u32 bound],.slice a n cap] w fun e w'=>∃ ax cx m,e=.returned (.tuple #[.slice ax m cx,.agg #[.int .i64 0,.int .i64 0]])∧(writeTo gen bound rs n).length=m ∧
   w'.ownsRow w.heap.size 22 1 (.slice ax m cx) m ((writeTo gen bound rs n).map (Value.int .u32))∧Below w.heap.size w w':=by
 obtain⟨i0,hi,hz0,hz1,hz2⟩:=info_parts RefWrite.info
 have HL:Hid (rs.length=n):=hl
 have HN:Hid (∀ k,k≤n→sizeTo rs k≤1048576∧∀ j,j<k→(nthR rs j).2.length<65535):=by
  have:=fault_none rs (by rw [hz])
  rw [hl] at this
  exact this
 have HWL:Hid (∀ k,k≤n→(writeTo gen bound rs k).length=sizeTo rs k):=fun k hk=>writeTo_len gen bound rs k (by omega)
 have HWS:Hid (∀ k,k<n→writeTo gen bound rs (k+1)=writeTo gen bound rs k++rawW (nthR rs k)):=fun k hk=>writeTo_succ gen bound rs k (by omega)
 have hF:=fun wx (hb:Below w.heap.size w wx)=>measure_any a n cap rs wx (ha.below hb) hok hl hn
 have hM:=fun w=>mayBeBound_any bound w hb0 (by omega)
 rw [bound_ok hb1 hb2] at hM
 have hso:sizeOut rs=(sizeTo rs n:Int):=by unfold sizeOut;rw [hz,if_pos rfl,hl]
 rw [hz,hso] at hF
 have hsn:=(HN.out n (Nat.le_refl _)).1
 generalize hsn':sizeTo rs n=sn at hsn hF
 clear hl hz hb1 hb2 hso
 go_enter Tryz.func71,Tryz.ntmps71
 go_wp2_with (go_at_call 111;refine (hM _).mono ?_;rintro e w' ⟨rfl,rfl⟩)
 refine (hF _ (((Below.refl _ w).alloc (Nat.le_refl _) (.cells #[.int .u32 gen,.int .u32 bound] 106)).alloc (by simp) (.cells #[.int .i64 0,.int .i64 0] 28))).mono ?_
 rintro e w1 ⟨rfl,hbF⟩
 have hres1:w1.heap[w.heap.size+1]?=some (.cells #[.int .i64 0,.int .i64 0] 28 (0,0)):=by
  rw [hbF.block _ (by simp)]
  have:=heap_alloc_new (w.alloc (.cells #[.int .u32 gen,.int .u32 bound] 106)) (.cells #[.int .i64 0,.int .i64 0] 28)
  simpa using this
 have hbox1:w1.heap[w.heap.size]?=some (.cells #[.int .u32 gen,.int .u32 bound] 106 (0,0)):=by
  rw [hbF.block _ (by simp;omega),Below.heap_alloc _ _ _ (by simp)]
  exact heap_alloc_new w _
 have s1:w.heap.size+2≤w1.heap.size:=by have:=hbF.size;simp at this;omega
 have hbw1:Below w.heap.size w w1:=(((Below.refl _ w).alloc (Nat.le_refl _) _).alloc (by simp) _).trans (hbF.mono (by simp;omega))
 clear hF hbF hM
 go_wp2_with (at_make;refine wpList_make_own _ rfl _ _ 52 rfl (w.heap.size+2) 22 i0 (.int .u32 0) 1 Tryz.underlying52 hi hz0 hz1 _ _ _ sn rfl rfl (by omega) (by rw [hz2];omega) (by unfold maxLen;omega) (by simp;omega) ?_)
 intro w2 hown2 hgrow2
 have s2:=hgrow2.size
 simp only [World.size_alloc] at hown2 s2
 have hres2:w2.heap[w.heap.size+1]?=some (.cells #[.int .i64 0,.int .i64 0] 28 (0,0)):=(hgrow2.block _ (by simp;omega) (by simp)).trans ((Below.heap_alloc w1 _ _ (by omega)).trans hres1)
 have hbox2:=(hgrow2.block w.heap.size (by simp;omega) (by simp)).trans ((Below.heap_alloc w1 _ _ (by omega)).trans hbox1)
 have hbw2:Below w.heap.size w w2:=(hbw1.alloc (by omega) _).grown hgrow2 (by simp;omega) (fun k hk=>by cases hk)
 obtain⟨c0,c1,_⟩:=cell_of_two hbox2
 clear hgrow2 hres1 hbox1 hbox2 hbw1
 generalize w1.heap.size=G at *
 go_wp2_with (at_builtin;refine wpList_append_lies _ rfl (.tmp 27) (.tmp 32) 52 rfl (w.heap.size+2) 22 i0 (.int .u32 0) 1 4 Tryz.underlying52 hi hz0 hz1 hz2 rfl (by omega) (.slice (some ⟨G+1,0,none⟩) 0 sn) 0 [] rfl (hown2.alloc _) ⟨w2.heap.size,0,none⟩ 5 5 [.int .u32 119734787,.int .u32 65536,.int .u32 gen,.int .u32 bound,.int .u32 0] rfl rfl (World.news_of_block (cs:=#[.int .u32 119734787,.int .u32 65536,.int .u32 gen,.int .u32 bound,.int .u32 0]) (t:=22) (fr:=(0,0)) (heap_alloc_new w2 _)) (by simp [Value.oneCell']) (by omega) (by unfold maxLen;omega) (by omega) (by simp;omega) (w2.heap.size+1) (by simp) ?_)
 intro g3 cap3 w3 hown3 hgrow3 hat3 hlt3
 have hres3:=(hgrow3.block (w.heap.size+1) (by simp;omega) (fun e=>by simp [Value.ownBlock] at e;omega)).trans ((Below.heap_alloc w2 _ _ (by omega)).trans hres2)
 have hbw3:Below w.heap.size w w3:=(hbw2.alloc (by omega) _).grown hgrow3 (by simp;omega) (fun k hk=>by simp [Value.ownBlock] at hk;omega)
 clear hgrow3 hat3 hown2 hres2 hbw2 hlt3 c0 c1
 go_wp2
 go_loopw [8,36] (fun v i wr=>∃ (k:Nat),k≤n∧i=.int .i64 k∧wr.ownsRow (w.heap.size+2) 22 1 v (sizeTo rs k) ((writeTo gen bound rs k).map (Value.int .u32)) ∧
   wr.heap[w.heap.size+1]?=some (.cells #[.int .i64 0,.int .i64 0] 28 (0,0))∧Below w.heap.size w wr)
  (fun _ i _=>n - (intOf i).toNat)
 case atStart=>exact⟨0,Nat.zero_le _,rfl,by simpa [writeTo,sizeTo] using hown3,hres3,hbw3⟩
 case round =>
  obtain⟨k,hk,rfl,hown,hres,hnx⟩:=hrel
  obtain⟨ax,cx,rfl⟩:=own_shape hown
  clear hown3 hres3 hbw3
  have hsz:=hnx.size
  have hlt1:w.heap.size+1<wr.heap.size:=(Array.getElem?_eq_some_iff.1 hres).1
  have hob:∀ j,Value.ownBlock (.slice ax (sizeTo rs k) cx)=some j→w.heap.size+2≤j∧j<wr.heap.size:=fun j hj=>by
   rcases hown.2 with ⟨h1,_⟩ | ⟨g,c,cur,h1,h2,h3,_⟩
   ·rw [h1] at hj;simp [Value.ownBlock] at hj
   ·rw [h1] at hj;simp [Value.ownBlock] at hj;subst hj;exact⟨h2,(Array.getElem?_eq_some_iff.1 h3).1⟩
  by_cases hlt:k<n
  ·obtain⟨b,off,aj,cj,nj,rfl,hbs,p1,p2,p3,p4,_⟩:=ha k (by rw [HL.out];exact hlt)
   obtain⟨o1,o2,_,_⟩:=hok k (by rw [HL.out];exact hlt)
   have HS:Hid (sizeTo rs (k+1)=sizeTo rs k+1+nj):=by show _=_;rw [sizeTo_succ rs k (by rw [HL.out];exact hlt),p3]
   have h1:=(HN.out k hk).1
   have h2:=(HN.out (k+1) hlt).1
   have h3:=(HN.out (k+1) hlt).2 k (by omega)
   rw [HS.out] at h2
   rw [p3] at h3
   have HWK:Hid (writeTo gen bound rs (k+1)=writeTo gen bound rs k++((((nj:Int)+1) * 65536+(nthR rs k).1) :: (nthR rs k).2)):=by
    show _=_;rw [HWS.out k hlt,rawW,p3]
   have HP3:Hid ((nthR rs k).2.length=nj):=p3
   have q1:=(hnx.cell (p:=⟨b,off+k * 2,none⟩) hbs).trans p1
   have q2:=(hnx.cell (p:=⟨b,off+k * 2+1,none⟩) hbs).trans p2
   have hki:(k:Int)<(n:Int):=by omega
   have hk0:(0:Int)≤(k:Int):=by omega
   have hW:=fun wx=>firstWord_any (nthR rs k).1 aj nj cj wx h3 o1 o2
   clear p1 p2 p3 hok ha
   generalize hs:sizeTo rs k=s at *
   generalize writeTo gen bound rs k=ws at *
   generalize (nthR rs k).1=op at *
   generalize (nthR rs k).2=ms at *
   go_wp2_with fail
   refine (hW _).mono ?_
   rintro e w4 ⟨rfl,hb4⟩
   have s4:=hb4.size
   simp only [World.size_alloc] at s4
   have hown4:=own_below (hown.alloc (.cells #[.int .u16 op,.slice aj nj cj] 54)) hb4
   have hr4:=(hb4.block wr.heap.size (by simp)).trans (heap_alloc_new wr (.cells #[.int .u16 op,.slice aj nj cj] 54))
   have hres4:=(hb4.block (w.heap.size+1) (by simp;omega)).trans ((Below.heap_alloc wr _ _ hlt1).trans hres)
   have hbw4:Below w.heap.size w w4:=(hnx.alloc hsz _).trans (hb4.mono (by simp;omega))
   clear hb4 hW q1 q2 hown hres hnx
   go_wp2_with (at_builtin;refine wpList_append_lies _ rfl (.tmp 40) (.tmp 43) 52 rfl (w.heap.size+2) 22 i0 (.int .u32 0) 1 4 Tryz.underlying52 hi hz0 hz1 hz2 rfl (by omega) (.slice ax s cx) s _ rfl (hown4.alloc _) ⟨w4.heap.size,0,none⟩ 1 1 [.int .u32 (((nj:Int)+1) * 65536+op)] rfl rfl (World.news_of_block (cs:=#[.int .u32 (((nj:Int)+1) * 65536+op)]) (t:=22) (fr:=(0,0)) (heap_alloc_new w4 _)) (by simp [Value.oneCell']) (by omega) (by unfold maxLen;omega) (by omega) (by simp;omega) (w4.heap.size+1) (by simp) ?_)
   intro g5 cap5 w5 hown5 hgrow5 hat5 hlt5
   have hr5:=(hgrow5.block wr.heap.size (by simp;omega) (fun e=>by have:=(hob _ e.symm).2;omega)).trans ((Below.heap_alloc w4 _ _ (by omega)).trans hr4)
   have hres5:=(hgrow5.block (w.heap.size+1) (by simp;omega) (fun e=>by have:=(hob _ e.symm).1;omega)).trans ((Below.heap_alloc w4 _ _ (by omega)).trans hres4)
   have hbw5:Below w.heap.size w w5:=(hbw4.alloc (by omega) _).grown hgrow5 (by simp;omega) (fun k hk=>(by have:=(hob k hk).1;omega))
   have s5:=hgrow5.size
   simp only [World.size_alloc] at s5
   obtain⟨d0,d1,_⟩:=cell_of_two hr5
   have hg5:w.heap.size+2≤g5:=by
    rcases hat5 with h | h
    ·exact (hob _ h).1
    ·omega
   clear hgrow5 hat5 hown4 hr4 hres4 hbw4 hob hr5
   have hown6:w5.ownsRow (w.heap.size+2) 22 1 (.slice (some ⟨g5,0,none⟩) (s+1) cap5) (s+1) ((ws++[((nj:Int)+1) * 65536+op]).map (Value.int .u32)):=by simpa using hown5
   clear hown5
   by_cases hnj:nj=0
   ·subst hnj
    have hms:ms=[]:=List.eq_nil_of_length_eq_zero HP3.out
    subst hms
    have hcap:s+1≤cap5:=by
     rcases hown6.2 with ⟨h,_⟩ | ⟨g,c',cur,h,_,_,h4,_⟩
     ·simp at h
     ·cases h;exact h4
    go_wp2_with (at_builtin;refine append_run _ rfl (.tmp 45) (.tmp 47) 52 rfl (.slice (some ⟨g5,0,none⟩) (s+1) cap5) (.slice aj 0 cj) _ _ rfl rfl (fun ty=>run_append_nothing _ _ ty 22 i0 Tryz.underlying52 hi (some ⟨g5,0,none⟩) (s+1) cap5 hcap aj cj) ?_)
    go_wp2
    go_roundw
    case rel=>exact⟨k+1,by omega,by go_num,by rw [HWK.out,HS.out];simpa using hown6,hres5,hbw5⟩
    case measure=>simp [intOf];omega
   ·obtain⟨b6,off6,rfl,_,_⟩:=p4 0 (by rw [HP3.out];omega)
    have hv5:=p4.below hbw5
    have hnews:∀ j u,(ms.map (Value.int .u32))[j]?=some u→w5.cell? ((⟨b6,off6,none⟩:Addr).add j)=some u:=by
     intro j u hj
     rw [List.getElem?_map] at hj
     have hjl:j<ms.length:=by
      rcases Nat.lt_or_ge j ms.length with h | h
      ·exact h
      ·rw [List.getElem?_eq_none h] at hj;simp at hj
     obtain⟨b',off',e',_,hc'⟩:=hv5 j hjl
     simp at e'
     obtain⟨rfl,rfl⟩:=e'
     rw [Addr.add_lit,hc',← hj,List.getElem?_eq_getElem hjl]
     simp [nth,List.getD,hjl]
    clear p4 hv5
    go_wp2_with (at_builtin;refine wpList_append_lies _ rfl (.tmp 45) (.tmp 47) 52 rfl (w.heap.size+2) 22 i0 (.int .u32 0) 1 4 Tryz.underlying52 hi hz0 hz1 hz2 rfl (by omega) (.slice (some ⟨g5,0,none⟩) (s+1) cap5) (s+1) _ rfl hown6 ⟨b6,off6,none⟩ nj cj (ms.map (Value.int .u32)) rfl (by rw [List.length_map,HP3.out];omega) hnews (ints_oneCell .u32 ms) (by omega) (by unfold maxLen;omega) (by omega) (by omega) w5.heap.size rfl ?_)
    intro g7 cap7 w7 hown7 hgrow7 hat7 hlt7
    have hres7:=(hgrow7.block (w.heap.size+1) (by omega) (fun e=>by simp [Value.ownBlock] at e;omega)).trans hres5
    have hbw7:Below w.heap.size w w7:=hbw5.grown hgrow7 hbw5.size (fun k hk=>by simp [Value.ownBlock] at hk;omega)
    clear hgrow7 hat7 hown6 hres5 hbw5 hnews d0 d1
    go_wp2
    go_roundw
    case rel=>exact⟨k+1,by omega,by go_num,by rw [HWK.out,HS.out];simpa using hown7,hres7,hbw7⟩
    case measure=>simp [intOf];omega
  ·obtain rfl:k=n:=by omega
   obtain⟨c0,c1,f1⟩:=cell_of_two hres
   have f0:wr.frozen? ⟨w.heap.size+1,0,none⟩=false:=by simp [World.frozen?,hres]
   have hz:=spot_set hres (.int .i64 0) (.int .i64 0)
   have HZ:Hid (_∧_):=hz
   clear hz hres ha hok hob
   go_wp2
   refine bodyPost_ret (v:=.tuple #[.slice ax (sizeTo rs k) cx,.agg #[.int .i64 0,.int .i64 0]]) (by simp [results,Tryz.results71,go_sem,HZ.out.1,HZ.out.2]) rfl ⟨ax,cx,_,rfl,HWL.out k hk,?_,?_⟩
   ·exact own_base (ownsRow_setCell_below (ownsRow_setCell_below hown (by simp) _) (by simp) _) (by omega)
   ·exact (hnx.setCell (by simp) _).setCell (by simp) _
theorem writeC:WriteC 71:=by
 intro gen bound a n cap rs w _ _ hb0 hb3 ha hok hl hn _
 by_cases h1:bound=0∨65536<bound
 ·have e1:writeE bound rs=(24,0):=by unfold writeE;rw [if_pos h1]
  refine (write_bound gen bound a n cap w hb0 hb3 h1).mono ?_
  rintro e w' ⟨rfl,hb⟩
  refine⟨hb,none,0,0,?_,?_,?_⟩
  ·simp [e1]
  ·simp [writeL,e1]
  ·simp only [writeL,e1];exact World.ownsRow_nil _ _ _ _
 ·have e1:writeE bound rs=fault rs 0:=by unfold writeE;rw [if_neg h1]
  have h2:¬ bound=0:=fun h=>h1 (.inl h)
  have h3:¬ 65536<bound:=fun h=>h1 (.inr h)
  rcases fault_any rs with hz | hz
  ·refine (write_ok gen bound a n cap rs w hb0 h2 h3 ha hok hl hn hz).mono ?_
   rintro e w' ⟨ax,cx,m,rfl,h4,h5,hb⟩
   have e2:writeL gen bound rs=writeTo gen bound rs n:=by unfold writeL;rw [e1,hz,if_pos rfl,hl]
   refine⟨hb,ax,cx,m,?_,?_,?_⟩
   ·rw [e1,hz];rfl
   ·rw [e2];exact h4
   ·rw [e2];exact h5
  ·refine (write_fault gen bound a n cap rs w hb0 h2 h3 ha hok hl hn hz).mono ?_
   rintro e w' ⟨rfl,hb⟩
   have e2:writeL gen bound rs=[]:=by unfold writeL;rw [e1,if_neg hz]
   refine⟨hb,none,0,0,?_,?_,?_⟩
   ·rw [e1]
   ·rw [e2];rfl
   ·rw [e2];exact World.ownsRow_nil _ _ _ _
theorem headOf_any (g b:Int) (a:Option Addr) (n c:Nat) (w:World) :
  Calls Tryz.prog 72 #[modV g b a n c] w fun e w'=>e=.returned (.agg #[.int .u32 g,.int .u32 b])∧Below w.heap.size w w':=by
 unfold modV
 go_enter Tryz.func72,Tryz.ntmps72
 go_wp2
 refine bodyPost_ret (v:=.agg #[.int .u32 g,.int .u32 b]) ?_ rfl ⟨rfl,?_⟩
 ·simp [results,Tryz.results72,go_sem]
 ·exact two_boxes w _ _
set_option linter.unusedSimpArgs false
def hasL (has:Bool) (c:Int) (zs:List Int) (n:Int):List Int:=if has then putL c 1 zs [n] else zs
def hasC (has:Bool) (c:Int):Int:=if has then c+1 else c
set_option maxHeartbeats 1000000 in
theorem ownIdW_any (B:Nat) (o:Int) (f:Frm) (b:Int) (zs:List Int) (c:Int) (n:Int) (has:Bool) (wr:Int) (w:World) (hW:Wrt w B o f b zs c) (hc:c+1<9223372036854775808) (hwr:wr≠0) :
  Calls Tryz.prog 82 #[.pointer (some ⟨B,0,none⟩),.int .u32 n,.bool has,.int .i64 wr] w fun e w'=>e=.returned (.int .i64 (idE has n b wr))∧KeepW B w w'∧(idE has n b wr=0→Wrt w' B o f b (hasL has c zs n) (hasC has c))∧(idE has n b wr≠0→Wrt w' B o f b zs c):=by
 by_cases hn:n=0
 ·subst hn
  cases has
  ·have e1:idE false 0 b wr=0:=by simp [idE]
   rw [e1]
   go_enter Tryz.func82,Tryz.ntmps82
   go_wp2
   go_ret
   exact⟨rfl,KeepW.refl _ _,fun _=>hW,fun _=>hW⟩
  ·have e1:idE true 0 b wr=wr:=by simp [idE]
   rw [e1]
   go_enter Tryz.func82,Tryz.ntmps82
   go_wp2
   go_ret
   exact⟨rfl,KeepW.refl _ _,fun h=>absurd h hwr,fun _=>hW⟩
 ·have hn':(n==0)=false:=by simpa using hn
  have hn2:(n != 0)=true:=by simpa using hn
  cases has
  ·have e1:idE false n b wr=wr:=by simp [idE,hn]
   rw [e1]
   go_enter Tryz.func82,Tryz.ntmps82
   go_wp2
   go_ret
   exact⟨rfl,KeepW.refl _ _,fun h=>absurd h hwr,fun _=>hW⟩
  ·have e1:idE true n b wr=faultW 105 n b:=by
    have:kindI 105=1:=by decide
    simp [idE,hn,faultW,this,noneB]
   have hP:=putWord_any B o f b zs c 105 (1,n,⟨#[]⟩) w hW hc
   unfold argV at hP
   simp only at hP
   rw [e1]
   generalize faultW 105 n b=r at *
   clear e1
   go_enter Tryz.func82,Tryz.ntmps82
   go_wp2_with fail
   refine hP.mono ?_
   rintro e w1 ⟨rfl,hk,hw1,hw2⟩
   clear hP
   go_wp2
   go_ret
   exact⟨rfl,hk,hw1,hw2⟩
theorem Wrt.cells {w:World} {B:Nat} {o:Int} {f:Frm} {b:Int} {zs:List Int} {c:Int} (h:Wrt w B o f b zs c):w.cell? ⟨B,0,none⟩=some (.int .u16 o)∧w.cell? ⟨B,2,none⟩=some (.bool f.2.1)∧w.cell? ⟨B,3,none⟩=some (.bool f.2.2.1)∧w.cell? ⟨B,10,none⟩=some (.int .i64 c):=by
 obtain⟨⟨v,h1,h2⟩,h3⟩:=h
 obtain⟨hc,_⟩:=one_block h1
 exact⟨hc 0,hc 2,hc 3,hc 10⟩
def ArgsL (w:World) (B:Nat) (a:Option Addr) (l:List ArgT):Prop :=
 ∀ j,j<l.length→∃ b off,a=some ⟨b,off,none⟩∧b<B∧w.cell? ⟨b,off+j * 3,none⟩=some (.int .u8 (nthA l j).1)∧w.cell? ⟨b,off+j * 3+1,none⟩=some (.int .u32 (nthA l j).2.1)∧w.cell? ⟨b,off+j * 3+2,none⟩=some (.string (nthA l j).2.2)
theorem ArgsL.of {w:World} {a:Option Addr} {l:List ArgT} (h:ArgsV w a l):ArgsL w w.heap.size a l:=h
theorem ArgsL.view {w:World} {B:Nat} {a:Option Addr} {l:List ArgT} (h:ArgsL w B a l) (hB:B≤w.heap.size):ArgsV w a l:=fun j hj=>by
 obtain⟨b,off,e,hlt,h1⟩:=h j hj
 exact⟨b,off,e,by omega,h1⟩
theorem ArgsL.below {w w':World} {B:Nat} {a:Option Addr} {l:List ArgT} (h:ArgsL w B a l) (hb:Below B w w'):ArgsL w' B a l:=fun j hj=>by
 obtain⟨b,off,e,hlt,h1,h2,h3⟩:=h j hj
 exact⟨b,off,e,hlt,(hb.cell (p:=⟨b,off+j * 3,none⟩) hlt).trans h1,(hb.cell (p:=⟨b,off+j * 3+1,none⟩) hlt).trans h2,(hb.cell (p:=⟨b,off+j * 3+2,none⟩) hlt).trans h3⟩
theorem ArgsL.mono {w:World} {B B':Nat} {a:Option Addr} {l:List ArgT} (h:ArgsL w B a l) (hb:B≤B'):ArgsL w B' a l:=fun j hj=>by
 obtain⟨b,off,e,hlt,h1⟩:=h j hj
 exact⟨b,off,e,by omega,h1⟩
theorem ids_words (f:Frm) (t r:Int):hasL f.2.2.1 (hasC f.2.1 1) (hasL f.2.1 1 [] t) r=headW f t r∧hasC f.2.2.1 (hasC f.2.1 1)=1+(headW f t r).length:=by
 cases h1:f.2.1 <;> cases h2:f.2.2.1 <;> simp [hasL,hasC,headW,h1,h2,putL]
theorem four_cells {w:World} {G T:Nat} {a b c d:Value} (h:w.heap[G]?=some (.cells #[a,b,c,d] T (0,0))):w.cell? ⟨G,0,none⟩=some a∧w.cell? ⟨G,1,none⟩=some b∧w.cell? ⟨G,2,none⟩=some c∧w.cell? ⟨G,3,none⟩=some d:=by
 obtain⟨hc,_⟩:=one_block h
 exact⟨hc 0,hc 1,hc 2,hc 3⟩
set_option maxHeartbeats 2000000 in
theorem winst_any (B:Nat) (f:Frm) (b:Int) (x:InstT) (ax:Option Addr) (n cx:Nat) (w:World) (hW:Wrt w B x.1 f b [] 1) (hf:lookF refT x.1=(f,true)) (hok:InstOk x) (hv:ArgsL w B ax x.2.2.2) (hl:x.2.2.2.length=n) :
  Calls Tryz.prog 48 #[.pointer (some ⟨B,0,none⟩),instV x ax n cx] w fun e w'=>e=.returned (.int .i64 (faultI f x b))∧KeepW B w w'∧(faultI f x b=0→∃ c,Wrt w' B x.1 f b (rawL f x) c):=by
 obtain⟨xo,xt,xr,xl⟩:=x
 unfold instV
 simp only at *
 obtain⟨_,_,_,_,_,_,hal,han⟩:=hok
 simp only at *
 have hBl:=hW.lt
 have hb1:Below w.heap.size w (w.alloc (.cells #[.int .u16 xo,.int .u32 xt,.int .u32 xr,.slice ax n cx] 38)):=(Below.refl _ w).alloc (Nat.le_refl _) _
 have hW1:=hW.below hb1
 have hG1:=alloc_new w #[.int .u16 xo,.int .u32 xt,.int .u32 xr,.slice ax n cx] 38
 have hK1:=KeepW.of_below hb1 (Nat.le_of_lt hBl)
 have hO:=fun zs c n has wr wx (h:Wrt wx B xo f b zs c) h2 h3=>ownIdW_any B xo f b zs c n has wr wx h h2 h3
 have HE:Hid (faultI f (xo,xt,xr,xl) b=if idE f.2.1 xt b 40≠0 then idE f.2.1 xt b 40 else if idE f.2.2.1 xr b 41≠0 then idE f.2.2.1 xr b 41 else if wrongL f b 0 xl≠0 then wrongL f b 0 xl else if wholeN f xl.length=false then 42 else if 65535<1+(rawL f (xo,xt,xr,xl)).length then 25 else 0):=rfl
 generalize hfe:faultI f (xo,xt,xr,xl) b=fe at HE ⊢
 clear hfe
 have iw:=ids_words f xt xr
 go_enter Tryz.func48,Tryz.ntmps48
 go_wp2_with fail
 generalize w.alloc (.cells #[.int .u16 xo,.int .u32 xt,.int .u32 xr,.slice ax n cx] 38)=W at *
 have hO1:=hO [] 1 xt f.2.1 40 W.drew (hW1.below (below_drew W)) (by omega) (by omega)
 have c1:=hW1.cells.2.1
 have c2:=(four_cells hG1).2.1
 generalize hr1:idE f.2.1 xt b 40=r1 at *
 go_region_held2 (fun wx=>wx.cell? ⟨B,2,none⟩=some (.bool f.2.1)∧wx.cell? ⟨w.heap.size,1,none⟩=some (.int .u32 xt))
  (first | exact⟨c1,c2⟩ | assumption)
  (first | (go_at_call 82;refine hO1.mono ?_;rintro e w2 ⟨rfl,hk2,hy2,hn2⟩;have hS:w2.cell? ⟨B,2,none⟩=some (.bool f.2.1)∧w2.cell? ⟨w.heap.size,1,none⟩=some (.int .u32 xt):=⟨(by by_cases h:r1=0;exact (hy2 h).cells.2.1;exact (hn2 h).cells.2.1),(four_cells (hk2.keep _ _ _ _ hG1 (by omega) (by decide))).2.1⟩))
 clear hO1 c1 c2
 have hK2:KeepW B w w2:=hK1.trans ((KeepW.of_below (below_drew W) (by have:=hb1.size;omega)).trans hk2)
 have hG2:=hk2.keep _ _ _ _ hG1 (by omega) (by decide)
 clear hk2 hG1 hW1 hK1
 by_cases z1:r1=0
 ·subst z1
  have hW2:=hy2 rfl
  clear hy2 hn2 hS
  go_wp2
  have hO2:=hO (hasL f.2.1 1 [] xt) (hasC f.2.1 1) xr f.2.2.1 41 w2.drew (hW2.below (below_drew w2)) (by unfold hasC;split <;> omega) (by omega)
  rw [iw.1,iw.2] at hO2
  have c1:=hW2.cells.2.2.1
  have c2:=(four_cells hG2).2.2.1
  generalize hr2:idE f.2.2.1 xr b 41=r2 at *
  go_region_held2 (fun wx=>wx.cell? ⟨B,3,none⟩=some (.bool f.2.2.1)∧wx.cell? ⟨w.heap.size,2,none⟩=some (.int .u32 xr))
   (first | exact⟨c1,c2⟩ | assumption)
   (first | (go_at_call 82;refine hO2.mono ?_;rintro e w3 ⟨rfl,hk3,hy3,hn3⟩;have hS:w3.cell? ⟨B,3,none⟩=some (.bool f.2.2.1)∧w3.cell? ⟨w.heap.size,2,none⟩=some (.int .u32 xr):=⟨(by by_cases h:r2=0;exact (hy3 h).cells.2.2.1;exact (hn3 h).cells.2.2.1),(four_cells (hk3.keep _ _ _ _ hG2 (by omega) (by decide))).2.2.1⟩))
  clear hO2 c1 c2
  have hK3:KeepW B w w3:=hK2.trans ((KeepW.of_below (below_drew w2) (by have:=hK2.below.size;omega)).trans hk3)
  have hG3:=hk3.keep _ _ _ _ hG2 (by omega) (by decide)
  clear hk3 hG2 hW2 hK2
  by_cases z2:r2=0
  ·subst z2
   have hW3:=hy3 rfl
   clear hy3 hn3 hS
   have c3:=(four_cells hG3).2.2.2
   have hK3w:=hK3
   go_wp2
   have HF:Hid (lookF refT xo=(f,true)):=hf
   have HL:Hid (xl.length=n):=hl
   have hLt:=fun (k:Nat) (hk:k<140737488351232) w=>grammarLetter_any xo k w (by omega)
   rw [hf] at hLt
   have hsh:=look_noText xo
   rw [hf] at hsh
   obtain⟨hnt,hsf⟩:=hsh
   have hfx:f.2.2.2.1.size≤1000:=by simp [shortF] at hsf;omega
   have hc0:((headW f xt xr).length:Int)≤2:=by
    unfold headW
    cases f.2.1 <;> cases f.2.2.1 <;> simp
   have hn47:n<140737488351232:=by omega
   have hWh:=fun wx (h:ArgsV wx ax xl) (h0:wx.cell? ⟨B,0,none⟩=some (.int .u16 xo)) (hB:B<wx.heap.size)=>formWhole_any B xo ax n cx xl wx hB h0 h hl (by omega)
   rw [hf] at hWh
   have hfeW:∀ v,v≠0→wrongL f b 0 xl=v→fe=v:=fun v hv h=>by rw [HE.out,h];simp [hv]
   have hfeH:wrongL f b 0 xl=0→wholeN f xl.length=false→fe=42:=fun h h2=>by rw [HE.out,h,h2];simp
   have hfeC:wrongL f b 0 xl=0→wholeN f xl.length=true→fe=if 65535<1+(rawL f (xo,xt,xr,xl)).length then 25 else 0:=fun h h2=>by rw [HE.out,h,h2];simp
   clear HE hf hl hsf hO
   go_loopw [41] (fun i wr=>∃ (k:Nat) (zs:List Int) (c:Int),k≤n∧i=.int .i64 k∧Wrt wr B xo f b zs c∧KeepW B w wr∧wr.heap[w.heap.size]?=some (.cells #[.int .u16 xo,.int .u32 xt,.int .u32 xr,.slice ax n cx] 38 (0,0))∧(∀ j,j<k→wrongA (letterI f (j:Int)) (nthA xl j) b=0) ∧
     c=1+(headW f xt xr).length+(wordsL (xl.take k)).length∧(c≤65535→zs=headW f xt xr++wordsL (xl.take k))∧c≤3+k+((min k 1000:Nat):Int) * 140737488351233) (fun i _=>n - (intOf i).toNat)
   case atStart=>exact⟨0,_,_,Nat.zero_le _,rfl,hW3,hK3w,hG3,fun j hj=>by omega,by simp [wordsL],fun _=>by simp [wordsL],by simp;omega⟩
   case round =>
    obtain⟨k,zs,c,hk,rfl,hWr,hKr,hGr,hall,hce,hzs,hcb⟩:=hrel
    clear hW3 hK3 hK3w hG3 c3
    have HALL:Hid (∀ j,j<k→wrongA (letterI f (j:Int)) (nthA xl j) b=0):=hall
    have HCE:Hid (c=1+(headW f xt xr).length+(wordsL (xl.take k)).length):=hce
    have HZS:Hid (c≤65535→zs=headW f xt xr++wordsL (xl.take k)):=hzs
    clear hall hce hzs
    have hBr:=hWr.lt
    have hszr:=hKr.below.size
    have hA:=hv.below hKr.below
    by_cases hlt:k<n
    ·have hkl:k<xl.length:=by rw [HL.out];exact hlt
     obtain⟨b1,o1,rfl,hb1l,p1,p2,p3⟩:=hA k hkl
     have hax:=hal k hkl
     have hL:=hLt k (by omega)
     have hMs:=fun w=>mayStand_any (letterI f (k:Int)) (nthA xl k) w
     have hPW:=fun wx (h:Wrt wx B xo f b zs c)=>putWord_any B xo f b zs c (letterI f (k:Int)) (nthA xl k) wx h (by omega)
     have hPN:=fun wx (h:Wrt wx B xo f b zs c) j hj h0=>putText_nul B xo f b zs c (letterI f (k:Int)) (nthA xl k) wx h j hj h0
     have hPT:=fun wx (h:Wrt wx B xo f b zs c) (hnn:NoNul (nthA xl k).2.2) (h2:(nthA xl k).2.2.size≤140737488351232)=>putText_ok B xo f b zs c (letterI f (k:Int)) (nthA xl k) wx h hnn h2 (by omega)
     have hPu:=fun w=>putter_any B (nthA xl k).1 w
     unfold argV at hMs hPW hPN hPT
     have hki:(k:Int)<(n:Int):=by omega
     have hk0:(0:Int)≤(k:Int):=by omega
     have w0:=hWr.cells.1
     have hwr:∀ v,v≠0→wrongA (letterI f (k:Int)) (nthA xl k) b=v→fe=v:=fun v hv0 h=>hfeW v hv0 (by
      rw [wrongL_first (k:=0) (j:=k) hkl (fun i hi=>by rw [Nat.zero_add];exact HALL.out i hi) (by rw [Nat.zero_add,h];exact hv0),Nat.zero_add,h])
     have hnext:wrongA (letterI f (k:Int)) (nthA xl k) b=0→∀ j,j<k+1→wrongA (letterI f (j:Int)) (nthA xl j) b=0:=fun h j hj=>by
      by_cases hjk:j<k
      ·exact HALL.out j hjk
      ·obtain rfl:j=k:=by omega
       exact h
     have htk:=wordsL_take xl k hkl
     have hkind:kindI (letterI f (k:Int))=3→k<1000:=fun h=>Nat.lt_of_lt_of_le (text_fixed hnt h) hfx
     have HN:Hid (∀ v,v≠0→wrongA (letterI f (k:Int)) (nthA xl k) b=v→fe=v):=hwr
     have HX:Hid (wrongA (letterI f (k:Int)) (nthA xl k) b=0→∀ j,j<k+1→wrongA (letterI f (j:Int)) (nthA xl j) b=0):=hnext
     have HT:Hid (wordsL (xl.take (k+1))=wordsL (xl.take k)++wordsA (nthA xl k)):=htk
     have HKD:Hid (kindI (letterI f (k:Int))=3→k<1000):=hkind
     clear hwr hnext htk hkind hA hWh hfeW hfeH hfeC hLt hnt hfx
     generalize nthA xl k=z at *
     obtain⟨z1,z2,z3⟩:=z
     generalize letterI f (k:Int)=cc at *
     simp only at *
     go_wp2_with fail
     have hb4:Below wr.heap.size wr (wr.alloc (.cells #[.int .u8 z1,.int .u32 z2,.string z3] 61)):=(Below.refl _ wr).alloc (Nat.le_refl _) _
     have kA:=alloc_new wr #[.int .u8 z1,.int .u32 z2,.string z3] 61
     have hl4:wr.heap.size<(wr.alloc (.cells #[.int .u8 z1,.int .u32 z2,.string z3] 61)).heap.size:=by simp
     generalize wr.alloc (.cells #[.int .u8 z1,.int .u32 z2,.string z3] 61)=W4 at *
     refine (hL _).mono ?_
     rintro e w5 ⟨rfl,hb5⟩
     have kA5:=(hb5.block _ hl4).trans kA
     have s5:=hb5.size
     obtain⟨hc5,_⟩:=one_block kA5
     have a0:=hc5 0
     have a1:=hc5 1
     have a2:=hc5 2
     clear hc5 hL
     go_wp2_with fail
     refine (hMs _).mono ?_
     rintro e w6 ⟨rfl,hb6⟩
     have s6:=hb6.size
     have kA6:=(hb6.block _ (by omega)).trans kA5
     have hb46:=hb4.trans ((hb5.trans (hb6.mono s5)).mono (by omega))
     have hW6:=hWr.below hb46
     have hG6:=(hb46.block _ (Array.getElem?_eq_some_iff.1 hGr).1).trans hGr
     have hK6:=hKr.trans (KeepW.of_below hb46 (by omega))
     obtain⟨hc6,_⟩:=one_block kA6
     have d0:=hc6 0
     have d1:=hc6 1
     have d2:=hc6 2
     have HG6:Hid (w6.heap[w.heap.size]?=some (.cells #[.int .u16 xo,.int .u32 xt,.int .u32 xr,.slice (some ⟨b1,o1,none⟩) n cx] 38 (0,0))):=hG6
     have HK6:Hid (KeepW B w w6):=hK6
     have HW6:Hid (Wrt w6 B xo f b zs c):=hW6
     clear hc6 a0 a1 a2 kA5 kA6 kA hb4 hb5 hb6 hMs hb46 hG6 hK6 hW6 hGr hWr hKr p1 p2 p3 hl4 s5 s6
     cases hms:mayStandB cc (z1,z2,z3)
     ·have e1:fe=42:=HN.out 42 (by decide) (by rw [wrongA,if_pos hms])
      subst e1
      clear d0 d1 d2
      go_wp2
      go_ret
      exact⟨rfl,HK6.out,fun h=>by cases h⟩
     ·have HMS:Hid (wrongA cc (z1,z2,z3) b=if z1=3 then (if nulS z3 then 13 else 0) else faultW cc z2 b):=by
       show _=_
       rw [wrongA,hms];simp
      have HKC:Hid (z1=kindI cc):=by
       unfold mayStandB at hms
       simp only [Bool.and_eq_true] at hms
       exact eq_of_beq hms.1.2
      clear hms
      go_wp2_with fail
      refine (hPu _).mono ?_
      rintro e w7 ⟨rfl,rfl⟩
      by_cases k3:z1=3
      ·subst k3
       rw [if_pos rfl]
       cases hnu:nulS z3
       ·have e0:wrongA cc (3,z2,z3) b=0:=by rw [HMS.out,hnu];simp
        have hP:=hPT w6 HW6.out (nulS_false.1 hnu) hax.2.2.2.2
        have hrm:z3.size≤140737488351232:=hax.2.2.2.2
        have hk1:=HKD.out HKC.out.symm
        have hlw:(wordsA (3,z2,z3)).length=z3.size / 4+1:=by rw [wordsA_len];simp
        have hww:wordsA (3,z2,z3)=textW z3:=by rw [wordsA];simp
        obtain⟨m,hm⟩:∃ m,m=z3.size / 4+1:=⟨_,rfl⟩
        rw [← hm] at hP hlw
        have hmb:m≤140737488351232:=by omega
        clear hm
        go_wp2_with fail
        refine hP.mono ?_
        rintro e w8 ⟨rfl,hk8,hW8⟩
        clear hP hPW hPN hPT hPu d0 d1 d2
        go_wp2
        go_roundw
        case rel =>
         refine⟨k+1,_,_,by omega,by go_num,hW8,HK6.out.trans hk8,hk8.keep _ _ _ _ HG6.out (by omega) (by decide),HX.out e0,?_,fun h=>?_,?_⟩
         ·rw [HT.out,List.length_append,hlw,HCE.out];push_cast;omega
         ·rw [putL,if_pos h,HZS.out (by omega),HT.out,hww,List.append_assoc]
         ·push_cast;omega
        case measure=>simp [intOf];omega
       ·have e1:fe=13:=HN.out 13 (by decide) (by rw [HMS.out,hnu];simp)
        subst e1
        obtain⟨j,hj,h0⟩:=nulS_true hnu
        have hP:=hPN w6 HW6.out j hj h0
        go_wp2_with fail
        refine hP.mono ?_
        rintro e w8 ⟨rfl,hk8⟩
        clear hP hPW hPN hPT hPu d0 d1 d2
        go_wp2
        go_ret
        exact⟨rfl,HK6.out.trans hk8,fun h=>by cases h⟩
      ·rw [if_neg k3]
       have hP:=hPW w6 HW6.out
       have HMS2:Hid (wrongA cc (z1,z2,z3) b=faultW cc z2 b):=by show _=_;rw [HMS.out,if_neg k3]
       have hww:wordsA (z1,z2,z3)=[z2]:=by rw [wordsA];simp [k3]
       generalize faultW cc z2 b=r at *
       go_wp2_with fail
       refine hP.mono ?_
       rintro e w8 ⟨rfl,hk8,hy8,_⟩
       clear hP hPW hPN hPT hPu d0 d1 d2
       by_cases hr0:r=0
       ·subst hr0
        have hW8:=hy8 rfl
        go_wp2
        go_roundw
        case rel =>
         refine⟨k+1,_,_,by omega,by go_num,hW8,HK6.out.trans hk8,hk8.keep _ _ _ _ HG6.out (by omega) (by decide),HX.out HMS2.out,?_,fun h=>?_,?_⟩
         ·rw [HT.out,List.length_append,hww,HCE.out];simp;omega
         ·rw [putL,if_pos h,HZS.out (by omega),HT.out,hww,List.append_assoc]
         ·push_cast;omega
        case measure=>simp [intOf];omega
       ·have e1:fe=r:=HN.out r hr0 HMS2.out
        subst e1
        go_wp2
        go_ret
        exact⟨rfl,HK6.out.trans hk8,fun h=>absurd h hr0⟩
    ·obtain rfl:k=n:=by omega
     have hwl:wrongL f b 0 xl=0:=wrongL_none fun i hi=>by rw [Nat.zero_add];exact HALL.out i (by rw [← HL.out];exact hi)
     have hfw:=fits_whole (f:=f) (l:=xl) (fun i hi=>wrongA_kind (HALL.out i (by rw [← HL.out];exact hi)))
     have htk:xl.take k=xl:=List.take_of_length_le (by rw [HL.out];exact Nat.le_refl _)
     have hcR:c=((1+(rawL f (xo,xt,xr,xl)).length:Nat):Int):=by rw [HCE.out,htk,rawL,List.length_append];push_cast;omega
     have hzR:c≤65535→zs=rawL f (xo,xt,xr,xl):=fun h=>by rw [HZS.out h,htk];rfl
     have hfC:=hfeC hwl
     have hfH:=hfeH hwl
     have c3:=(four_cells hGr).2.2.2
     have c10:=hWr.cells.2.2.2
     have hw0:=hWr.cells.1
     have HGR:Hid _:=hGr
     have HKR:Hid (KeepW B w wr):=hKr
     have HWR:Hid (Wrt wr B xo f b zs c):=hWr
     have hV:=hA.view (by omega)
     clear hv hA hGr hKr hWr hfeC hfeH hfeW hLt HALL HCE HZS hwl htk
     go_wp2
     have a3:=fun s:InC (Below wr.heap.size wr)=>s.cell (p:=⟨w.heap.size,3,none⟩) (Array.getElem?_eq_some_iff.1 HGR.out).1 c3
     have hF:=fun s:InC (Below wr.heap.size wr)=>Calls.inC s (hWh s.w (hV.below s.ok) (s.cell (p:=⟨B,0,none⟩) hBr hw0) (by have:=s.ok.size;omega))
     rw [hfw] at hF
     clear hWh hfw
     cases hwh:wholeN f xl.length
     ·have e1:fe=42:=hfH hwh
      subst e1
      rw [hwh] at hF
      refine wp_region_class (C:=Below wr.heap.size wr) (by kernel_rfl) (by kernel_rfl) (below_drew wr) ?_
      have hne:Nonempty (InC (Below wr.heap.size wr)):=⟨⟨wr,Below.refl _ _⟩⟩
      repeat (go_big_quiet_step ((go_at_call 85;exact hF _)))
      refine wpQuiet_nil ?_
      rintro _ ⟨s,rfl⟩
      have hfin:=HKR.out.trans (KeepW.of_below s.ok (by omega))
      clear hne hF a3
      go_wp2
      go_ret
      first | exact⟨rfl,hfin,fun h=>by cases h⟩ | exact⟨rfl,hfin⟩
     ·rw [hwh] at hF
      have hfe:=hfC hwh
      refine wp_region_class (C:=Below wr.heap.size wr) (by kernel_rfl) (by kernel_rfl) (below_drew wr) ?_
      have hne:Nonempty (InC (Below wr.heap.size wr)):=⟨⟨wr,Below.refl _ _⟩⟩
      repeat (go_big_quiet_step ((go_at_call 85;exact hF _)))
      refine wpQuiet_nil ?_
      rintro _ ⟨s,rfl⟩
      have hfin:=HKR.out.trans (KeepW.of_below s.ok (by omega))
      have hW9:=HWR.out.below s.ok
      have k10:=s.cell (p:=⟨B,10,none⟩) hBr c10
      clear hne hF a3 c10 c3
      by_cases hlg:(65535:Int)<c
      ·have e1:fe=25:=by rw [hfe,if_pos (by omega)]
       clear hfe hcR hfC hfH hzR
       subst e1
       go_wp2
       go_ret
       first | exact⟨rfl,hfin,fun h=>by cases h⟩ | exact⟨rfl,hfin⟩
      ·have e1:fe=0:=by rw [hfe,if_neg (by omega)]
       have HZR:Hid (zs=rawL f (xo,xt,xr,xl)):=hzR (by omega)
       clear hfe hcR hfC hfH hzR
       subst e1
       go_wp2
       go_ret
       have hW10:Wrt s.w B xo f b (rawL f (xo,xt,xr,xl)) c:=by rw [← HZR.out];exact hW9
       first | exact⟨rfl,hfin,fun _=>⟨c,hW10⟩⟩ | exact⟨rfl,hfin,⟨c,hW10⟩⟩
  ·have e1:fe=r2:=by rw [HE.out];simp [z2]
   subst e1
   go_wp2
   go_ret
   exact⟨rfl,hK3,fun h=>absurd h z2⟩
 ·have e1:fe=r1:=by rw [HE.out];simp [z1]
  subst e1
  go_wp2
  go_ret
  exact⟨rfl,hK2,fun h=>absurd h z1⟩
end Go.Proofs.YtonhnflilfjkbaaGreatDoor
