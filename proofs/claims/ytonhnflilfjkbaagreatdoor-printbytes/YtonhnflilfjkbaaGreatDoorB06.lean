/-
  Texts in one: AppendView, CodeAdd, WordsAtPlace, StringsIndexByte, WordsOfText, CodePut, MathI, MathT, MathN, WordsByteAt, WordsTextEnd, WordsJoin.
-/
import Derived.Test.YtonhnflilfjkbaaGreatDoorB05
namespace Go.Proofs.YtonhnflilfjkbaaGreatDoor
open Go.RowKit
set_option maxRecDepth 10000
theorem wpList_append_view {P:Program} (w:World) {ops:Array Oper} {rest:List Oper} {o:Oper} {a:Act} {Q:Exit→Act→World→Prop} (hgd:o.guard=none) (s x:Operand) (t:TypeId)
  (ho:o.op=.call { callee:=.builtin .append,args:=#[s,x],argTypes:=#[t,t] })
  (base:Nat) (e:TypeId) (i:TypeInfo) (z:Value) (bytes:Nat) (k:IntKind) (ht:P.underlying t=some (.slice e)) (hi:P.info? e=some i) (hz:i.zero=some z)
  (hsize:i.size=1) (hby:i.bytes=bytes) (hzs:z.cells.size=1)
  (v:Value) (n:Nat) (xs:List Int) (hs:a.eval s=v) (hown:w.ownsRow base e 1 v n (xs.map (Value.int k)))
  (ad:Option Addr) (m c:Nat) (zs:List Int) (hx:a.eval x=.slice ad m c) (hv:View k w ad zs) (hl:zs.length=m)
  (h63:n+m≤maxLen) (hbytes:(n+m) * bytes≤140737488355328) (hbase:base≤w.heap.size)
  (h:∀ v' w',w'.ownsRow base e 1 v' (n+m) ((xs++zs).map (Value.int k))→w.grownBy w' v.ownBlock→wpList P ops Q rest (a.put o.dst v') w'):wpList P ops Q (o :: rest) a w:=by
 by_cases h0:m=0
 ·subst h0
  have hz0:zs=[]:=List.eq_nil_of_length_eq_zero hl
  subst hz0
  obtain⟨b,n',cap,hve,hle⟩:∃ b n' cap,v=.slice b n' cap∧n'≤cap:=by
   rcases hown.2 with ⟨rfl,rfl⟩ | ⟨g,cap,cur,rfl,_,_,hle,_⟩
   ·exact⟨_,_,_,rfl,Nat.le_refl _⟩
   ·exact⟨_,_,_,rfl,hle⟩
  refine append_run w hgd s x t ho v _ v w hs hx (fun ty=>?_) ?_
  ·rw [hve];exact run_append_nothing w t ty e i ht hi b n' cap hle ad c
  ·refine h v w ?_ ⟨rfl,rfl,rfl,Nat.le_refl _,fun _ _ _=>rfl⟩
   rw [List.append_nil];exact hown
 ·obtain⟨b',o',rfl,_,_⟩:=hv 0 (by omega)
  refine wpList_append_own w hgd s x t ho base e i z 1 bytes ht hi hz hsize hby hzs (by omega) v n (xs.map (Value.int k)) hs hown ⟨b',o',none⟩ m c (zs.map (Value.int k)) hx (by rw [List.length_map,hl];omega) ?_ ?_ h63 hbytes hbase (fun v' w' h2 h3 _=>h v' w' (by rw [List.map_append];exact h2) h3)
  ·intro j u hj
   rw [List.getElem?_map] at hj
   have hjl:j<zs.length:=by
    rcases Nat.lt_or_ge j zs.length with h | h
    ·exact h
    ·rw [List.getElem?_eq_none h] at hj;simp at hj
   obtain⟨b2,o2,e2,_,hc⟩:=hv j hjl
   simp at e2
   obtain⟨rfl,rfl⟩:=e2
   rw [Addr.add_lit,hc,← hj,List.getElem?_eq_getElem hjl]
   simp [nth,List.getD,hjl]
  ·intro u hu
   obtain⟨y,_,rfl⟩:=List.mem_map.1 hu
   rfl
theorem View.ofOwned {k:IntKind} {w:World} {B e n:Nat} {v:Value} {zs:List Int} (h:w.ownsRow B e 1 v n (zs.map (Value.int k))):∃ a cap,v=.slice a n cap∧View k w a zs∧zs.length=n:=by
 have hl:zs.length=n:=by have:=h.1;simpa using this
 have hc:=fun g hg=>h.cells (g:=g) hg
 rcases h.2 with ⟨rfl,rfl⟩ | ⟨g,cap,cur,rfl,_,hg,_⟩
 ·exact⟨none,0,rfl,fun j hj=>by omega,hl⟩
 ·refine⟨some ⟨g,0,none⟩,cap,rfl,fun j hj=>⟨g,0,rfl,(Array.getElem?_eq_some_iff.1 hg).1,?_⟩,hl⟩
  have:=hc g rfl j (.int k (nth zs j)) (by simp [nth,List.getD,hj])
  rw [Addr.add_lit] at this
  exact this
set_option linter.unusedVariables false
set_option linter.unusedSimpArgs false
def wrtC (o:Int) (f:Frm) (b:Int) (v:Value) (c:Int):Array Value:=#[.int .u16 o,.string f.1,.bool f.2.1,.bool f.2.2.1,.string f.2.2.2.1,.string f.2.2.2.2.1,.int .i64 f.2.2.2.2.2.1,.int .u8 f.2.2.2.2.2.2,.int .u32 b,v,.int .i64 c]
structure Wrt (w : World) (B : Nat) (o : Int) (f : Frm) (b : Int) (zs : List Int) (c : Int) : Prop where
  box : ∃ v, w.heap[B]? = some (.cells (wrtC o f b v c) 94 (0, 0)) ∧ w.ownsRow (B + 1) 22 1 v zs.length (zs.map (Value.int .u32))
  len : (zs.length : Int) + 1 ≤ c ∧ zs.length ≤ 65535
structure KeepW (B : Nat) (w w' : World) : Prop where
  below : Below B w w'
  keep : ∀ k cs T fr, w.heap[k]? = some (.cells cs T fr) → k ≠ B → T ≠ 22 → w'.heap[k]? = some (.cells cs T fr)
theorem KeepW.refl (B:Nat) (w:World):KeepW B w w:=⟨Below.refl _ _,fun _ _ _ _ h _ _=>h⟩
theorem KeepW.trans {B:Nat} {w w' w'':World} (h:KeepW B w w') (h':KeepW B w' w''):KeepW B w w'':=⟨h.below.trans h'.below,fun k cs T fr e n t=>h'.keep k cs T fr (h.keep k cs T fr e n t) n t⟩
theorem KeepW.of_below {B:Nat} {w w':World} (h:Below w.heap.size w w') (hB:B≤w.heap.size):KeepW B w w':=⟨h.mono hB,fun k cs T fr e _ _=>(h.block k (Array.getElem?_eq_some_iff.1 e).1).trans e⟩
theorem Wrt.below {w w':World} {B:Nat} {o:Int} {f:Frm} {b:Int} {zs:List Int} {c:Int} (h:Wrt w B o f b zs c) (hb:Below w.heap.size w w'):Wrt w' B o f b zs c:=by
 obtain⟨⟨v,h1,h2⟩,h3⟩:=h
 exact⟨⟨v,(hb.block B (Array.getElem?_eq_some_iff.1 h1).1).trans h1,own_below h2 hb⟩,h3⟩
theorem Wrt.lt {w:World} {B:Nat} {o:Int} {f:Frm} {b:Int} {zs:List Int} {c:Int} (h:Wrt w B o f b zs c):B<w.heap.size:=by
 obtain⟨⟨v,h1,h2⟩,h3⟩:=h
 exact (Array.getElem?_eq_some_iff.1 h1).1
theorem setBox {w:World} {B T:Nat} {cs:Array Value} (h:w.heap[B]?=some (.cells cs T (0,0))) (i:Nat) (u:Value):(w.setCell ⟨B,i,none⟩ u).heap[B]?=some (.cells (cs.setIfInBounds i u) T (0,0)):=by
 simp [World.setCell,Array.getElem?_modify,h]
theorem ownFar {w:World} {lo e size n B:Nat} {v:Value} {xs:List Value} (h:w.ownsRow lo e size v n xs) (hB:B<lo) (i:Nat) (u:Value):(w.setCell ⟨B,i,none⟩ u).ownsRow lo e size v n xs:=by
 refine⟨h.1,?_⟩
 rcases h.2 with hn | ⟨g,cap,cur,rfl,hb,hgg,rest⟩
 ·exact .inl hn
 ·refine .inr ⟨g,cap,cur,rfl,hb,?_,rest⟩
  exact (Below.heap_setCell _ _ _ _ (by simp;omega)).trans hgg
theorem setOther {w:World} {B k:Nat} (i:Nat) (u:Value) (h:k≠B):(w.setCell ⟨B,i,none⟩ u).heap[k]?=w.heap[k]?:=Below.heap_setCell _ _ _ _ (by simpa using h)
theorem own_type {w:World} {lo e size n g:Nat} {v:Value} {xs:List Value} (h:w.ownsRow lo e size v n xs) (hg:v.ownBlock=some g):lo≤g∧∃ cs fr,w.heap[g]?=some (.cells cs e fr):=by
 rcases h.2 with ⟨rfl,_⟩ | ⟨g',cap,cur,rfl,hb,hgg,_⟩
 ·simp [Value.ownBlock] at hg
 ·simp [Value.ownBlock] at hg
  subst hg
  exact⟨hb,_,_,hgg⟩
def putL (c k:Int) (zs ms:List Int):List Int:=if c+k≤65535 then zs++ms else zs
theorem Add.info:(Tryz.prog.info? 22).map (fun i=>(i.zero,i.size,i.bytes))=some (some (.int .u32 0),1,4):=by kernel_rfl
set_option maxRecDepth 10000 in
set_option maxHeartbeats 1000000 in
theorem add_any (B:Nat) (o:Int) (f:Frm) (b:Int) (zs:List Int) (c:Int) (k:Int) (a:Option Addr) (n cap:Nat) (ms:List Int) (w:World) (hW:Wrt w B o f b zs c) (ha:View .u32 w a ms) (hnB:NewAt (B+1) a) (hl:ms.length=n) (hk:(n:Int)≤k) (hc:c+k<9223372036854775808) :
  Calls Tryz.prog 150 #[.pointer (some ⟨B,0,none⟩),.int .i64 k,.slice a n cap] w fun e w'=>e=.returned (.tuple #[])∧KeepW B w w'∧Wrt w' B o f b (putL c k zs ms) (c+k):=by
 obtain⟨i0,hi,hz0,hz1,hz2⟩:=info_parts Add.info
 obtain⟨⟨v,hbox,hown⟩,hlen,hlen2⟩:=hW
 have hBl:=(Array.getElem?_eq_some_iff.1 hbox).1
 obtain⟨hcl,hfr⟩:=one_block hbox
 have c9:=hcl 9
 have c10:=hcl 10
 have hbox1:=setBox hbox 10 (.int .i64 (c+k))
 have hown1:=ownFar hown (Nat.lt_succ_self B) 10 (.int .i64 (c+k))
 have hv1:View .u32 (w.setCell ⟨B,10,none⟩ (.int .i64 (c+k))) a ms:=ha.setCell hnB (Nat.lt_succ_self B) _
 have hwr:IntKind.i64.wrap (c+k)=c+k:=wrapI _ (by omega) (by omega)
 change w.cell? ⟨B,9,none⟩=some v at c9
 change w.cell? ⟨B,10,none⟩=some (.int .i64 c) at c10
 change (w.setCell ⟨B,10,none⟩ (.int .i64 (c+k))).heap[B]?=some (.cells (wrtC o f b v (c+k)) 94 (0,0)) at hbox1
 have f10:=hfr 10
 have f9:=hfr 9
 have hcl1:=one_block hbox1
 have d9:=hcl1.1 9
 have d10:=hcl1.1 10
 have g9:=hcl1.2 9
 change (w.setCell ⟨B,10,none⟩ (.int .i64 (c+k))).cell? ⟨B,9,none⟩=some v at d9
 change (w.setCell ⟨B,10,none⟩ (.int .i64 (c+k))).cell? ⟨B,10,none⟩=some (.int .i64 (c+k)) at d10
 clear hcl hfr hcl1
 by_cases hle:c+k≤65535
 ·rw [putL,if_pos hle]
  have HBX:Hid _:=hbox
  have HBX1:Hid _:=hbox1
  have HO1:Hid _:=hown1
  have HV1:Hid _:=hv1
  have HO:Hid _:=hown
  have HL:Hid (ms.length=n):=hl
  have HI:Hid (Tryz.prog.info? 22=some i0∧i0.zero=some (.int .u32 0)∧i0.size=1∧i0.bytes=4):=⟨hi,hz0,hz1,hz2⟩
  have hnl:(zs.length:Int)+n+1≤65535:=by omega
  clear hbox hbox1 hown1 hv1 hown hl hnB ha hi hz0 hz1 hz2
  go_enter Tryz.func150,Tryz.ntmps150
  go_wp2_with (at_builtin;refine wpList_append_view _ rfl (.tmp 23) (.tmp 24) 52 rfl (B+1) 22 i0 (.int .u32 0) 4 .u32 Tryz.underlying52 HI.out.1 HI.out.2.1 HI.out.2.2.1 HI.out.2.2.2 rfl v zs.length zs rfl HO1.out a n cap ms rfl HV1.out HL.out (by unfold maxLen;omega) (by omega) (by simp;omega) ?_)
  intro v' w2 hown2 hgr
  have hne:∀ g,v.ownBlock=some g→B≠g:=fun g e=>by have:=(own_type HO.out e).1;omega
  have hbox2:w2.heap[B]?=some (.cells (wrtC o f b v (c+k)) 94 (0,0)):=(hgr.block B (by simpa using hBl) (fun e=>hne B e.symm rfl)).trans HBX1.out
  obtain⟨hcl2,hfr2⟩:=one_block hbox2
  have e9:=hcl2 9
  have h9:=hfr2 9
  change w2.cell? ⟨B,9,none⟩=some v at e9
  rw [← List.map_append] at hown2
  obtain⟨a',cap',rfl,_,_⟩:=View.ofOwned hown2
  have HOWN2:Hid _:=hown2
  have HGR:Hid _:=hgr
  have HB2:Hid _:=hbox2
  clear hcl2 hfr2 hown2 hgr hbox2 c9 c10 d9 d10 g9 f9 f10
  go_wp2
  go_end0
  refine⟨rfl,⟨?_,?_⟩,⟨_,setBox HB2.out 9 _,?_⟩,by simp [HL.out];omega,by simp [HL.out];omega⟩
  ·refine (((Below.refl B w).setCell (p:=⟨B,10,none⟩) (Nat.le_refl _) _).grown HGR.out (by simp;omega) (fun k' e=>?_)).setCell (p:=⟨B,9,none⟩) (Nat.le_refl _) _
   have:=(own_type HO.out e).1
   omega
  ·intro k' cs T fr e hn ht
   rw [setOther 9 _ hn]
   refine (HGR.out.block k' (by simpa using (Array.getElem?_eq_some_iff.1 e).1) (fun e2=>?_)).trans ((setOther 10 _ hn).trans e)
   obtain⟨_,cs2,fr2,h2⟩:=own_type HO.out e2.symm
   rw [e] at h2
   cases h2
   exact ht rfl
  ·rw [List.length_append,HL.out]
   exact ownFar HOWN2.out (Nat.lt_succ_self B) 9 _
 ·rw [putL,if_neg hle]
  go_enter Tryz.func150,Tryz.ntmps150
  go_wp2_with fail
  go_end0
  refine⟨rfl,⟨(Below.refl _ _).setCell (p:=⟨B,10,none⟩) (Nat.le_refl _) _,fun k' cs T fr e n t=>(setOther 10 _ n).trans e⟩,⟨v,hbox1,hown1⟩,by omega,hlen2⟩
theorem atPlace_any (c p:Int) (w:World) (hx:0≤c) (hx2:c<256) (h0:0≤p) (h3:p<4) :
  Calls Tryz.prog 99 #[.int .u8 c,.int .i64 p] w fun e w'=>e=.returned (.int .u32 (plc c p.toNat))∧w=w':=by
 rcases (show p=0∨p=1∨p=2∨p=3 by omega) with rfl | rfl | rfl | rfl
 all_goals
  go_enter Tryz.func99,Tryz.ntmps99
  go_wp2
  go_ret
  exact⟨ret_int (by simp [plc]),rfl⟩
theorem indexByte_any (s:ByteArray) (w:World) :
  Calls Tryz.prog 173 #[.string s,.int .u8 0] w fun e w'=>e=.returned (.int .i64 (Lib.indexByte s.data.toList (0:Int).toNat.toUInt8))∧w=w':=by
 have hx:=fun (w:World)=>run_callFunc_extern (P:=Tryz.prog) (f:=182) Tryz.func182 (by kernel_rfl) (by kernel_rfl) (by kernel_rfl) (e:=Extern.BytealgIndexByte.indexByte) (by kernel_rfl) #[.string s,.int .u8 0] w
 simp only [Lib.run_indexByteString,Result.andThen] at hx
 generalize Lib.indexByte s.data.toList (0:Int).toNat.toUInt8=r at hx
 go_enter Tryz.func173,Tryz.ntmps173
 go_wp2
 go_ret
 exact⟨rfl,rfl⟩
theorem OfText.info:(Tryz.prog.info? 22).map (fun i=>(i.zero,i.size,i.bytes))=some (some (.int .u32 0),1,4):=by kernel_rfl
theorem ofText_nul (s:ByteArray) (w:World) (k:Nat) (hk:k<s.size) (h:nth (strI s) k=0) :
  Calls Tryz.prog 152 #[.string s] w fun e w'=>e=.returned (.tuple #[.slice none 0 0,.int .i64 13])∧w=w':=by
 have hi:=index_some s k hk h
 have hI:=indexByte_any s w
 generalize Lib.indexByte s.data.toList (0:Int).toNat.toUInt8=r at hi hI
 clear h hk
 go_enter Tryz.func152,Tryz.ntmps152
 go_wp2_with fail
 refine hI.mono ?_
 rintro e w' ⟨rfl,rfl⟩
 go_wp2
 go_ret2
 exact⟨rfl,rfl⟩
theorem ofText_large (s:ByteArray) (w:World) (hs:s.size≤140737488351232) (h:NoNul s) (hl:65535<s.size / 4+1) :
  Calls Tryz.prog 152 #[.string s] w fun e w'=>e=.returned (.tuple #[.slice none 0 0,.int .i64 4])∧w=w':=by
 have hI:=indexByte_any s w
 rw [index_none s h] at hI
 have hl':(65535:Int)<(s.size:Int) / 4+1:=by omega
 clear h
 go_enter Tryz.func152,Tryz.ntmps152
 go_wp2_with fail
 refine hI.mono ?_
 rintro e w' ⟨rfl,rfl⟩
 go_wp2
 go_ret2
 exact⟨rfl,rfl⟩
theorem room_any (s:ByteArray) (w:World) (hs:s.size≤140737488351232) :
  Calls Tryz.prog 153 #[.string s] w fun e w'=>e=.returned (.int .i64 ((s.size / 4+1:Nat):Int))∧w=w':=by
 go_enter Tryz.func153,Tryz.ntmps153
 go_wp2
 go_ret
 exact⟨ret_int (by omega),rfl⟩
set_option maxRecDepth 10000 in
set_option maxHeartbeats 1000000 in
theorem ofText_ok (s:ByteArray) (w:World) (h:NoNul s) (hl:s.size / 4+1≤65535) :
  Calls Tryz.prog 152 #[.string s] w fun e w'=>e=.returned (.tuple #[.slice (some ⟨w.heap.size,0,none⟩) (s.size / 4+1) (s.size / 4+1),.int .i64 0]) ∧
   w'.ownsRow w.heap.size 22 1 (.slice (some ⟨w.heap.size,0,none⟩) (s.size / 4+1) (s.size / 4+1)) (s.size / 4+1) ((textW s).map (Value.int .u32))∧Below w.heap.size w w':=by
 obtain⟨i0,hi,hz0,hz1,hz2⟩:=info_parts OfText.info
 have hI:=indexByte_any s w
 rw [index_none s h] at hI
 have hR:=fun wx=>room_any s wx (by omega)
 have HT:Hid (partL (padI s) s.size (s.size / 4+1)=textW s):=partL_padI s
 clear h
 obtain⟨m,hm⟩:∃ m,m=s.size / 4+1:=⟨_,rfl⟩
 rw [← hm] at HT hR ⊢
 have HM:Hid (m=s.size / 4+1):=hm
 have hsz:s.size<4 * m:=by omega
 have hm2:m≤65535:=by omega
 have hl':¬ (65535:Int)<(m:Int):=by omega
 clear hm hl
 go_enter Tryz.func152,Tryz.ntmps152
 go_wp2_with fail
 refine hI.mono ?_
 rintro e w' ⟨rfl,rfl⟩
 go_wp2_with (first | (go_at_call 153;refine (hR _).mono ?_;rintro e w' ⟨rfl,rfl⟩) | (at_make;refine wpList_make_full _ rfl _ _ 52 rfl w.heap.size 22 i0 (.int .u32 0) 1 Tryz.underlying52 hi hz0 hz1 _ _ _ _ m rfl rfl (by omega) (by omega) (by rw [hz2];omega) (by unfold maxLen;omega) (Nat.le_refl _) ?_))
 intro w1 hown1 hgrow1
 have hb1:Below w.heap.size w w1:=(Below.refl _ w).grown hgrow1 (Nat.le_refl _) (by simp)
 have hr1:=made_row (padI s) hown1
 rw [← partL_zero (padI s) (padI s)] at hr1
 clear hown1 hgrow1
 go_wp2
 go_loopw [17] (fun i wr=>∃ k:Nat,k≤s.size∧i=.int .i64 k∧wr.ownsRow w.heap.size 22 1 (.slice (some ⟨w.heap.size,0,none⟩) m m) m ((partL (padI s) k m).map (Value.int .u32))∧Below w.heap.size w wr)
  (fun i _=>s.size - (intOf i).toNat)
 case atStart=>exact⟨0,Nat.zero_le _,rfl,hr1,hb1⟩
 case round =>
  obtain⟨k,hk,rfl,hown,hnx⟩:=hrel
  clear hr1 hb1
  by_cases hlt:k<s.size
  ·have hpb:=partW_bounds (padI s) k (k / 4) (padI_within s) (by rw [padI_len];omega)
   have HP:Hid (bits .or .u32 (partW (padI s) k (k / 4)) (plc (s[k].toNat:Int) (k % 4))=partW (padI s) (k+1) (k / 4)):=by
    have:=partW_step (padI s) k (padI_within s) (by rw [padI_len];omega)
    rw [padI_lo s k hlt,nth_strI s k hlt] at this
    exact this
   have hd:wr.cell? ⟨w.heap.size,k / 4,none⟩=some (.int .u32 (partW (padI s) k (k / 4))):=by
    rw [hown.cellAt (k / 4) (by omega)]
    have:k / 4<m:=by omega
    simp [partL,this]
   have hf:wr.frozen? ⟨w.heap.size,k / 4,none⟩=false:=hown.frozenAt _
   have hs:=(hown.stored (k / 4) (.int .u32 (partW (padI s) (k+1) (k / 4)))).1
   rw [← List.map_set,partL_set] at hs
   have hx1:(s[k].toNat:Int)<256:=by have:=s[k].toNat_lt;omega
   generalize partW (padI s) k (k / 4)=y at hpb hd HP
   have hy0:=hpb.1
   have hy1:=hpb.2
   have eq:(k:Int).tdiv 4=((k / 4:Nat):Int):=by rw [Int.tdiv_eq_ediv_of_nonneg (by omega)];omega
   have em:(k:Int).tmod 4=((k % 4:Nat):Int):=by rw [Int.tmod_eq_emod_of_nonneg (by omega)];omega
   have eq':(k:Int) / 4=((k / 4:Nat):Int):=by omega
   have em':(k:Int) % 4=((k % 4:Nat):Int):=by omega
   have hj:k / 4<m:=by omega
   have hr:k % 4<4:=by omega
   have HS:Hid ((wr.setCell ⟨w.heap.size,k / 4,none⟩ (.int .u32 (bits .or .u32 y (plc (s[k].toNat:Int) (k % 4))))).ownsRow w.heap.size 22 1 (.slice (some ⟨w.heap.size,0,none⟩) m m) m ((partL (padI s) (k+1) m).map (Value.int .u32))):=by rw [HP.out];exact hs
   clear hpb hown hs HP hl' hI hR
   generalize k / 4=j at *
   generalize k % 4=r at *
   have hA:=fun wx=>atPlace_any (s[k].toNat:Int) (r:Int) wx (by omega) hx1 (by omega) (by omega)
   have hj0:(0:Int)≤(j:Int):=by omega
   have hj1:(j:Int)<(m:Int):=by omega
   have hk0:(0:Int)≤(k:Int):=by omega
   have hk1:(k:Int)<(s.size:Int):=by omega
   have hwj:IntKind.i64.wrap (j:Int)=(j:Int):=by rw [IntKind.wrap_i64];omega
   go_wp2
   go_region_with (go_at_call 99;refine (hA _).mono ?_;rintro e w' ⟨rfl,rfl⟩)
   all_goals
    go_wp2
    go_roundw
    case rel=>exact⟨k+1,by omega,by go_num,HS.out.drew,(hnx.setCell (Nat.le_refl _) _).drew⟩
    case measure=>simp [intOf];omega
  ·go_wp2
   go_ret2
   obtain rfl:k=s.size:=by omega
   rw [HT.out] at hown
   exact⟨rfl,hown,hnx⟩
theorem view_one {w:World} (n:Int):View .u32 (w.alloc (.cells #[.int .u32 n] 22)) (some ⟨w.heap.size,0,none⟩) [n]:=by
 intro j hj
 obtain rfl:j=0:=by simpa using hj
 refine⟨w.heap.size,0,rfl,by simp,?_⟩
 rw [Nat.zero_add,World.cell?_alloc_new]
 rfl
theorem Wrt.bound {w:World} {B:Nat} {o:Int} {f:Frm} {b:Int} {zs:List Int} {c:Int} (h:Wrt w B o f b zs c):w.cell? ⟨B,8,none⟩=some (.int .u32 b)∧w.cell? ⟨B,0,none⟩=some (.int .u16 o):=by
 obtain⟨⟨v,h1,h2⟩,h3⟩:=h
 obtain⟨hc,_⟩:=one_block h1
 exact⟨hc 8,hc 0⟩
set_option maxHeartbeats 1000000 in
theorem putWord_any (B:Nat) (o:Int) (f:Frm) (b:Int) (zs:List Int) (cn:Int) (c:Int) (x:ArgT) (w:World) (hW:Wrt w B o f b zs cn) (hc:cn+1<9223372036854775808) :
  Calls Tryz.prog 125 #[.pointer (some ⟨B,0,none⟩),.int .u8 c,argV x] w fun e w'=>e=.returned (.int .i64 (faultW c x.2.1 b))∧KeepW B w w'∧(faultW c x.2.1 b=0→Wrt w' B o f b (putL cn 1 zs [x.2.1]) (cn+1))∧(faultW c x.2.1 b≠0→Wrt w' B o f b zs cn):=by
 obtain⟨kd,n,st⟩:=x
 unfold argV
 simp only
 have hBl:=hW.lt
 have hW1:=hW.below ((Below.refl _ w).alloc (Nat.le_refl _) (.cells #[.int .u8 kd,.int .u32 n,.string st] 61))
 have hb1:Below w.heap.size w (w.alloc (.cells #[.int .u8 kd,.int .u32 n,.string st] 61)):=(Below.refl _ w).alloc (Nat.le_refl _) _
 have hl1:w.heap.size<(w.alloc (.cells #[.int .u8 kd,.int .u32 n,.string st] 61)).heap.size:=by simp
 have hN:(w.alloc (.cells #[.int .u8 kd,.int .u32 n,.string st] 61)).cell? ⟨w.heap.size,1,none⟩=some (.int .u32 n):=(one_block (alloc_new w #[.int .u8 kd,.int .u32 n,.string st] 61)).1 1
 obtain⟨r,hr⟩:∃ r,r=faultW c n b:=⟨_,rfl⟩
 by_cases h0:faultW c n b=0
 ·rw [h0]
  go_enter Tryz.func125,Tryz.ntmps125
  go_wp2_with fail
  generalize w.alloc (.cells #[.int .u8 kd,.int .u32 n,.string st] 61)=W at *
  have a1:=fun s:InC (Below W.heap.size W)=>s.cell (p:=⟨w.heap.size,1,none⟩) hl1 hN
  have hF:=fun s:InC (Below W.heap.size W)=>Calls.inC s (faultW_any B c n b s.w (by have:=s.ok.size;omega) (s.cell (p:=⟨B,8,none⟩) (by show B<_;omega) hW1.bound.1))
  rw [h0] at hF
  refine wp_region_class (C:=Below W.heap.size W) (by kernel_rfl) (by kernel_rfl) (below_drew W) ?_
  have hne:Nonempty (InC (Below W.heap.size W)):=⟨⟨W,Below.refl _ _⟩⟩
  repeat (go_big_quiet_step ((go_at_call 149;exact hF _)))
  refine wpQuiet_nil ?_
  rintro _ ⟨s,rfl⟩
  have a2:=a1 s
  have hW2:=hW1.below s.ok
  have hbs:=hb1.trans (s.ok.mono (by omega))
  have hss:=hbs.size
  obtain⟨s,hs⟩:=s
  simp only at *
  have hW3:=hW2.below ((Below.refl _ s).alloc (Nat.le_refl _) (.cells #[.int .u32 n] 22))
  have hA:=add_any B o f b zs cn 1 (some ⟨s.heap.size,0,none⟩) 1 1 [n] _ hW3 (view_one n) (newAt_mk (by omega)) rfl (by omega) hc
  have hK:=KeepW.of_below (hbs.trans (((Below.refl _ s).alloc (Nat.le_refl _) (.cells #[.int .u32 n] 22)).mono hss)) (show B≤w.heap.size by omega)
  clear hne hF a1 hN hW1 hW2 hW3 hs
  go_wp2_with fail
  refine hA.mono ?_
  rintro e w4 ⟨rfl,hk4,hW4⟩
  clear hA a2
  go_wp2
  go_ret
  exact⟨rfl,hK.trans hk4,fun _=>hW4,fun h=>absurd rfl h⟩
 ·have hr0:¬ r=0:=by rw [hr];exact h0
  rw [← hr]
  go_enter Tryz.func125,Tryz.ntmps125
  go_wp2_with fail
  generalize w.alloc (.cells #[.int .u8 kd,.int .u32 n,.string st] 61)=W at *
  have a1:=fun s:InC (Below W.heap.size W)=>s.cell (p:=⟨w.heap.size,1,none⟩) hl1 hN
  have hF:=fun s:InC (Below W.heap.size W)=>Calls.inC s (faultW_any B c n b s.w (by have:=s.ok.size;omega) (s.cell (p:=⟨B,8,none⟩) (by show B<_;omega) hW1.bound.1))
  rw [← hr] at hF
  have HR:Hid (r=faultW c n b):=hr
  clear hr h0
  refine wp_region_class (C:=Below W.heap.size W) (by kernel_rfl) (by kernel_rfl) (below_drew W) ?_
  have hne:Nonempty (InC (Below W.heap.size W)):=⟨⟨W,Below.refl _ _⟩⟩
  repeat (go_big_quiet_step ((go_at_call 149;exact hF _)))
  refine wpQuiet_nil ?_
  rintro _ ⟨s,rfl⟩
  have hbs:=hb1.trans (s.ok.mono (by omega))
  have hW2:=hW1.below s.ok
  clear hne hF a1 hN
  go_wp2
  go_ret
  exact⟨rfl,KeepW.of_below hbs (by omega),fun h=>absurd h hr0,fun _=>hW2⟩
theorem putText_nul (B:Nat) (o:Int) (f:Frm) (b:Int) (zs:List Int) (cn:Int) (c:Int) (x:ArgT) (w:World) (hW:Wrt w B o f b zs cn) (k:Nat) (hk:k<x.2.2.size) (h:nth (strI x.2.2) k=0) :
  Calls Tryz.prog 127 #[.pointer (some ⟨B,0,none⟩),.int .u8 c,argV x] w fun e w'=>e=.returned (.int .i64 13)∧KeepW B w w':=by
 obtain⟨kd,n,st⟩:=x
 unfold argV
 simp only at *
 have hO:=fun w=>ofText_nul st w k hk h
 have hBl:=hW.lt
 clear h
 go_enter Tryz.func127,Tryz.ntmps127
 go_wp2_with fail
 refine (hO _).mono ?_
 rintro e w1 ⟨rfl,rfl⟩
 go_wp2
 go_ret
 exact⟨rfl,KeepW.of_below ((Below.refl _ w).alloc (Nat.le_refl _) _) (by omega)⟩
theorem putText_ok (B:Nat) (o:Int) (f:Frm) (b:Int) (zs:List Int) (cn:Int) (c:Int) (x:ArgT) (w:World) (hW:Wrt w B o f b zs cn) (h:NoNul x.2.2) (hs:x.2.2.size≤140737488351232) (hc:cn+((x.2.2.size / 4+1:Nat):Int)<9223372036854775808) :
  Calls Tryz.prog 127 #[.pointer (some ⟨B,0,none⟩),.int .u8 c,argV x] w fun e w'=>e=.returned (.int .i64 0)∧KeepW B w w'∧Wrt w' B o f b (putL cn ((x.2.2.size / 4+1:Nat):Int) zs (textW x.2.2)) (cn+((x.2.2.size / 4+1:Nat):Int)):=by
 obtain⟨kd,n,st⟩:=x
 unfold argV
 simp only at *
 have hBl:=hW.lt
 have hlen:=hW.len
 have hRm:=fun w=>room_any st w hs
 have hW1:=hW.below ((Below.refl _ w).alloc (Nat.le_refl _) (.cells #[.int .u8 kd,.int .u32 n,.string st] 61))
 have hb1:Below w.heap.size w (w.alloc (.cells #[.int .u8 kd,.int .u32 n,.string st] 61)):=(Below.refl _ w).alloc (Nat.le_refl _) _
 have hl1:w.heap.size<(w.alloc (.cells #[.int .u8 kd,.int .u32 n,.string st] 61)).heap.size:=by simp
 have hS:=fun i=>(one_block (alloc_new w #[.int .u8 kd,.int .u32 n,.string st] 61)).1 i
 by_cases hl:st.size / 4+1≤65535
 ·have hO:=fun w=>ofText_ok st w h hl
  have hT:=textW_len st
  clear h
  obtain⟨m,hm⟩:∃ m,m=st.size / 4+1:=⟨_,rfl⟩
  rw [← hm] at hT hl hc ⊢
  simp only [← hm] at hO hRm
  have HM:Hid (m=st.size / 4+1):=hm
  clear hm
  obtain⟨zs',hz⟩:∃ z,z=putL cn (m:Int) zs (textW st):=⟨_,rfl⟩
  rw [← hz]
  go_enter Tryz.func127,Tryz.ntmps127
  go_wp2_with fail
  generalize w.alloc (.cells #[.int .u8 kd,.int .u32 n,.string st] 61)=W at *
  refine (hO _).mono ?_
  rintro e w2 ⟨rfl,hown2,hb2⟩
  have hS2:w2.cell? ⟨w.heap.size,2,none⟩=some (.string st):=(hb2.cell (p:=⟨w.heap.size,2,none⟩) hl1).trans (hS 2)
  have hW2:=hW1.below hb2
  have hA:=add_any B o f b zs cn (m:Int) (some ⟨W.heap.size,0,none⟩) m m (textW st) w2 hW2 (View.ofRow hown2 hT) (newAt_mk (by omega)) hT (Int.le_refl _) hc
  rw [← hz] at hA
  have hK:=KeepW.of_below (hb1.trans (hb2.mono (by omega))) (show B≤w.heap.size by omega)
  clear hown2 hb2 hW1 hW2 hS hO hT hb1 hz
  go_wp2_with fail
  refine (hRm _).mono ?_
  rintro e w3 ⟨rfl,rfl⟩
  go_wp2_with fail
  refine hA.mono ?_
  rintro e w4 ⟨rfl,hk4,hW4⟩
  clear hA
  go_wp2
  go_ret
  exact⟨rfl,hK.trans hk4,hW4⟩
 ·have hO:=fun w=>ofText_large st w hs h (by omega)
  have e1:putL cn ((st.size / 4+1:Nat):Int) zs (textW st)=putL cn ((st.size / 4+1:Nat):Int) zs []:=by
   rw [putL,putL,if_neg (by omega),if_neg (by omega)]
  rw [e1]
  clear h e1
  obtain⟨m,hm⟩:∃ m,m=st.size / 4+1:=⟨_,rfl⟩
  rw [← hm] at hl hc ⊢
  simp only [← hm] at hRm
  have HM:Hid (m=st.size / 4+1):=hm
  clear hm
  obtain⟨zs',hz⟩:∃ z,z=putL cn (m:Int) zs []:=⟨_,rfl⟩
  rw [← hz]
  go_enter Tryz.func127,Tryz.ntmps127
  go_wp2_with fail
  generalize w.alloc (.cells #[.int .u8 kd,.int .u32 n,.string st] 61)=W at *
  refine (hO _).mono ?_
  rintro e w2 ⟨rfl,rfl⟩
  have hS2:W.cell? ⟨w.heap.size,2,none⟩=some (.string st):=hS 2
  have hA:=add_any B o f b zs cn (m:Int) none 0 0 [] W hW1 view_nil (fun _ _ _ e=>by cases e) rfl (by omega) hc
  rw [← hz] at hA
  have hK:=KeepW.of_below hb1 (show B≤w.heap.size by omega)
  clear hS hO hW1 hb1 hz
  go_wp2_with fail
  refine (hRm _).mono ?_
  rintro e w3 ⟨rfl,rfl⟩
  go_wp2_with fail
  refine hA.mono ?_
  rintro e w4 ⟨rfl,hk4,hW4⟩
  clear hA
  go_wp2
  go_ret
  exact⟨rfl,hK.trans hk4,hW4⟩
theorem empty_size (s:ByteArray):s.toList.isEmpty=(s.size==0):=by
 rw [ByteArray.toList_eq,Bool.eq_iff_iff,List.isEmpty_iff,← List.length_eq_zero_iff,Array.length_toList,beq_iff_eq]
 rfl
def mayStandB (c:Int) (x:ArgT):Bool:=!(c==0) && (x.1==kindI c) && (if x.1=3 then x.2.1==0 else x.2.2.size==0)
theorem mayStand_any (c:Int) (x:ArgT) (w:World) :
  Calls Tryz.prog 83 #[.int .u8 c,argV x] w fun e w'=>e=.returned (.bool (mayStandB c x))∧Below w.heap.size w w':=by
 obtain⟨kd,n,st⟩:=x
 unfold argV
 have hb1:Below w.heap.size w (w.alloc (.cells #[.int .u8 kd,.int .u32 n,.string st] 61)):=(Below.refl _ w).alloc (Nat.le_refl _) _
 have hl1:w.heap.size<(w.alloc (.cells #[.int .u8 kd,.int .u32 n,.string st] 61)).heap.size:=by simp
 have hS:=fun i=>(one_block (alloc_new w #[.int .u8 kd,.int .u32 n,.string st] 61)).1 i
 have hS0:=hS 0
 have hS1:=hS 1
 have hS2:=hS 2
 change _=some (Value.int .u8 kd) at hS0
 change _=some (Value.int .u32 n) at hS1
 change _=some (Value.string st) at hS2
 clear hS
 by_cases h0:c=0
 ·subst h0
  have e1:mayStandB 0 (kd,n,st)=false:=by simp [mayStandB]
  rw [e1]
  go_enter Tryz.func83,Tryz.ntmps83
  go_wp2_with fail
  generalize w.alloc (.cells #[.int .u8 kd,.int .u32 n,.string st] 61)=W at *
  refine wp_region_class (C:=Below W.heap.size W) (by kernel_rfl) (by kernel_rfl) (below_drew W) ?_
  have hne:Nonempty (InC (Below W.heap.size W)):=⟨⟨W,Below.refl _ _⟩⟩
  repeat (go_big_quiet_step (fail))
  refine wpQuiet_nil ?_
  rintro _ ⟨s,rfl⟩
  have hfin:=hb1.trans (s.ok.mono (by omega))
  clear hne
  go_wp2
  go_ret
  exact⟨rfl,hfin⟩
 ·have h0':(c==0)=false:=by simpa using h0
  by_cases h1:kd=kindI c
  ·have e1:mayStandB c (kd,n,st)=(if kd=3 then n==0 else st.size==0):=by simp [mayStandB,h0',h1]
   rw [e1]
   have hKc:=fun w=>kind_any c w
   rw [← h1] at hKc
   clear h1 e1
   by_cases k3:kd=3
   ·subst k3
    rw [if_pos rfl]
    go_enter Tryz.func83,Tryz.ntmps83
    go_wp2_with fail
    generalize w.alloc (.cells #[.int .u8 3,.int .u32 n,.string st] 61)=W at *
    have a0:=fun s:InC (Below W.heap.size W)=>s.cell (p:=⟨w.heap.size,0,none⟩) hl1 hS0
    have hK:=fun s:InC (Below W.heap.size W)=>Calls.inC_same s (hKc s.w)
    refine wp_region_class (C:=Below W.heap.size W) (by kernel_rfl) (by kernel_rfl) (below_drew W) ?_
    have hne:Nonempty (InC (Below W.heap.size W)):=⟨⟨W,Below.refl _ _⟩⟩
    repeat (go_big_quiet_step ((go_at_call 126;exact hK _)))
    refine wpQuiet_nil ?_
    rintro _ ⟨s,rfl⟩
    have hfin:=hb1.trans (s.ok.mono (by omega))
    have k0:=s.cell (p:=⟨w.heap.size,0,none⟩) hl1 hS0
    have k1:=s.cell (p:=⟨w.heap.size,1,none⟩) hl1 hS1
    have k2:=s.cell (p:=⟨w.heap.size,2,none⟩) hl1 hS2
    clear hne hK a0 hS0 hS1 hS2 hKc
    go_wp2
    go_ret
    exact⟨rfl,hfin⟩
   ·rw [if_neg k3]
    go_enter Tryz.func83,Tryz.ntmps83
    go_wp2_with fail
    generalize w.alloc (.cells #[.int .u8 kd,.int .u32 n,.string st] 61)=W at *
    have a0:=fun s:InC (Below W.heap.size W)=>s.cell (p:=⟨w.heap.size,0,none⟩) hl1 hS0
    have hK:=fun s:InC (Below W.heap.size W)=>Calls.inC_same s (hKc s.w)
    refine wp_region_class (C:=Below W.heap.size W) (by kernel_rfl) (by kernel_rfl) (below_drew W) ?_
    have hne:Nonempty (InC (Below W.heap.size W)):=⟨⟨W,Below.refl _ _⟩⟩
    repeat (go_big_quiet_step ((go_at_call 126;exact hK _)))
    refine wpQuiet_nil ?_
    rintro _ ⟨s,rfl⟩
    have hfin:=hb1.trans (s.ok.mono (by omega))
    have k0:=s.cell (p:=⟨w.heap.size,0,none⟩) hl1 hS0
    have k1:=s.cell (p:=⟨w.heap.size,1,none⟩) hl1 hS1
    have k2:=s.cell (p:=⟨w.heap.size,2,none⟩) hl1 hS2
    clear hne hK a0 hS0 hS1 hS2 hKc
    go_wp2
    go_ret
    refine⟨?_,hfin⟩
    show Ending.returned (Value.bool st.toList.isEmpty)=_
    rw [empty_size]
  ·have e1:mayStandB c (kd,n,st)=false:=by simp [mayStandB,h0',h1]
   rw [e1]
   have h1':(kd==kindI c)=false:=by simpa using h1
   go_enter Tryz.func83,Tryz.ntmps83
   go_wp2_with fail
   generalize w.alloc (.cells #[.int .u8 kd,.int .u32 n,.string st] 61)=W at *
   have a0:=fun s:InC (Below W.heap.size W)=>s.cell (p:=⟨w.heap.size,0,none⟩) hl1 hS0
   have hK:=fun s:InC (Below W.heap.size W)=>Calls.inC_same s (kind_any c s.w)
   generalize kindI c=kc at *
   refine wp_region_class (C:=Below W.heap.size W) (by kernel_rfl) (by kernel_rfl) (below_drew W) ?_
   have hne:Nonempty (InC (Below W.heap.size W)):=⟨⟨W,Below.refl _ _⟩⟩
   repeat (go_big_quiet_step ((go_at_call 126;exact hK _)))
   refine wpQuiet_nil ?_
   rintro _ ⟨s,rfl⟩
   have hfin:=hb1.trans (s.ok.mono (by omega))
   clear hne hK a0
   go_wp2
   go_ret
   exact⟨rfl,hfin⟩
theorem putter_any (B:Nat) (k:Int) (w:World) :
  Calls Tryz.prog 84 #[.pointer (some ⟨B,0,none⟩),.int .u8 k] w fun e w'=>e=.returned (if k=3 then .func (.func 127) #[.pointer (some ⟨B,0,none⟩)] #[] else .func (.func 125) #[.pointer (some ⟨B,0,none⟩)] #[])∧w=w':=by
 by_cases h:k=3
 ·subst h
  rw [if_pos rfl]
  go_enter Tryz.func84,Tryz.ntmps84
  go_wp2
  go_ret
  exact⟨rfl,rfl⟩
 ·rw [if_neg h]
  go_enter Tryz.func84,Tryz.ntmps84
  go_wp2
  go_ret
  exact⟨rfl,rfl⟩
def nulS (s:ByteArray):Bool:=s.data.toList.any (·==0)
theorem nulS_false {s:ByteArray}:nulS s=false↔NoNul s:=by
 unfold nulS NoNul
 rw [List.any_eq_false]
 constructor
 ·intro h k hk
  rw [nth_strI s k hk]
  intro e
  have h1:s[k].toNat=0:=by omega
  have h2:s.data.toList[k]'(by rw [size_list];exact hk)=0:=UInt8.toNat_inj.1 h1
  exact h _ (List.getElem_mem (by rw [size_list];exact hk)) (by simp [h2])
 ·intro h x hx hx0
  obtain⟨k,hk,rfl⟩:=List.mem_iff_getElem.1 hx
  have hk':k<s.size:=by rw [← size_list];exact hk
  apply h k hk'
  rw [nth_strI s k hk']
  have e:s[k]=s.data.toList[k]:=rfl
  rw [e,eq_of_beq hx0]
  rfl
theorem nulS_true {s:ByteArray} (h:nulS s=true):∃ k,k<s.size∧nth (strI s) k=0:=by
 apply Classical.byContradiction
 intro hn
 have:NoNul s:=fun k hk e=>hn ⟨k,hk,e⟩
 rw [← nulS_false] at this
 rw [this] at h
 cases h
theorem nulS_empty:nulS ⟨#[]⟩=false:=rfl
theorem size_zero {s:ByteArray} (h:s.size=0):s=⟨#[]⟩:=by
 have:s.data=#[]:=Array.eq_empty_of_size_eq_zero h
 cases s;simp_all
def wrongA (c:Int) (x:ArgT) (b:Int):Int:=if mayStandB c x=false then 42 else if x.1=3 then (if nulS x.2.2 then 13 else 0) else faultW c x.2.1 b
def wrongL (f:Frm) (b:Int):Nat→List ArgT→Int
 | _,[]=>0
 | k,x :: l=>if wrongA (letterI f k) x b=0 then wrongL f b (k+1) l else wrongA (letterI f k) x b
def wordsA (x:ArgT):List Int:=if x.1=3 then textW x.2.2 else [x.2.1]
theorem wordsA_len (x:ArgT):(wordsA x).length=if x.1=3 then x.2.2.size / 4+1 else 1:=by
 unfold wordsA
 split
 ·exact textW_len _
 ·rfl
def wordsL (l:List ArgT):List Int:=l.flatMap wordsA
def headW (f:Frm) (t r:Int):List Int:=(if f.2.1 then [t] else [])++(if f.2.2.1 then [r] else [])
def rawL (f:Frm) (x:InstT):List Int:=headW f x.2.1 x.2.2.1++wordsL x.2.2.2
def faultI (f:Frm) (x:InstT) (b:Int):Int :=
 if idE f.2.1 x.2.1 b 40≠0 then idE f.2.1 x.2.1 b 40
 else if idE f.2.2.1 x.2.2.1 b 41≠0 then idE f.2.2.1 x.2.2.1 b 41
 else if wrongL f b 0 x.2.2.2≠0 then wrongL f b 0 x.2.2.2
 else if wholeN f x.2.2.2.length=false then 42
 else if 65535<1+(rawL f x).length then 25 else 0
def rawE (x:InstT) (b:Int):Int:=if (lookF refT x.1).2 then faultI (lookF refT x.1).1 x b else 30
def rawWs (x:InstT) (b:Int):List Int:=if rawE x b=0 then rawL (lookF refT x.1).1 x else []
theorem wrongL_zero {f:Frm} {b:Int}:∀ {l:List ArgT} {k:Nat},wrongL f b k l=0→∀ j,j<l.length→wrongA (letterI f ((k+j:Nat):Int)) (nthA l j) b=0
 | [],_,_,j,hj=>by simp at hj
 | x :: l,k,h,j,hj=>by
  rw [wrongL] at h
  by_cases h0:wrongA (letterI f k) x b=0
  ·rw [if_pos h0] at h
   cases j with
   | zero=>exact h0
   | succ j =>
    have:=wrongL_zero h j (by simpa using hj)
    rw [show k+(j+1)=k+1+j by omega]
    exact this
  ·rw [if_neg h0] at h;exact absurd h h0
theorem wrongL_first {f:Frm} {b:Int}:∀ {l:List ArgT} {k j:Nat},j<l.length→(∀ i,i<j→wrongA (letterI f ((k+i:Nat):Int)) (nthA l i) b=0)→wrongA (letterI f ((k+j:Nat):Int)) (nthA l j) b≠0→wrongL f b k l=wrongA (letterI f ((k+j:Nat):Int)) (nthA l j) b
 | [],_,j,hj,_,_=>by simp at hj
 | x :: l,k,0,_,_,h=>by
  rw [wrongL,if_neg (show ¬ wrongA (letterI f k) x b=0 from h)];rfl
 | x :: l,k,j+1,hj,h0,h=>by
  have h1:wrongA (letterI f k) x b=0:=h0 0 (by omega)
  rw [wrongL,if_pos h1]
  have e:=wrongL_first (f:=f) (b:=b) (l:=l) (k:=k+1) (j:=j) (by simpa using hj) (fun i hi=>by have:=h0 (i+1) (by omega);rw [show k+(i+1)=k+1+i by omega] at this;exact this) (by rw [show k+(j+1)=k+1+j by omega] at h;exact h)
  rw [e,show k+(j+1)=k+1+j by omega];rfl
theorem wrongL_none {f:Frm} {b:Int}:∀ {l:List ArgT} {k:Nat},(∀ i,i<l.length→wrongA (letterI f ((k+i:Nat):Int)) (nthA l i) b=0)→wrongL f b k l=0
 | [],_,_=>rfl
 | x :: l,k,h=>by
  have h1:wrongA (letterI f k) x b=0:=h 0 (by simp)
  rw [wrongL,if_pos h1]
  exact wrongL_none fun i hi=>by have:=h (i+1) (by simpa using hi);rw [show k+(i+1)=k+1+i by omega] at this;exact this
theorem wrongA_kind {c:Int} {x:ArgT} {b:Int} (h:wrongA c x b=0):c≠0∧x.1=kindI c:=by
 unfold wrongA at h
 split at h
 ·cases h
 ·rename_i hm
  simp [mayStandB] at hm
  exact⟨hm.1,hm.2.1⟩
theorem fits_whole {f:Frm} {l:List ArgT} (h:∀ i,i<l.length→letterI f (i:Int)≠0∧(nthA l i).1=kindI (letterI f (i:Int))):(fitsI true f (kindsL l)).2=wholeN f l.length:=by
 have hl:(kindsL l).length=l.length:=by simp [kindsL]
 have hb:∀ j,j<l.length→badK f (kindsL l) j=false:=fun j hj=>by
  obtain⟨h1,h2⟩:=h j hj
  simp [badK,h1,kindsL_nth l j hj,h2]
 unfold fitsI
 rw [if_neg (by simp),hl,range_not _ hb]
 have e:(if wholeB f l.length=true then ((0:Int),true) else ((l.length:Int),false)).2=wholeB f l.length:=by split <;> simp_all
 simp only [e]
 unfold wholeB wholeN
 rw [Bool.eq_iff_iff]
 by_cases h1:(l.length:Int)<f.2.2.2.1.size
 ·rw [if_pos h1]
  simp;constructor
  ·omega
  ·intro h2;omega
 ·rw [if_neg h1]
  by_cases h2:f.2.2.2.2.1.size=0
  ·rw [if_pos h2]
   have h3:¬ f.2.2.2.1.size<l.length:=fun h3=>rest_of_letters (f:=f) (zs:=kindsL l) (fun j hj=>hb j (by rw [← hl];exact hj)) (by rw [hl];exact h3) h2
   simp;omega
  ·rw [if_neg h2]
   simp
   constructor
   ·rintro (h3 | ⟨_,h3⟩)
    ·rw [show (l.length:Int) - f.2.2.2.1.size=0 by omega];simp
    ·exact h3
   ·intro h3
    by_cases h4:(l.length:Int) - f.2.2.2.1.size=0
    ·exact .inl h4
    ·exact .inr ⟨by omega,h3⟩
def noText (f:Frm):Bool:=f.2.2.2.2.1.data.toList.all (fun x=>x != 115)
theorem refT_noText:refT.all (fun p=>noText p.2 && shortF p.2)=true:=by decide +kernel
theorem look_noText (n:Int):noText (lookF refT n).1=true∧shortF (lookF refT n).1=true:=by
 by_cases h:(lookF refT n).2=true
 ·have:=(List.all_eq_true.1 refT_noText) _ (lookF_true h)
  simpa using this
 ·rw [(lookF_false (by simpa using h)).1];exact⟨rfl,rfl⟩
theorem text_fixed {f:Frm} (hf:noText f=true) {k:Nat} (h:kindI (letterI f (k:Int))=3):k<f.2.2.2.1.size:=by
 apply Classical.byContradiction
 intro hn
 have hk:kindI 0≠3:=by decide
 unfold letterI at h
 rw [if_neg (by omega),if_neg (by omega)] at h
 split at h
 ·rename_i hm
  generalize hj:(((k:Int) - f.2.2.2.1.size) % f.2.2.2.2.1.size).toNat=j at h
  have hlt:j<f.2.2.2.2.1.size:=by
   unfold mayB at hm
   by_cases h0:f.2.2.2.2.1.size=0
   ·rw [if_pos h0] at hm;cases hm
   ·have:=Int.emod_lt_of_pos ((k:Int) - f.2.2.2.1.size) (show (0:Int)<f.2.2.2.2.1.size by omega)
    have:=Int.emod_nonneg ((k:Int) - f.2.2.2.1.size) (show (f.2.2.2.2.1.size:Int)≠0 by omega)
    omega
  have h1:sgn f.2.2.2.2.1 j=115:=by
   unfold kindI at h
   split at h
   ·cases h
   ·split at h
    ·cases h
    ·split at h
     ·assumption
     ·split at h <;> cases h
  have hl:j<f.2.2.2.2.1.data.toList.length:=by rw [size_list];exact hlt
  have h2:=(List.all_eq_true.1 hf) (f.2.2.2.2.1.data.toList[j]) (List.getElem_mem hl)
  simp only [bne_iff_ne,ne_eq] at h2
  apply h2
  have h3:(f.2.2.2.2.1.data.toList[j]).toNat=115:=by
   unfold sgn at h1
   rw [List.getD,List.getElem?_eq_getElem hl] at h1
   simp only [Option.getD_some] at h1
   omega
  exact UInt8.toNat_inj.1 h3
 ·exact hk h
theorem wordsL_take (l:List ArgT) (k:Nat) (h:k<l.length):wordsL (l.take (k+1))=wordsL (l.take k)++wordsA (nthA l k):=by
 unfold wordsL
 rw [List.take_add_one,List.getElem?_eq_getElem h,nthA_lt _ _ h,Option.toList_some,List.flatMap_append]
 simp
def zeroAt (js:List Int):Nat:=js.findIdx (·==0)
theorem nth_lt (js:List Int) (k:Nat) (h:k<js.length):nth js k=js[k]:=by simp [nth,List.getD,h]
theorem zeroAt_before (js:List Int) (i:Nat) (h:i<zeroAt js) (hi:i<js.length):nth js i≠0:=by
 rw [nth_lt _ _ hi]
 have:=List.not_of_lt_findIdx (p:=(·==0)) (xs:=js) h
 simpa using this
theorem zeroAt_at (js:List Int) (h:zeroAt js<js.length):nth js (zeroAt js)=0:=by
 rw [nth_lt _ _ h]
 have:=List.findIdx_getElem (p:=(·==0)) (xs:=js) (w:=h)
 exact eq_of_beq this
def padBad (js:List Int):Bool:=((js.drop (zeroAt js+1)).take (3 - zeroAt js % 4)).any (· != 0)
def textI (zs:List Int):ByteArray×Int×Int :=
 if (joinL zs).length≤zeroAt (joinL zs) then (⟨#[]⟩,0,11)
 else if padBad (joinL zs) then (⟨#[]⟩,0,12)
 else (strOfNums ((joinL zs).take (zeroAt (joinL zs))),((zeroAt (joinL zs) / 4:Nat):Int)+1,0)
theorem padBad_iff {js:List Int} {L P:Nat} (hz:zeroAt js=4 * L+P) (hP:P<4) (hl:4 * L+4≤js.length):padBad js=true↔∃ q,P<q∧q<4∧nth js (4 * L+q)≠0:=by
 unfold padBad
 rw [List.any_eq_true,hz,show (4 * L+P) % 4=P by omega]
 constructor
 ·rintro⟨x,hx,hne⟩
  obtain⟨k,hk,rfl⟩:=List.mem_iff_getElem.1 hx
  rw [List.length_take,List.length_drop] at hk
  rw [List.getElem_take,List.getElem_drop] at hne
  refine⟨P+1+k,by omega,by omega,?_⟩
  rw [nth_lt _ _ (by omega)]
  have e:4 * L+(P+1+k)=4 * L+P+1+k:=by omega
  simp only [e]
  simpa using hne
 ·rintro⟨q,h1,h2,h3⟩
  refine⟨nth js (4 * L+q),?_,by simpa using h3⟩
  rw [nth_lt _ _ (by omega)]
  refine List.mem_iff_getElem.2 ⟨q - P - 1,?_,?_⟩
  ·rw [List.length_take,List.length_drop];omega
  ·rw [List.getElem_take,List.getElem_drop]
   congr 1;omega
theorem textI_some {zs:List Int} (h:(textI zs).2.2=0):zeroAt (joinL zs)<(joinL zs).length∧padBad (joinL zs)=false∧textI zs=(strOfNums ((joinL zs).take (zeroAt (joinL zs))),((zeroAt (joinL zs) / 4:Nat):Int)+1,0):=by
 unfold textI at h ⊢
 by_cases h1:(joinL zs).length≤zeroAt (joinL zs)
 ·rw [if_pos h1] at h;cases h
 ·rw [if_neg h1] at h ⊢
  by_cases h2:padBad (joinL zs)=true
  ·rw [if_pos h2] at h;cases h
  ·rw [if_neg h2]
   exact⟨by omega,by simpa using h2,rfl⟩
theorem textI_range (zs:List Int):0≤(textI zs).2.1∧(textI zs).2.1≤zs.length∧((textI zs).2.2=0→1≤(textI zs).2.1)∧((textI zs).2.2≠0→(textI zs).1=⟨#[]⟩∧(textI zs).2.1=0)∧(textI zs).1.size≤4 * zs.length:=by
 have hl:=joinL_len zs
 by_cases h:(textI zs).2.2=0
 ·obtain⟨h1,h2,h3⟩:=textI_some h
  rw [h3]
  refine⟨by simp;omega,by simp;omega,fun _=>by simp;omega,fun h=>absurd rfl h,?_⟩
  simp only
  rw [strOfNums_size,List.length_take];omega
 ·have:textI zs=(⟨#[]⟩,0,11)∨textI zs=(⟨#[]⟩,0,12):=by
   unfold textI at h ⊢
   by_cases h1:(joinL zs).length≤zeroAt (joinL zs)
   ·rw [if_pos h1];exact .inl rfl
   ·rw [if_neg h1] at h ⊢
    by_cases h2:padBad (joinL zs)=true
    ·rw [if_pos h2];exact .inr rfl
    ·rw [if_neg h2] at h;exact absurd rfl h
  rcases this with e | e <;> (rw [e];exact⟨by simp,by simp,fun h=>by simp at h,fun _=>⟨rfl,rfl⟩,by simp [ByteArray.size]⟩)
def argI (c:Int) (zs:List Int) (b:Int):ArgT×Int×Int :=
 if c=0∨zs.length=0 then (noArg,0,42)
 else if kindI c=3 then ((3,0,(textI zs).1),(textI zs).2.1,(textI zs).2.2)
 else if kindI c=1∧noneB (nth zs 0) b=true then (noArg,0,43)
 else if kindI c=4∧enumB c (nth zs 0)=false then (noArg,0,31)
 else ((kindI c,nth zs 0,⟨#[]⟩),1,0)
def argsI (f:Frm) (b:Int):Nat→List Int→List ArgT→List ArgT×Int
 | 0,_,_=>([],42)
 | k+1,zs,acc =>
  if zs.length=0 then (if wholeN f acc.length=true then (acc,0) else ([],42))
  else if (argI (letterI f acc.length) zs b).2.2≠0 then ([],(argI (letterI f acc.length) zs b).2.2)
  else argsI f b k (zs.drop (argI (letterI f acc.length) zs b).2.1.toNat) (acc++[(argI (letterI f acc.length) zs b).1])
def headRes (re:Bool) (zs:List Int) (b:Int) (p:Nat):Int×Int:=if re then (if zs.length≤p then (0,41) else (nth zs p,if noneB (nth zs p) b then 43 else 0)) else (0,0)
def headTy (ty:Bool) (zs:List Int) (b:Int):Int×Int:=if ty then (if zs.length≤0 then (0,40) else (nth zs 0,if noneB (nth zs 0) b then 43 else 0)) else (0,0)
def instF (f:Frm) (op:Int) (zs:List Int) (b:Int):InstT×Int :=
 if (headTy f.2.1 zs b).2≠0 then (noInst,(headTy f.2.1 zs b).2)
 else if (headRes f.2.2.1 zs b f.2.1.toNat).2≠0 then (noInst,(headRes f.2.2.1 zs b f.2.1.toNat).2)
 else if (argsI f b (zs.length+1) (zs.drop (f.2.1.toNat+f.2.2.1.toNat)) []).2≠0 then (noInst,(argsI f b (zs.length+1) (zs.drop (f.2.1.toNat+f.2.2.1.toNat)) []).2)
 else ((op,(headTy f.2.1 zs b).1,(headRes f.2.2.1 zs b f.2.1.toNat).1,(argsI f b (zs.length+1) (zs.drop (f.2.1.toNat+f.2.2.1.toNat)) []).1),0)
def instI (op:Int) (zs:List Int) (b:Int):InstT×Int :=
 if 65535≤zs.length then (noInst,25) else if (lookF refT op).2=false then (noInst,30) else instF (lookF refT op).1 op zs b
theorem kindI_range (c:Int):kindI c=0∨kindI c=1∨kindI c=2∨kindI c=3∨kindI c=4:=by
 unfold kindI
 split
 ·exact .inr (.inl rfl)
 ·split
  ·exact .inr (.inr (.inl rfl))
  ·split
   ·exact .inr (.inr (.inr (.inl rfl)))
   ·split
    ·exact .inr (.inr (.inr (.inr rfl)))
    ·exact .inl rfl
def goodL (s:ByteArray):Bool:=s.data.toList.all fun x=>kindI (x.toNat:Int) != 0
theorem refT_goodL:refT.all (fun p=>goodL p.2.2.2.2.1 && goodL p.2.2.2.2.2.1)=true:=by decide +kernel
theorem sgn_good {s:ByteArray} (h:goodL s=true) {k:Nat} (hk:k<s.size):kindI (sgn s k)≠0:=by
 have hl:k<s.data.toList.length:=by rw [size_list];exact hk
 have h1:=(List.all_eq_true.1 h) (s.data.toList[k]) (List.getElem_mem hl)
 unfold sgn
 rw [List.getD,List.getElem?_eq_getElem hl]
 simpa using h1
theorem letter_kind (n:Int) (k:Nat) (h:letterI (lookF refT n).1 (k:Int)≠0):kindI (letterI (lookF refT n).1 (k:Int))≠0:=by
 have hg:goodL (lookF refT n).1.2.2.2.1=true∧goodL (lookF refT n).1.2.2.2.2.1=true:=by
  by_cases h:(lookF refT n).2=true
  ·have:=(List.all_eq_true.1 refT_goodL) _ (lookF_true h)
   simpa using this
  ·rw [(lookF_false (by simpa using h)).1];exact⟨rfl,rfl⟩
 generalize (lookF refT n).1=f at *
 unfold letterI at h ⊢
 rw [if_neg (by omega)] at h ⊢
 by_cases h1:(k:Int)<f.2.2.2.1.size
 ·rw [if_pos h1] at h ⊢
  exact sgn_good hg.1 (by omega)
 ·rw [if_neg h1] at h ⊢
  split at h
  ·rename_i hm
   rw [if_pos hm]
   refine sgn_good hg.2 ?_
   unfold mayB at hm
   by_cases h0:f.2.2.2.2.1.size=0
   ·rw [if_pos h0] at hm;cases hm
   ·have:=Int.emod_lt_of_pos ((k:Int) - f.2.2.2.1.size) (show (0:Int)<f.2.2.2.2.1.size by omega)
    have:=Int.emod_nonneg ((k:Int) - f.2.2.2.1.size) (show (f.2.2.2.2.1.size:Int)≠0 by omega)
    omega
  ·exact absurd rfl h
theorem byteAt_any (x p:Int) (w:World) (hx:0≤x) (hx2:x<4294967296) (h0:0≤p) (h3:p<4) :
  Calls Tryz.prog 175 #[.int .u32 x,.int .i64 p] w fun e w'=>e=.returned (.int .u8 (byt x p.toNat))∧w=w':=by
 rcases (show p=0∨p=1∨p=2∨p=3 by omega) with rfl | rfl | rfl | rfl
 ·go_enter Tryz.func175,Tryz.ntmps175
  go_wp2
  go_ret
  exact⟨ret_int (by simp [byt]),rfl⟩
 ·go_enter Tryz.func175,Tryz.ntmps175
  go_wp2
  go_ret
  exact⟨ret_int (by simp [byt]),rfl⟩
 ·go_enter Tryz.func175,Tryz.ntmps175
  go_wp2
  go_ret
  exact⟨ret_int (by simp [byt]),rfl⟩
 ·go_enter Tryz.func175,Tryz.ntmps175
  go_wp2
  go_ret
  exact⟨ret_int (by simp [byt];omega),rfl⟩
set_option maxHeartbeats 1000000 in
theorem textEnd_none (a:Option Addr) (n cap:Nat) (zs:List Int) (w:World) (ha:View .u32 w a zs) (hl:zs.length=n) (hw:Within 4294967296 zs) (hn:4 * n≤281474976710656) (h:∀ i,i<4 * n→nth (joinL zs) i≠0) :
  Calls Tryz.prog 183 #[.slice a n cap] w fun e w'=>e=.returned (.tuple #[.int .i64 0,.int .i64 0,.bool false])∧w=w':=by
 have HL:Hid (zs.length=n):=hl
 clear hl
 have HB:Hid (∀ k p:Nat,k<n→p<4→byt (nth zs k) p≠0):=fun k p hk hp=>by
  have:=h (4 * k+p) (by omega)
  rw [joinL_getD _ _ (by rw [HL.out];omega),show (4 * k+p) / 4=k by omega,show (4 * k+p) % 4=p by omega] at this
  exact this
 clear h
 go_enter Tryz.func183,Tryz.ntmps183
 go_wp2
 go_step3
 go_wp2
 go_step3
 go_wp2
 go_loop [2,3,4,10] (fun r s f i=>∃ k:Nat,k≤n∧i=.int .i64 k∧r=.int .i64 0∧s=.int .i64 0∧f=.bool false) (fun _ _ _ i=>n - (intOf i).toNat)
 case atStart=>exact⟨0,Nat.zero_le _,rfl,rfl,rfl,rfl⟩
 case round =>
  obtain⟨k,hk,rfl,rfl,rfl,rfl⟩:=hrel
  by_cases hlt:k<n
  ·obtain⟨b,off,rfl,_,hc⟩:=ha k (by rw [HL.out];exact hlt)
   have hx:=hw.at (k:=k) (by rw [HL.out];exact hlt)
   have HX:Hid (∀ p:Nat,p<4→byt (nth zs k) p≠0):=fun p hp=>HB.out k p hlt hp
   generalize nth zs k=x at hc hx HX
   have hx0:=hx.1
   have hx1:=hx.2
   clear hx ha
   go_wp2
   go_loop [2,3,4,15] (fun r s f i=>∃ p:Nat,p≤4∧i=.int .i64 p∧r=.int .i64 0∧s=.int .i64 0∧f=.bool false) (fun _ _ _ i=>4 - (intOf i).toNat)
   case atStart=>exact⟨0,Nat.zero_le _,rfl,rfl,rfl,rfl⟩
   case round =>
    obtain⟨p,hp,rfl,rfl,rfl,rfl⟩:=hrel
    by_cases hplt:p<4
    ·have hne:(byt x p==0)=false:=by simp;exact HX.out p hplt
     have hA:=fun wx=>byteAt_any x (p:Int) wx hx0 hx1 (by omega) (by omega)
     rw [Int.toNat_natCast] at hA
     generalize byt x p=y at hne hA
     go_wp2_with (go_at_call 175;refine (hA _).mono ?_;rintro e w' ⟨rfl,rfl⟩)
     go_round
     case rel=>exact⟨p+1,by omega,by go_num,rfl,rfl,rfl⟩
     case measure=>simp [intOf];omega
    ·go_wp2
     go_round
     case rel=>exact⟨k+1,by omega,by go_num,rfl,rfl,rfl⟩
     case measure=>simp [intOf];omega
  ·go_wp2
   try rw [Exit.noGoto_ret]
   go_ret3
   exact⟨rfl,rfl⟩
set_option maxHeartbeats 1000000 in
theorem textEnd_at (a:Option Addr) (n cap:Nat) (zs:List Int) (w:World) (L P:Nat) (ha:View .u32 w a zs) (hl:zs.length=n) (hw:Within 4294967296 zs) (hn:4 * n≤281474976710656)
  (hL:L<n) (hP:P<4) (h:∀ i,i<4 * L+P→nth (joinL zs) i≠0) (h0:nth (joinL zs) (4 * L+P)=0) :
  Calls Tryz.prog 183 #[.slice a n cap] w fun e w'=>e=.returned (.tuple #[.int .i64 L,.int .i64 P,.bool true])∧w=w':=by
 have HL:Hid (zs.length=n):=hl
 clear hl
 have HB:Hid (∀ k p:Nat,4 * k+p<4 * L+P→p<4→byt (nth zs k) p≠0):=fun k p hk hp=>by
  have:=h (4 * k+p) hk
  rw [joinL_getD _ _ (by rw [HL.out];omega),show (4 * k+p) / 4=k by omega,show (4 * k+p) % 4=p by omega] at this
  exact this
 have H0:Hid (byt (nth zs L) P=0):=by
  rw [joinL_getD _ _ (by rw [HL.out];omega),show (4 * L+P) / 4=L by omega,show (4 * L+P) % 4=P by omega] at h0
  exact h0
 clear h h0
 go_enter Tryz.func183,Tryz.ntmps183
 go_wp2
 go_step3
 go_wp2
 go_step3
 go_wp2
 go_loop [2,3,4,10] (fun r s f i=>∃ k:Nat,k≤L∧i=.int .i64 k∧r=.int .i64 0∧s=.int .i64 0∧f=.bool false) (fun _ _ _ i=>n - (intOf i).toNat)
 case atStart=>exact⟨0,Nat.zero_le _,rfl,rfl,rfl,rfl⟩
 case round =>
  obtain⟨k,hk,rfl,rfl,rfl,rfl⟩:=hrel
  have hlt:k<n:=by omega
  obtain⟨b,off,rfl,_,hc⟩:=ha k (by rw [HL.out];exact hlt)
  have hx:=hw.at (k:=k) (by rw [HL.out];exact hlt)
  have HX:Hid (∀ p:Nat,4 * k+p<4 * L+P→p<4→byt (nth zs k) p≠0):=fun p hp h4=>HB.out k p hp h4
  have HX0:Hid (k=L→byt (nth zs k) P=0):=fun e=>by rw [e];exact H0.out
  generalize nth zs k=x at hc hx HX HX0
  have hx0:=hx.1
  have hx1:=hx.2
  clear hx ha
  go_wp2
  go_loop [2,3,4,15] (fun r s f i=>∃ p:Nat,p≤4∧4 * k+p≤4 * L+P∧i=.int .i64 p∧r=.int .i64 0∧s=.int .i64 0∧f=.bool false) (fun _ _ _ i=>4 - (intOf i).toNat)
  case atStart=>exact⟨0,Nat.zero_le _,by omega,rfl,rfl,rfl,rfl⟩
  case round =>
   obtain⟨p,hp,hpN,rfl,rfl,rfl,rfl⟩:=hrel
   by_cases hplt:p<4
   ·by_cases hlast:4 * k+p<4 * L+P
    ·have hne:(byt x p==0)=false:=by simp;exact HX.out p hlast hplt
     have hA:=fun wx=>byteAt_any x (p:Int) wx hx0 hx1 (by omega) (by omega)
     rw [Int.toNat_natCast] at hA
     generalize byt x p=y at hne hA
     go_wp2_with (go_at_call 175;refine (hA _).mono ?_;rintro e w' ⟨rfl,rfl⟩)
     go_round
     case rel=>exact⟨p+1,by omega,by omega,by go_num,rfl,rfl,rfl⟩
     case measure=>simp [intOf];omega
    ·obtain rfl:k=L:=by omega
     obtain rfl:p=P:=by omega
     have hA:=fun wx=>byteAt_any x (p:Int) wx hx0 hx1 (by omega) (by omega)
     rw [Int.toNat_natCast,HX0.out rfl] at hA
     go_wp2_with (go_at_call 175;refine (hA _).mono ?_;rintro e w' ⟨rfl,rfl⟩)
     try rw [Exit.noGoto_ret]
     go_ret3
     exact⟨rfl,rfl⟩
   ·go_wp2
    go_round
    case rel=>exact⟨k+1,by omega,by go_num,rfl,rfl,rfl⟩
    case measure=>simp [intOf];omega
theorem Join.info_u8:(Tryz.prog.info? 5).map (fun i=>(i.zero,i.size,i.bytes))=some (some (.int .u8 0),1,1):=by kernel_rfl
set_option maxHeartbeats 400000 in
theorem join_any (a:Option Addr) (n cap:Nat) (zs:List Int) (w:World) (hv:View .u32 w a zs) (hl:zs.length=n) (hn:4 * n≤140737488351232) (hw:Within 4294967296 zs) :
  Calls Tryz.prog 184 #[.slice a n cap] w fun e w'=>e=.returned (.slice (some ⟨w.heap.size,0,none⟩) (4 * n) (4 * n)) ∧
   w'.ownsRow w.heap.size 5 1 (.slice (some ⟨w.heap.size,0,none⟩) (4 * n) (4 * n)) (4 * n) ((joinL zs).map (Value.int .u8))∧Below w.heap.size w w':=by
 obtain⟨i0,hi,hz0,hz1,hz2⟩:=info_parts Join.info_u8
 have HL:Hid (zs.length=n):=hl
 clear hl
 go_enter Tryz.func184,Tryz.ntmps184
 go_wp2_with (at_make;refine wpList_make_own _ rfl _ _ 44 rfl w.heap.size 5 i0 (.int .u8 0) 1 Tryz.underlying44 hi hz0 hz1 _ _ _ (4 * n) rfl rfl (by omega) (by rw [hz2];omega) (by unfold maxLen;omega) (Nat.le_refl _) ?_)
 intro w1 hown1 hgrow1
 have hb1:Below w.heap.size w w1:=(Below.refl _ w).grown hgrow1 (Nat.le_refl _) (by simp)
 go_wp2
 go_loopw [3,13] (fun v i wr=>∃ k:Nat,k≤n∧i=.int .i64 k∧v=.slice (some ⟨w.heap.size,0,none⟩) (4 * k) (4 * n) ∧
   wr.ownsRow w.heap.size 5 1 (.slice (some ⟨w.heap.size,0,none⟩) (4 * k) (4 * n)) (4 * k) ((joinL (zs.take k)).map (Value.int .u8))∧Below w.heap.size w wr)
  (fun _ i _=>n - (intOf i).toNat)
 case atStart=>exact⟨0,Nat.zero_le _,rfl,rfl,hown1,hb1⟩
 case round =>
  obtain⟨k,hk,rfl,rfl,hown,hnx⟩:=hrel
  by_cases hlt:k<n
  ·obtain⟨b,off,rfl,hbs,hc⟩:=hv k (by rw [HL.out];exact hlt)
   have hx:=hw.at (k:=k) (by rw [HL.out];exact hlt)
   have hJ:=joinL_snoc zs k (by rw [HL.out];exact hlt)
   obtain⟨x,hxe⟩:∃ x,x=nth zs k:=⟨_,rfl⟩
   rw [← hxe] at hc hx hJ
   have HJ:Hid (joinL (zs.take (k+1))=joinL (zs.take k)++four x):=hJ
   have hcr:wr.cell? ⟨b,off+k,none⟩=some (.int .u32 x):=(hnx.cell (p:=⟨b,off+k,none⟩) hbs).trans hc
   have hx0:=hx.1
   have hx1:=hx.2
   clear hx hxe hJ hc hw hv hown1 hgrow1 hb1
   go_wp2
   go_loopw [3,17] (fun v i wq=>∃ p:Nat,p≤4∧i=.int .i64 p∧v=.slice (some ⟨w.heap.size,0,none⟩) (4 * k+p) (4 * n) ∧
     wq.ownsRow w.heap.size 5 1 (.slice (some ⟨w.heap.size,0,none⟩) (4 * k+p) (4 * n)) (4 * k+p) ((joinL (zs.take k)++(four x).take p).map (Value.int .u8))∧Below w.heap.size w wq)
    (fun _ i _=>4 - (intOf i).toNat)
   case atStart=>exact⟨0,by omega,rfl,rfl,by simpa using hown,hnx⟩
   case round =>
    obtain⟨p,hp,rfl,rfl,hownp,hnp⟩:=hrel
    clear hcr hown hnx
    by_cases hplt:p<4
    ·go_wp2_with (first | (go_at_call 175;refine (byteAt_any _ _ _ hx0 hx1 (by omega) (by omega)).mono ?_;rintro e w' ⟨rfl,rfl⟩) | (at_builtin;refine wpList_append_fits _ rfl (.tmp 20) (.tmp 24) 44 rfl w.heap.size 5 i0 1 Tryz.underlying44 hi hz1 w.heap.size (4 * k+p) (4 * n) _ rfl (hownp.alloc _) ⟨wr.heap.size,0,none⟩ 1 1 [.int .u8 (byt x p)] rfl rfl (cell_one_new _ _ _) (ints_oneCell .u8 [byt x p]) (by omega) ?_;intro w4 hown4 hgrow4))
     go_roundw
     case rel =>
      refine⟨p+1,by omega,by go_num,rfl,?_,?_⟩
      ·rw [four_snoc x p hplt,← List.append_assoc,List.map_append];exact hown4
      ·exact (hnp.alloc hnp.size _).grown hgrow4 (by have:=hnp.size;simp;omega) (fun j hj=>by cases hj;exact Nat.le_refl _)
     case measure=>simp [intOf];omega
    ·go_wp2
     go_roundw
     case rel =>
      obtain rfl:p=4:=by omega
      refine⟨k+1,by omega,by go_num,rfl,?_,hnp⟩
      rw [HJ.out];exact hownp
     case measure=>simp [intOf];omega
  ·go_wp2
   go_ret
   obtain rfl:k=n:=by omega
   rw [List.take_of_length_le (by rw [HL.out];exact Nat.le_refl _)] at hown
   exact⟨rfl,hown,hnx⟩
end Go.Proofs.YtonhnflilfjkbaaGreatDoor
