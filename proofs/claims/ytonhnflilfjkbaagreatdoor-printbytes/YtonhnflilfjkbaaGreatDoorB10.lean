/-
  Texts in one: FrameTold, FrameParts2, FrameEach2, CodeRinst.
-/
import Derived.Test.YtonhnflilfjkbaaGreatDoorB09
namespace Go.Proofs.YtonhnflilfjkbaaGreatDoor
open Go.RowKit Go.Shelf
attribute [local go_sem] Oper.semAt_some

abbrev Told:=Nat×Nat×Nat
def toldV (zs:List Int) (x:Told):Array Value:=#[.int .i64 x.1,.agg #[.int .u16 (opI zs x.1),.slice (some ⟨x.2.1,0,none⟩) (cntN zs x.1 - 1) x.2.2]]
def ToldOk (zs:List Int) (lo:Nat) (pre:List Told) (x:Told) (W:World):Prop :=
 (pre.map (·.1))++[x.1] <+: rest zs 5∧W.ownsRow lo 22 1 (.slice (some ⟨x.2.1,0,none⟩) (cntN zs x.1 - 1) x.2.2) (cntN zs x.1 - 1) ((midL zs (x.1+1) (cntN zs x.1 - 1)).map (Value.int .u32))
attribute [local go_sem] Oper.semAt_some

set_option maxRecDepth 100000 in
set_option maxHeartbeats 2000000 in
theorem parts_tellsK (a:Option Addr) (n cap:Nat) (zs:List Int) (w0:World) (n₀:Nat) (τ:TypeId→Prop) (ha:∀ X,Kept n₀ τ w0 X→View .u32 X a zs) (hl:zs.length=n) (hw:Within 4294967296 zs) (hn:4 * n≤140737488351232) (hc:n≤cap) (hτ:τ 52)
  (w:World) (B:Nat) (hb:Kept n₀ τ w0 w) (hn0:n₀≤w.heap.size) (hB:w.heap[B]?=some (.cells #[.slice a n cap] 52 (0,0))) :
  Tells Tryz.prog 141 #[.pointer (some ⟨B,0,none⟩)] (partV a cap zs) (fun pre p _=>pre++[p] <+: rest zs 5) n₀ τ (fun xs=>xs=rest zs 5) (fun pre=>pre <+: rest zs 5) w:=by
 intro l J Jx W hW hJ hJx hY h0
 have hBW:W.heap[B]?=some (.cells #[.slice a n cap] 52 (0,0)):=(hW.block B (Array.getElem?_eq_some_iff.1 hB).1).trans hB
 have hbW:Kept n₀ τ w0 W:=hb.trans (Kept.of_below hW hn0)
 have HL:Hid (zs.length=n):=hl
 clear hl hB hb hW
 refine callsIn_of_wp Tryz.func141 rfl trivial ?_ rfl
 simp only [Tryz.ntmps141,List.size_toArray,List.length_cons,List.length_nil,Nat.reduceAdd,Nat.reduceSub,Array.replicate_succ,Array.replicate_zero,List.push_toArray,List.append_toArray,List.nil_append,List.cons_append]
 gi_wp2
 gi_loopw [3] (fun i wr=>∃ (p:Nat) (pre:List Nat),i=.int .i64 p∧pre++rest zs p=rest zs 5∧(p=5∨p≤n)∧J pre wr∧wr.heap[B]?=some (.cells #[.slice a n cap] 52 (0,0))∧Kept n₀ τ w0 wr) (fun i _=>n - (intOf i).toNat)
 case atStart=>exact⟨5,[],rfl,rfl,.inl rfl,h0,hBW,hbW⟩
 case round =>
  obtain⟨p,pre,rfl,hpre,hpn,hJs,hBr,hbr⟩:=hrel
  clear hBW hbW h0
  have HP:Hid (pre++rest zs p=rest zs 5):=hpre
  clear hpre
  have hbx:wr.cell? ⟨B,0,none⟩=some (.slice a n cap):=by simp [World.cell?,hBr]
  by_cases hlt:p<n
  ·have hav:=ha _ hbr
   obtain⟨b,off,rfl,_,hc1⟩:=hav p (by rw [HL.out];exact hlt)
   have hx:=hw.at (k:=p) (by rw [HL.out];exact hlt)
   have hF:=fun wx=>partFirst_any (nth zs p) wx hx.1 hx.2
   have hcn:nth zs p / 65536=(cntN zs p:Int):=cntN_int zs p hx.1
   have hop:nth zs p % 65536=opI zs p:=rfl
   rw [hcn,hop] at hF
   have hpi:(p:Int)<(n:Int):=by omega
   clear hav hx hcn hop
   cases hbad:badB zs p with
   | true =>
    have HE:Hid (pre=rest zs 5):=by
     have e1:=HP.out
     rw [rest_bad zs p (by rw [HL.out];exact hlt) hbad,List.append_nil] at e1
     exact e1
    have hcc:cntN zs p=0∨n<p+cntN zs p:=by
     have:=hbad
     unfold badB at this
     rw [HL.out] at this
     simpa using this
    clear hbad
    generalize cntN zs p=c at *
    generalize opI zs p=op at *
    generalize nth zs p=x at *
    rcases hcc with rfl | hcc
    ·gi_wp2_with fail
     refine⟨trivial,rfl,(callsIn_wide.2 (hF _)).mono ?_⟩
     rintro e w' ⟨rfl,rfl⟩
     gi_wp2
     refine bodyPost_ret (results_none rfl _ _ _) rfl ?_
     exact⟨⟨_,rfl⟩,.inl ⟨pre,HE.out,hJs⟩⟩
    ·by_cases hc0:c=0
     ·subst hc0
      gi_wp2_with fail
      refine⟨trivial,rfl,(callsIn_wide.2 (hF _)).mono ?_⟩
      rintro e w' ⟨rfl,rfl⟩
      gi_wp2
      refine bodyPost_ret (results_none rfl _ _ _) rfl ?_
      exact⟨⟨_,rfl⟩,.inl ⟨pre,HE.out,hJs⟩⟩
     ·have b1:((c:Int)==0)=false:=by simpa using hc0
      have b2:(n:Int) - (p:Int)<(c:Int):=by omega
      have b3:decide ((n:Int) - (p:Int)<(c:Int))=true:=decide_eq_true b2
      gi_wp2_with fail
      refine⟨trivial,rfl,(callsIn_wide.2 (hF _)).mono ?_⟩
      rintro e w' ⟨rfl,rfl⟩
      gi_wp2
      refine bodyPost_ret (results_none rfl _ _ _) rfl ?_
      exact⟨⟨_,rfl⟩,.inl ⟨pre,HE.out,hJs⟩⟩
   | false =>
    have hgo:=rest_go zs p (by rw [HL.out];exact hlt) hbad
    have HG:Hid (rest zs p=p :: rest zs (p+cntN zs p)):=hgo
    have hc0:=cnt_pos hbad
    have hcf:=cnt_fits hbad
    rw [HL.out] at hcf
    have HPX:Hid (pre++[p] <+: rest zs 5):=by
     show _ <+: _
     rw [← HP.out,hgo]
     exact⟨rest zs (p+cntN zs p),by simp⟩
    obtain⟨fn,tmps,assign,body,hy,hR⟩:=hY pre p wr hJs HPX.out
    simp only [partV] at hy
    clear hbad hgo
    generalize cntN zs p=c at *
    generalize opI zs p=op at *
    generalize nth zs p=x at *
    have b1:((c:Int)==0)=false:=by simp;omega
    have b3:decide ((n:Int) - (p:Int)<(c:Int))=false:=decide_eq_false (by omega)
    by_cases hcap:cap=p+1
    ·subst hcap
     rw [show further (some ⟨b,off,none⟩) (p+1) (p+1)=some ⟨b,off,none⟩ from if_pos rfl,Nat.sub_self] at hy
     gi_wp2_with fail
     refine⟨trivial,rfl,(callsIn_wide.2 (hF _)).mono ?_⟩
     rintro e w' ⟨rfl,rfl⟩
     gi_wp2_with fail
     refine⟨rfl,hR.mono ?_⟩
     rintro e W3 ⟨_,⟨rfl,hJ3,hk3⟩ | ⟨rfl,hJx3⟩⟩
     ·have hB3:=hk3.2 B _ _ _ hτ hBr
      have hb3:Kept n₀ τ w0 W3:=hbr.trans hk3
      clear hy hR hY
      gi_wp2
      go_roundw
      case rel=>exact⟨p+c,pre++[p],by go_num,by rw [List.append_assoc,List.singleton_append,← HG.out];exact HP.out,.inr hcf,hJ3,hB3,hb3⟩
      case measure=>simp [intOf];omega
     ·clear hy hR hY
      gi_wp2
      refine bodyPost_ret (results_none rfl _ _ _) rfl ?_
      exact⟨⟨_,rfl⟩,.inr ⟨_,HPX.out,hJx3⟩⟩
    ·rw [show further (some ⟨b,off,none⟩) cap (p+1)=some ⟨b,off+(p+1),none⟩ from if_neg hcap] at hy
     gi_wp2_with fail
     refine⟨trivial,rfl,(callsIn_wide.2 (hF _)).mono ?_⟩
     rintro e w' ⟨rfl,rfl⟩
     gi_wp2_with fail
     refine⟨rfl,hR.mono ?_⟩
     rintro e W3 ⟨_,⟨rfl,hJ3,hk3⟩ | ⟨rfl,hJx3⟩⟩
     ·have hB3:=hk3.2 B _ _ _ hτ hBr
      have hb3:Kept n₀ τ w0 W3:=hbr.trans hk3
      clear hy hR hY
      gi_wp2
      go_roundw
      case rel=>exact⟨p+c,pre++[p],by go_num,by rw [List.append_assoc,List.singleton_append,← HG.out];exact HP.out,.inr hcf,hJ3,hB3,hb3⟩
      case measure=>simp [intOf];omega
     ·clear hy hR hY
      gi_wp2
      refine bodyPost_ret (results_none rfl _ _ _) rfl ?_
      exact⟨⟨_,rfl⟩,.inr ⟨_,HPX.out,hJx3⟩⟩
  ·have HE:Hid (pre=rest zs 5):=by
    have e1:=HP.out
    rw [rest_end zs p (by rw [HL.out];omega),List.append_nil] at e1
    exact e1
   have hpi:(n:Int)≤(p:Int):=by omega
   gi_wp2
   go_end0
   exact⟨⟨_,rfl⟩,.inl ⟨pre,HE.out,hJs⟩⟩
attribute [local go_sem] Oper.semAt_some

theorem kept_stay {n₀:Nat} {τ:TypeId→Prop} {w W W':World} {row:Option Nat} {B:Nat} (h:Kept n₀ τ w W) (hn:n₀≤W.heap.size) (hB:n₀≤B) (hg:W.grownBy W' row) (hr:∀ r,row=some r→B≤r∧∃ o:Obj,W.heap[r]?=some o∧o.isCells=false):Kept n₀ τ w W' :=
 ⟨h.1.grown hg hn (fun k e=>Nat.le_trans hB (hr k e).1),h.2.trans (KeptT.of_grownBy hg fun j cs t fr e hj=>by
  obtain⟨_,o,ho,hc⟩:=hr j e
  rw [hj] at ho;cases ho;cases hc)⟩
set_option maxRecDepth 100000 in
set_option maxHeartbeats 8000000 in
theorem each_tellsK (g n cx:Nat) (zs:List Int) (w0:World) (n₀:Nat) (τ:TypeId→Prop) (ha:∀ X,Kept n₀ τ w0 X→View .u32 X (some ⟨g,0,none⟩) zs) (hl:zs.length=n) (hw:Within 4294967296 zs) (hn:4 * n≤140737488351232) (hc:n≤cx) (hτ:τ 52) (hτ2:τ 162)
  (w:World) (B:Nat) (hb:Kept n₀ τ w0 w) (hn0:n₀≤w.heap.size) (hB:w.heap[B]?=some (.cells #[.slice (some ⟨g,0,none⟩) n cx] 52 (0,0))) :
  Tells Tryz.prog 105 #[.pointer (some ⟨B,0,none⟩)] (toldV zs) (ToldOk zs w.heap.size) n₀ τ (fun xs=>xs.map (·.1)=rest zs 5) (fun pre=>pre.map (·.1) <+: rest zs 5) w:=by
 intro l J Jx W hW hJ hJx hY h0
 have hBW:W.heap[B]?=some (.cells #[.slice (some ⟨g,0,none⟩) n cx] 52 (0,0)):=(hW.block B (Array.getElem?_eq_some_iff.1 hB).1).trans hB
 have hbW:Kept n₀ τ w0 W:=hb.trans (Kept.of_below hW hn0)
 have hwW:=hW.size
 have hw0:=hn0
 have HL:Hid (zs.length=n):=hl
 have HY:Hid (∀ pre x W1,J pre W1→ToldOk zs w.heap.size pre x W1→_):=hY
 have hBl:B<W.heap.size:=(Array.getElem?_eq_some_iff.1 hBW).1
 obtain⟨bx0,_⟩:W.cell? ⟨B,0,none⟩=some (.slice (some ⟨g,0,none⟩) n cx)∧True:=⟨by simp [World.cell?,hBW],trivial⟩
 have hmix:Tryz.prog.follows .mixedOrders=true:=by kernel_rfl
 clear hY hl hB hb hW
 refine callsIn_of_wp_marks Tryz.func105 rfl trivial ?_ rfl
 simp only [Tryz.ntmps105,List.size_toArray,List.length_cons,List.length_nil,Nat.reduceAdd,Nat.reduceSub,Array.replicate_succ,Array.replicate_zero,List.push_toArray,List.append_toArray,List.nil_append,List.cons_append]
 gi_wp2_with fail
 refine⟨trivial,rfl,(callsIn_wide.2 (parts_any (some ⟨g,0,none⟩) n cx _)).mono ?_⟩
 rintro e w2 ⟨rfl,rfl⟩
 obtain⟨wL,hwL⟩:∃ X,X=(W.alloc (.cells #[.func (.yield l) #[] #[]] 162)).alloc (.cells #[.slice (some ⟨g,0,none⟩) n cx] 52):=⟨_,rfl⟩
 have hsL:wL.heap.size=W.heap.size+2:=by rw [hwL];simp
 have hbLW:Below W.heap.size W wL:=by rw [hwL];exact ((Below.refl _ W).alloc (Nat.le_refl _) _).alloc (by simp) _
 have kY:wL.heap[W.heap.size]?=some (.cells #[.func (.yield l) #[] #[]] 162 (0,0)):=by rw [hwL];exact (Below.heap_alloc _ _ _ (by simp)).trans (heap_alloc_new W _)
 have kP:wL.heap[W.heap.size+1]?=some (.cells #[.slice (some ⟨g,0,none⟩) n cx] 52 (0,0)):=by rw [hwL];simpa using heap_alloc_new (W.alloc (.cells #[.func (.yield l) #[] #[]] 162)) (.cells #[.slice (some ⟨g,0,none⟩) n cx] 52)
 gi_wp2_with fail
 rw [← hwL]
 clear hwL
 refine wp_tells rfl (enters_of Tryz.func141 (by kernel_rfl) rfl) (parts_tellsK (some ⟨g,0,none⟩) n cx zs w0 n₀ τ ha HL.out hw hn hc hτ wL (W.heap.size+1) (hbW.trans (Kept.of_below hbLW (by omega))) (by omega) kP) (by omega) (fun _=>rfl)
  (fun pre2 W2=>W.heap.size+2≤W2.heap.size∧Kept n₀ τ w0 W2∧W2.heap[W.heap.size]?=some (.cells #[.func (.yield l) #[] #[]] 162 (0,0))∧∃ pre1:List Told,pre1.map (·.1)=pre2∧J pre1 W2)
  (fun c pre2 W2=>c=.ret∧∃ pre1:List Told,pre1.map (·.1)=pre2∧Jx pre1 W2)
  ?hI ?hIx ⟨by omega,hbW.trans (Kept.of_below hbLW (by omega)),kY,[],rfl,OwnFrom.below hJ h0 hbLW⟩
  (fun pre x a' W2=>∃ Bx,W.heap.size+2≤Bx∧W2.heap[Bx]?=some (.cells #[.int .u16 (opI zs x),.slice (further (some ⟨g,0,none⟩) cx (x+1)) (x+cntN zs x - (x+1)) (cx - (x+1))] 54 (0,0))∧pre++[x] <+: rest zs 5∧a'={ tmps:=#[.func (.yield l) #[] #[],.pointer (some ⟨B,0,none⟩),.pointer (some ⟨W.heap.size,0,none⟩),.int .i64 x,.pointer (some ⟨Bx,0,none⟩),.slice (some ⟨g,0,none⟩) n cx,.func (.func 141) #[] #[.pointer (some ⟨W.heap.size+1,0,none⟩)],.int .i64 x,.agg #[.int .u16 (opI zs x),.slice (further (some ⟨g,0,none⟩) cx (x+1)) (x+cntN zs x - (x+1)) (cx - (x+1))],undef,undef,undef,undef,undef,undef],defers:=[] })
  ?hAx ?assign ?body ?done ?stop
 case hI =>
  rintro pre W2 W3 row ⟨h1,h2,h3,pre1,h4,h5⟩ hg hr
  rw [hsL] at hr
  exact⟨Nat.le_trans h1 hg.size,kept_stay h2 (by omega) (by omega) hg hr,cells_stay h3 hg hr,pre1,h4,hJ pre1 W2 W3 row h5 hg (fun r e=>⟨by have:=(hr r e).1;omega,(hr r e).2⟩)⟩
 case hIx =>
  rintro c pre W2 W3 row ⟨h1,pre1,h4,h5⟩ hg hr
  rw [hsL] at hr
  exact⟨h1,pre1,h4,hJx pre1 W2 W3 row h5 hg (fun r e=>⟨by have:=(hr r e).1;omega,(hr r e).2⟩)⟩
 case hAx =>
  rintro pre x a' s W2 W3 row ⟨Bx,h1,h2,h3⟩ hg hr
  exact⟨Bx,h1,cells_stay h2 hg hr,h3⟩
 case assign =>
  rintro l2 pre x W2 K ⟨h1,h2,h3,pre1,h4,h5⟩ hV hK
  have hbel:∀ o,Below W2.heap.size W2 (W2.alloc o):=fun o=>(Below.refl _ W2).alloc (Nat.le_refl _) o
  simp only [partV]
  gi_wp2
  exact hK _ _ (KeepsFrom.of_below (hbel _)) (Kept.of_below (hbel _) (by omega)) ⟨by simp;omega,h2.trans (Kept.of_below (hbel _) (by omega)),(Below.heap_alloc _ _ _ (by omega)).trans h3,pre1,h4,OwnFrom.below hJ h5 (hbel _)⟩ ⟨W2.heap.size,h1,heap_alloc_new W2 _,hV,rfl⟩
 case stop =>
  rintro D c pre W2 hD hpre ⟨rfl,pre1,h4,h5⟩ hK
  have hJE:Jx pre1 (W2.putObj D (.deferred none)):=hJx.putObj _ h5 (by omega) hK rfl
  gi_wp2_with fail
  refine⟨by simp,.inl ⟨_,_,rfl,run_takeDeferred hK,?_⟩⟩
  exact⟨_,results_none rfl _ _ _,⟨_,rfl⟩,.inr ⟨pre1,by rw [h4];exact hpre,hJE⟩⟩
 case done =>
  rintro D xs W2 hD hS ⟨h1,h2,h3,pre1,h4,h5⟩ hK
  have hJE:J pre1 (W2.putObj D (.deferred none)):=hJ.putObj _ h5 (by omega) hK rfl
  gi_wp2_with fail
  refine⟨by simp,.inl ⟨_,_,rfl,run_takeDeferred hK,?_⟩⟩
  exact⟨_,results_none rfl _ _ _,⟨_,rfl⟩,.inl ⟨pre1,by rw [h4];exact hS,hJE⟩⟩
 case body =>
  rintro l2 pre q a' W2 hl2' ⟨r,hr⟩ ⟨h1,h2,h3,pre1,h4,hJs⟩ ⟨Bx,hBx,hx,hV,rfl⟩
  obtain⟨_,hmem,hbad⟩:=rest_mem zs 5 q (hV.subset (by simp))
  have hcp0:=cnt_pos hbad
  have hcf:=cnt_fits hbad
  rw [HL.out] at hmem hcf
  have hav:=ha _ h2
  have hms:∃ y,further (some ⟨g,0,none⟩) cx (q+1)=some y∧View .u32 W2 (some y) (midL zs (q+1) (cntN zs q - 1)):=by
   unfold further
   by_cases hcx:cx=q+1
   ·rw [if_pos hcx]
    refine⟨_,rfl,fun j hj=>?_⟩
    rw [midL_len zs (q+1) _ (by rw [HL.out];omega)] at hj
    omega
   ·rw [if_neg hcx]
    refine⟨_,rfl,fun j hj=>?_⟩
    have hj':=hj
    rw [midL_len zs (q+1) _ (by rw [HL.out];omega)] at hj'
    obtain⟨b',off',e',hbs,hcj⟩:=hav (q+1+j) (by rw [HL.out];omega)
    simp at e'
    obtain⟨rfl,rfl⟩:=e'
    refine⟨g,0+(q+1),rfl,hbs,?_⟩
    rw [show nth (midL zs (q+1) (cntN zs q - 1)) j=nth zs (q+1+j) by simp [nth,midL,List.getD,List.getElem?_drop,hj'],Nat.add_assoc]
    exact hcj
  obtain⟨y,hy0,hvy⟩:=hms
  have HML:Hid ((midL zs (q+1) (cntN zs q - 1)).length=cntN zs q - 1):=midL_len zs (q+1) _ (by rw [HL.out];omega)
  rw [hy0,show q+cntN zs q - (q+1)=cntN zs q - 1 by omega] at hx ⊢
  have hA:=fun wx (hb:Below W2.heap.size W2 wx)=>apart_any (opI zs q) y (cntN zs q - 1) (cx - (q+1)) (midL zs (q+1) (cntN zs q - 1)) wx (hvy.below hb) HML.out (by omega)
  have HYQ:Hid (∀ (w3:World) (g3 cx3:Nat),J pre1 w3→w3.ownsRow w.heap.size 22 1 (.slice (some ⟨g3,0,none⟩) (cntN zs q - 1) cx3) (cntN zs q - 1) ((midL zs (q+1) (cntN zs q - 1)).map (Value.int .u32))→YieldAt Fence.wide 0 Tryz.prog l #[.int .i64 q,.agg #[.int .u16 (opI zs q),.slice (some ⟨g3,0,none⟩) (cntN zs q - 1) cx3]] w3 fun e W' =>
    KeepsFrom W.heap.size w3 W'∧((e=.returned (.bool true)∧J (pre1++[(q,g3,cx3)]) W'∧Kept n₀ τ w3 W')∨(e=.returned (.bool false)∧Jx (pre1++[(q,g3,cx3)]) W'))):=fun w3 g3 cx3 hj ho=>HY.out pre1 (q,g3,cx3) w3 hj ⟨by rw [h4];exact hV,ho⟩
  have HFIN:Hid (∀ (w3 W3:World) (g3 cx3:Nat),Below W2.heap.size W2 w3→KeepsFrom W.heap.size w3 W3→J (pre1++[(q,g3,cx3)]) W3→Kept n₀ τ w3 W3→KeepsFrom wL.heap.size W2 W3∧Kept n₀ τ W2 W3∧(W.heap.size+2≤W3.heap.size∧Kept n₀ τ w0 W3∧W3.heap[W.heap.size]?=some (.cells #[.func (.yield l) #[] #[]] 162 (0,0))∧∃ pre1:List Told,pre1.map (·.1)=pre++[q]∧J pre1 W3)):=fun w3 W3 g3 cx3 hb3 hkf hj hk =>
   have hs3:=hb3.size
   have hs33:=hkf.size
   ⟨(KeepsFrom.of_below hb3).trans (KeepsFrom.mono hkf (by omega)),⟨(hb3.mono (by omega)).trans hk.1,(KeptT.of_below hb3).trans hk.2⟩,by omega,(h2.trans (Kept.of_below hb3 (by omega))).trans hk,hk.2 _ _ _ _ hτ2 ((hb3.block _ (by omega)).trans h3),pre1++[(q,g3,cx3)],by rw [List.map_append,h4];rfl,hj⟩
  have HFINX:Hid (∀ (w3 W3:World) (g3 cx3:Nat),Below W2.heap.size W2 w3→KeepsFrom W.heap.size w3 W3→Jx (pre1++[(q,g3,cx3)]) W3→KeepsFrom wL.heap.size W2 W3∧Code.ret=Code.ret∧∃ pre1:List Told,pre1.map (·.1)=pre++[q]∧Jx pre1 W3):=fun w3 W3 g3 cx3 hb3 hkf hj =>
   ⟨(KeepsFrom.of_below hb3).trans (KeepsFrom.mono hkf (by omega)),rfl,pre1++[(q,g3,cx3)],by rw [List.map_append,h4];rfl,hj⟩
  have k8:W2.cell? ⟨W.heap.size,0,none⟩=some (.func (.yield l) #[] #[]):=by simp [World.cell?,h3]
  have hl2:W.heap.size<W2.heap.size:=by omega
  obtain⟨kx0,kx1,_⟩:=cell_of_two hx
  clear hy0 hvy hav hbad hV h3 hx h4 h2 HML ha hbW hbLW kP kY hBW bx0 hsL h0 HY
  generalize cntN zs q=c at *
  generalize midL zs (q+1) (c - 1)=ms at *
  generalize opI zs q=op at *
  gi_wp2_with fail
  refine wpIn_region_any hmix ?_
  change wpAnyIn _ _ _ _ _ _ _ _ _ (World.drew _)
  refine wpAnyIn_ready (rs:=[0,1,2]) (by kernel_rfl) (by simp) ?_
  refine AllReadyIn.cons rfl (fun K hK=>?_) ?_
  ·go_simp
   refine hK _ _ ?_
   clear hK K
   refine wpAnyIn_ready (rs:=[1,2]) (by kernel_rfl) (by simp) ?_
   refine AllReadyIn.cons rfl (fun K hK=>?_) ?_
   ·go_simp
    refine hK _ _ ?_
    clear hK K
    refine wpAnyIn_ready (rs:=[2]) (by kernel_rfl) (by simp) ?_
    refine AllReadyIn.cons rfl (fun K hK=>?_) ?_
    ·go_simp
     refine hK _ _ ?_
     clear hK K
     refine wpAnyIn_ready (rs:=[3]) (by kernel_rfl) (by simp) ?_
     refine AllReadyIn.cons rfl (fun K hK=>?_) ?_
     ·go_simp
      refine⟨trivial,rfl,(CallsIn.inRound l2 (callsIn_wide.2 (hA _ (Below.refl _ _).drew))).mono ?_⟩
      rintro e w3 ⟨g3,cx3,rfl,hown3,hb3⟩
      dsimp only
      refine hK _ _ ?_
      clear hK K
      have hb3':Below W2.heap.size W2 w3:=((Below.refl W2.heap.size W2).drew).trans hb3
      have s3:=hb3'.size
      have e8:=(hb3'.cell (p:=⟨W.heap.size,0,none⟩) (by exact hl2)).trans k8
      refine wpAnyIn_ready (rs:=[4]) (by kernel_rfl) (by simp) ?_
      refine AllReadyIn.cons rfl (fun K hK=>?_) ?_
      ·have hown4:w3.ownsRow w.heap.size 22 1 (.slice (some ⟨g3,0,none⟩) (c - 1) cx3) (c - 1) (ms.map (Value.int .u32)):=own_base hown3 (by show w.heap.size≤W2.heap.size+2;omega)
       obtain⟨fn,tmps,assign,body,hy,hR⟩:=HYQ.out w3 g3 cx3 (OwnFrom.below hJ hJs hb3') hown4
       go_simp
       refine⟨rfl,hR.mono ?_⟩
       rintro e W3 ⟨hkf3,⟨rfl,hJ3,hk3⟩ | ⟨rfl,hJx3⟩⟩
       ·dsimp only
        refine hK _ _ ?_
        clear hK K hy hR
        have fin:=HFIN.out w3 W3 g3 cx3 hb3' hkf3 hJ3 hk3
        refine wpAnyIn_ready (rs:=[5]) (by kernel_rfl) (by simp) ?_
        refine AllReadyIn.cons rfl (fun K hK=>?_) ?_
        ·go_simp
         refine hK _ _ ?_
         clear hK K
         refine wpAnyIn_done (by kernel_rfl) ?_ _
         gi_wp2_with fail
         exact fin
        exact AllReadyIn.nil
       ·dsimp only
        refine hK _ _ ?_
        clear hK K hy hR
        have finx:=HFINX.out w3 W3 g3 cx3 hb3' hkf3 hJx3
        refine wpAnyIn_ready (rs:=[5]) (by kernel_rfl) (by simp) ?_
        refine AllReadyIn.cons rfl (fun K hK=>?_) ?_
        ·go_simp
         refine hK _ _ ?_
         clear hK K
         refine wpAnyIn_done (by kernel_rfl) ?_ _
         gi_wp2_with fail
         exact⟨finx.1,rfl,finx.2.2⟩
        exact AllReadyIn.nil
      exact AllReadyIn.nil
     exact AllReadyIn.nil
    exact AllReadyIn.nil
   refine AllReadyIn.cons rfl (fun K hK=>?_) ?_
   ·go_simp
    refine hK _ _ ?_
    clear hK K
    refine wpAnyIn_ready (rs:=[1,3]) (by kernel_rfl) (by simp) ?_
    refine AllReadyIn.cons rfl (fun K hK=>?_) ?_
    ·go_simp
     refine hK _ _ ?_
     clear hK K
     refine wpAnyIn_ready (rs:=[3]) (by kernel_rfl) (by simp) ?_
     refine AllReadyIn.cons rfl (fun K hK=>?_) ?_
     ·go_simp
      refine⟨trivial,rfl,(CallsIn.inRound l2 (callsIn_wide.2 (hA _ (Below.refl _ _).drew))).mono ?_⟩
      rintro e w3 ⟨g3,cx3,rfl,hown3,hb3⟩
      dsimp only
      refine hK _ _ ?_
      clear hK K
      have hb3':Below W2.heap.size W2 w3:=((Below.refl W2.heap.size W2).drew).trans hb3
      have s3:=hb3'.size
      have e8:=(hb3'.cell (p:=⟨W.heap.size,0,none⟩) (by exact hl2)).trans k8
      refine wpAnyIn_ready (rs:=[4]) (by kernel_rfl) (by simp) ?_
      refine AllReadyIn.cons rfl (fun K hK=>?_) ?_
      ·have hown4:w3.ownsRow w.heap.size 22 1 (.slice (some ⟨g3,0,none⟩) (c - 1) cx3) (c - 1) (ms.map (Value.int .u32)):=own_base hown3 (by show w.heap.size≤W2.heap.size+2;omega)
       obtain⟨fn,tmps,assign,body,hy,hR⟩:=HYQ.out w3 g3 cx3 (OwnFrom.below hJ hJs hb3') hown4
       go_simp
       refine⟨rfl,hR.mono ?_⟩
       rintro e W3 ⟨hkf3,⟨rfl,hJ3,hk3⟩ | ⟨rfl,hJx3⟩⟩
       ·dsimp only
        refine hK _ _ ?_
        clear hK K hy hR
        have fin:=HFIN.out w3 W3 g3 cx3 hb3' hkf3 hJ3 hk3
        refine wpAnyIn_ready (rs:=[5]) (by kernel_rfl) (by simp) ?_
        refine AllReadyIn.cons rfl (fun K hK=>?_) ?_
        ·go_simp
         refine hK _ _ ?_
         clear hK K
         refine wpAnyIn_done (by kernel_rfl) ?_ _
         gi_wp2_with fail
         exact fin
        exact AllReadyIn.nil
       ·dsimp only
        refine hK _ _ ?_
        clear hK K hy hR
        have finx:=HFINX.out w3 W3 g3 cx3 hb3' hkf3 hJx3
        refine wpAnyIn_ready (rs:=[5]) (by kernel_rfl) (by simp) ?_
        refine AllReadyIn.cons rfl (fun K hK=>?_) ?_
        ·go_simp
         refine hK _ _ ?_
         clear hK K
         refine wpAnyIn_done (by kernel_rfl) ?_ _
         gi_wp2_with fail
         exact⟨finx.1,rfl,finx.2.2⟩
        exact AllReadyIn.nil
      exact AllReadyIn.nil
     exact AllReadyIn.nil
    refine AllReadyIn.cons rfl (fun K hK=>?_) ?_
    ·go_simp
     refine⟨trivial,rfl,(CallsIn.inRound l2 (callsIn_wide.2 (hA _ (Below.refl _ _).drew))).mono ?_⟩
     rintro e w3 ⟨g3,cx3,rfl,hown3,hb3⟩
     dsimp only
     refine hK _ _ ?_
     clear hK K
     have hb3':Below W2.heap.size W2 w3:=((Below.refl W2.heap.size W2).drew).trans hb3
     have s3:=hb3'.size
     have e8:=(hb3'.cell (p:=⟨W.heap.size,0,none⟩) (by exact hl2)).trans k8
     refine wpAnyIn_ready (rs:=[1]) (by kernel_rfl) (by simp) ?_
     refine AllReadyIn.cons rfl (fun K hK=>?_) ?_
     ·go_simp
      refine hK _ _ ?_
      clear hK K
      refine wpAnyIn_ready (rs:=[4]) (by kernel_rfl) (by simp) ?_
      refine AllReadyIn.cons rfl (fun K hK=>?_) ?_
      ·have hown4:w3.ownsRow w.heap.size 22 1 (.slice (some ⟨g3,0,none⟩) (c - 1) cx3) (c - 1) (ms.map (Value.int .u32)):=own_base hown3 (by show w.heap.size≤W2.heap.size+2;omega)
       obtain⟨fn,tmps,assign,body,hy,hR⟩:=HYQ.out w3 g3 cx3 (OwnFrom.below hJ hJs hb3') hown4
       go_simp
       refine⟨rfl,hR.mono ?_⟩
       rintro e W3 ⟨hkf3,⟨rfl,hJ3,hk3⟩ | ⟨rfl,hJx3⟩⟩
       ·dsimp only
        refine hK _ _ ?_
        clear hK K hy hR
        have fin:=HFIN.out w3 W3 g3 cx3 hb3' hkf3 hJ3 hk3
        refine wpAnyIn_ready (rs:=[5]) (by kernel_rfl) (by simp) ?_
        refine AllReadyIn.cons rfl (fun K hK=>?_) ?_
        ·go_simp
         refine hK _ _ ?_
         clear hK K
         refine wpAnyIn_done (by kernel_rfl) ?_ _
         gi_wp2_with fail
         exact fin
        exact AllReadyIn.nil
       ·dsimp only
        refine hK _ _ ?_
        clear hK K hy hR
        have finx:=HFINX.out w3 W3 g3 cx3 hb3' hkf3 hJx3
        refine wpAnyIn_ready (rs:=[5]) (by kernel_rfl) (by simp) ?_
        refine AllReadyIn.cons rfl (fun K hK=>?_) ?_
        ·go_simp
         refine hK _ _ ?_
         clear hK K
         refine wpAnyIn_done (by kernel_rfl) ?_ _
         gi_wp2_with fail
         exact⟨finx.1,rfl,finx.2.2⟩
        exact AllReadyIn.nil
      exact AllReadyIn.nil
     exact AllReadyIn.nil
    exact AllReadyIn.nil
   exact AllReadyIn.nil
  refine AllReadyIn.cons rfl (fun K hK=>?_) ?_
  ·go_simp
   refine hK _ _ ?_
   clear hK K
   refine wpAnyIn_ready (rs:=[0,2]) (by kernel_rfl) (by simp) ?_
   refine AllReadyIn.cons rfl (fun K hK=>?_) ?_
   ·go_simp
    refine hK _ _ ?_
    clear hK K
    refine wpAnyIn_ready (rs:=[2]) (by kernel_rfl) (by simp) ?_
    refine AllReadyIn.cons rfl (fun K hK=>?_) ?_
    ·go_simp
     refine hK _ _ ?_
     clear hK K
     refine wpAnyIn_ready (rs:=[3]) (by kernel_rfl) (by simp) ?_
     refine AllReadyIn.cons rfl (fun K hK=>?_) ?_
     ·go_simp
      refine⟨trivial,rfl,(CallsIn.inRound l2 (callsIn_wide.2 (hA _ (Below.refl _ _).drew))).mono ?_⟩
      rintro e w3 ⟨g3,cx3,rfl,hown3,hb3⟩
      dsimp only
      refine hK _ _ ?_
      clear hK K
      have hb3':Below W2.heap.size W2 w3:=((Below.refl W2.heap.size W2).drew).trans hb3
      have s3:=hb3'.size
      have e8:=(hb3'.cell (p:=⟨W.heap.size,0,none⟩) (by exact hl2)).trans k8
      refine wpAnyIn_ready (rs:=[4]) (by kernel_rfl) (by simp) ?_
      refine AllReadyIn.cons rfl (fun K hK=>?_) ?_
      ·have hown4:w3.ownsRow w.heap.size 22 1 (.slice (some ⟨g3,0,none⟩) (c - 1) cx3) (c - 1) (ms.map (Value.int .u32)):=own_base hown3 (by show w.heap.size≤W2.heap.size+2;omega)
       obtain⟨fn,tmps,assign,body,hy,hR⟩:=HYQ.out w3 g3 cx3 (OwnFrom.below hJ hJs hb3') hown4
       go_simp
       refine⟨rfl,hR.mono ?_⟩
       rintro e W3 ⟨hkf3,⟨rfl,hJ3,hk3⟩ | ⟨rfl,hJx3⟩⟩
       ·dsimp only
        refine hK _ _ ?_
        clear hK K hy hR
        have fin:=HFIN.out w3 W3 g3 cx3 hb3' hkf3 hJ3 hk3
        refine wpAnyIn_ready (rs:=[5]) (by kernel_rfl) (by simp) ?_
        refine AllReadyIn.cons rfl (fun K hK=>?_) ?_
        ·go_simp
         refine hK _ _ ?_
         clear hK K
         refine wpAnyIn_done (by kernel_rfl) ?_ _
         gi_wp2_with fail
         exact fin
        exact AllReadyIn.nil
       ·dsimp only
        refine hK _ _ ?_
        clear hK K hy hR
        have finx:=HFINX.out w3 W3 g3 cx3 hb3' hkf3 hJx3
        refine wpAnyIn_ready (rs:=[5]) (by kernel_rfl) (by simp) ?_
        refine AllReadyIn.cons rfl (fun K hK=>?_) ?_
        ·go_simp
         refine hK _ _ ?_
         clear hK K
         refine wpAnyIn_done (by kernel_rfl) ?_ _
         gi_wp2_with fail
         exact⟨finx.1,rfl,finx.2.2⟩
        exact AllReadyIn.nil
      exact AllReadyIn.nil
     exact AllReadyIn.nil
    exact AllReadyIn.nil
   refine AllReadyIn.cons rfl (fun K hK=>?_) ?_
   ·go_simp
    refine hK _ _ ?_
    clear hK K
    refine wpAnyIn_ready (rs:=[0,3]) (by kernel_rfl) (by simp) ?_
    refine AllReadyIn.cons rfl (fun K hK=>?_) ?_
    ·go_simp
     refine hK _ _ ?_
     clear hK K
     refine wpAnyIn_ready (rs:=[3]) (by kernel_rfl) (by simp) ?_
     refine AllReadyIn.cons rfl (fun K hK=>?_) ?_
     ·go_simp
      refine⟨trivial,rfl,(CallsIn.inRound l2 (callsIn_wide.2 (hA _ (Below.refl _ _).drew))).mono ?_⟩
      rintro e w3 ⟨g3,cx3,rfl,hown3,hb3⟩
      dsimp only
      refine hK _ _ ?_
      clear hK K
      have hb3':Below W2.heap.size W2 w3:=((Below.refl W2.heap.size W2).drew).trans hb3
      have s3:=hb3'.size
      have e8:=(hb3'.cell (p:=⟨W.heap.size,0,none⟩) (by exact hl2)).trans k8
      refine wpAnyIn_ready (rs:=[4]) (by kernel_rfl) (by simp) ?_
      refine AllReadyIn.cons rfl (fun K hK=>?_) ?_
      ·have hown4:w3.ownsRow w.heap.size 22 1 (.slice (some ⟨g3,0,none⟩) (c - 1) cx3) (c - 1) (ms.map (Value.int .u32)):=own_base hown3 (by show w.heap.size≤W2.heap.size+2;omega)
       obtain⟨fn,tmps,assign,body,hy,hR⟩:=HYQ.out w3 g3 cx3 (OwnFrom.below hJ hJs hb3') hown4
       go_simp
       refine⟨rfl,hR.mono ?_⟩
       rintro e W3 ⟨hkf3,⟨rfl,hJ3,hk3⟩ | ⟨rfl,hJx3⟩⟩
       ·dsimp only
        refine hK _ _ ?_
        clear hK K hy hR
        have fin:=HFIN.out w3 W3 g3 cx3 hb3' hkf3 hJ3 hk3
        refine wpAnyIn_ready (rs:=[5]) (by kernel_rfl) (by simp) ?_
        refine AllReadyIn.cons rfl (fun K hK=>?_) ?_
        ·go_simp
         refine hK _ _ ?_
         clear hK K
         refine wpAnyIn_done (by kernel_rfl) ?_ _
         gi_wp2_with fail
         exact fin
        exact AllReadyIn.nil
       ·dsimp only
        refine hK _ _ ?_
        clear hK K hy hR
        have finx:=HFINX.out w3 W3 g3 cx3 hb3' hkf3 hJx3
        refine wpAnyIn_ready (rs:=[5]) (by kernel_rfl) (by simp) ?_
        refine AllReadyIn.cons rfl (fun K hK=>?_) ?_
        ·go_simp
         refine hK _ _ ?_
         clear hK K
         refine wpAnyIn_done (by kernel_rfl) ?_ _
         gi_wp2_with fail
         exact⟨finx.1,rfl,finx.2.2⟩
        exact AllReadyIn.nil
      exact AllReadyIn.nil
     exact AllReadyIn.nil
    refine AllReadyIn.cons rfl (fun K hK=>?_) ?_
    ·go_simp
     refine⟨trivial,rfl,(CallsIn.inRound l2 (callsIn_wide.2 (hA _ (Below.refl _ _).drew))).mono ?_⟩
     rintro e w3 ⟨g3,cx3,rfl,hown3,hb3⟩
     dsimp only
     refine hK _ _ ?_
     clear hK K
     have hb3':Below W2.heap.size W2 w3:=((Below.refl W2.heap.size W2).drew).trans hb3
     have s3:=hb3'.size
     have e8:=(hb3'.cell (p:=⟨W.heap.size,0,none⟩) (by exact hl2)).trans k8
     refine wpAnyIn_ready (rs:=[0]) (by kernel_rfl) (by simp) ?_
     refine AllReadyIn.cons rfl (fun K hK=>?_) ?_
     ·go_simp
      refine hK _ _ ?_
      clear hK K
      refine wpAnyIn_ready (rs:=[4]) (by kernel_rfl) (by simp) ?_
      refine AllReadyIn.cons rfl (fun K hK=>?_) ?_
      ·have hown4:w3.ownsRow w.heap.size 22 1 (.slice (some ⟨g3,0,none⟩) (c - 1) cx3) (c - 1) (ms.map (Value.int .u32)):=own_base hown3 (by show w.heap.size≤W2.heap.size+2;omega)
       obtain⟨fn,tmps,assign,body,hy,hR⟩:=HYQ.out w3 g3 cx3 (OwnFrom.below hJ hJs hb3') hown4
       go_simp
       refine⟨rfl,hR.mono ?_⟩
       rintro e W3 ⟨hkf3,⟨rfl,hJ3,hk3⟩ | ⟨rfl,hJx3⟩⟩
       ·dsimp only
        refine hK _ _ ?_
        clear hK K hy hR
        have fin:=HFIN.out w3 W3 g3 cx3 hb3' hkf3 hJ3 hk3
        refine wpAnyIn_ready (rs:=[5]) (by kernel_rfl) (by simp) ?_
        refine AllReadyIn.cons rfl (fun K hK=>?_) ?_
        ·go_simp
         refine hK _ _ ?_
         clear hK K
         refine wpAnyIn_done (by kernel_rfl) ?_ _
         gi_wp2_with fail
         exact fin
        exact AllReadyIn.nil
       ·dsimp only
        refine hK _ _ ?_
        clear hK K hy hR
        have finx:=HFINX.out w3 W3 g3 cx3 hb3' hkf3 hJx3
        refine wpAnyIn_ready (rs:=[5]) (by kernel_rfl) (by simp) ?_
        refine AllReadyIn.cons rfl (fun K hK=>?_) ?_
        ·go_simp
         refine hK _ _ ?_
         clear hK K
         refine wpAnyIn_done (by kernel_rfl) ?_ _
         gi_wp2_with fail
         exact⟨finx.1,rfl,finx.2.2⟩
        exact AllReadyIn.nil
      exact AllReadyIn.nil
     exact AllReadyIn.nil
    exact AllReadyIn.nil
   exact AllReadyIn.nil
  refine AllReadyIn.cons rfl (fun K hK=>?_) ?_
  ·go_simp
   refine hK _ _ ?_
   clear hK K
   refine wpAnyIn_ready (rs:=[0,1,3]) (by kernel_rfl) (by simp) ?_
   refine AllReadyIn.cons rfl (fun K hK=>?_) ?_
   ·go_simp
    refine hK _ _ ?_
    clear hK K
    refine wpAnyIn_ready (rs:=[1,3]) (by kernel_rfl) (by simp) ?_
    refine AllReadyIn.cons rfl (fun K hK=>?_) ?_
    ·go_simp
     refine hK _ _ ?_
     clear hK K
     refine wpAnyIn_ready (rs:=[3]) (by kernel_rfl) (by simp) ?_
     refine AllReadyIn.cons rfl (fun K hK=>?_) ?_
     ·go_simp
      refine⟨trivial,rfl,(CallsIn.inRound l2 (callsIn_wide.2 (hA _ (Below.refl _ _).drew))).mono ?_⟩
      rintro e w3 ⟨g3,cx3,rfl,hown3,hb3⟩
      dsimp only
      refine hK _ _ ?_
      clear hK K
      have hb3':Below W2.heap.size W2 w3:=((Below.refl W2.heap.size W2).drew).trans hb3
      have s3:=hb3'.size
      have e8:=(hb3'.cell (p:=⟨W.heap.size,0,none⟩) (by exact hl2)).trans k8
      refine wpAnyIn_ready (rs:=[4]) (by kernel_rfl) (by simp) ?_
      refine AllReadyIn.cons rfl (fun K hK=>?_) ?_
      ·have hown4:w3.ownsRow w.heap.size 22 1 (.slice (some ⟨g3,0,none⟩) (c - 1) cx3) (c - 1) (ms.map (Value.int .u32)):=own_base hown3 (by show w.heap.size≤W2.heap.size+2;omega)
       obtain⟨fn,tmps,assign,body,hy,hR⟩:=HYQ.out w3 g3 cx3 (OwnFrom.below hJ hJs hb3') hown4
       go_simp
       refine⟨rfl,hR.mono ?_⟩
       rintro e W3 ⟨hkf3,⟨rfl,hJ3,hk3⟩ | ⟨rfl,hJx3⟩⟩
       ·dsimp only
        refine hK _ _ ?_
        clear hK K hy hR
        have fin:=HFIN.out w3 W3 g3 cx3 hb3' hkf3 hJ3 hk3
        refine wpAnyIn_ready (rs:=[5]) (by kernel_rfl) (by simp) ?_
        refine AllReadyIn.cons rfl (fun K hK=>?_) ?_
        ·go_simp
         refine hK _ _ ?_
         clear hK K
         refine wpAnyIn_done (by kernel_rfl) ?_ _
         gi_wp2_with fail
         exact fin
        exact AllReadyIn.nil
       ·dsimp only
        refine hK _ _ ?_
        clear hK K hy hR
        have finx:=HFINX.out w3 W3 g3 cx3 hb3' hkf3 hJx3
        refine wpAnyIn_ready (rs:=[5]) (by kernel_rfl) (by simp) ?_
        refine AllReadyIn.cons rfl (fun K hK=>?_) ?_
        ·go_simp
         refine hK _ _ ?_
         clear hK K
         refine wpAnyIn_done (by kernel_rfl) ?_ _
         gi_wp2_with fail
         exact⟨finx.1,rfl,finx.2.2⟩
        exact AllReadyIn.nil
      exact AllReadyIn.nil
     exact AllReadyIn.nil
    refine AllReadyIn.cons rfl (fun K hK=>?_) ?_
    ·go_simp
     refine⟨trivial,rfl,(CallsIn.inRound l2 (callsIn_wide.2 (hA _ (Below.refl _ _).drew))).mono ?_⟩
     rintro e w3 ⟨g3,cx3,rfl,hown3,hb3⟩
     dsimp only
     refine hK _ _ ?_
     clear hK K
     have hb3':Below W2.heap.size W2 w3:=((Below.refl W2.heap.size W2).drew).trans hb3
     have s3:=hb3'.size
     have e8:=(hb3'.cell (p:=⟨W.heap.size,0,none⟩) (by exact hl2)).trans k8
     refine wpAnyIn_ready (rs:=[1]) (by kernel_rfl) (by simp) ?_
     refine AllReadyIn.cons rfl (fun K hK=>?_) ?_
     ·go_simp
      refine hK _ _ ?_
      clear hK K
      refine wpAnyIn_ready (rs:=[4]) (by kernel_rfl) (by simp) ?_
      refine AllReadyIn.cons rfl (fun K hK=>?_) ?_
      ·have hown4:w3.ownsRow w.heap.size 22 1 (.slice (some ⟨g3,0,none⟩) (c - 1) cx3) (c - 1) (ms.map (Value.int .u32)):=own_base hown3 (by show w.heap.size≤W2.heap.size+2;omega)
       obtain⟨fn,tmps,assign,body,hy,hR⟩:=HYQ.out w3 g3 cx3 (OwnFrom.below hJ hJs hb3') hown4
       go_simp
       refine⟨rfl,hR.mono ?_⟩
       rintro e W3 ⟨hkf3,⟨rfl,hJ3,hk3⟩ | ⟨rfl,hJx3⟩⟩
       ·dsimp only
        refine hK _ _ ?_
        clear hK K hy hR
        have fin:=HFIN.out w3 W3 g3 cx3 hb3' hkf3 hJ3 hk3
        refine wpAnyIn_ready (rs:=[5]) (by kernel_rfl) (by simp) ?_
        refine AllReadyIn.cons rfl (fun K hK=>?_) ?_
        ·go_simp
         refine hK _ _ ?_
         clear hK K
         refine wpAnyIn_done (by kernel_rfl) ?_ _
         gi_wp2_with fail
         exact fin
        exact AllReadyIn.nil
       ·dsimp only
        refine hK _ _ ?_
        clear hK K hy hR
        have finx:=HFINX.out w3 W3 g3 cx3 hb3' hkf3 hJx3
        refine wpAnyIn_ready (rs:=[5]) (by kernel_rfl) (by simp) ?_
        refine AllReadyIn.cons rfl (fun K hK=>?_) ?_
        ·go_simp
         refine hK _ _ ?_
         clear hK K
         refine wpAnyIn_done (by kernel_rfl) ?_ _
         gi_wp2_with fail
         exact⟨finx.1,rfl,finx.2.2⟩
        exact AllReadyIn.nil
      exact AllReadyIn.nil
     exact AllReadyIn.nil
    exact AllReadyIn.nil
   refine AllReadyIn.cons rfl (fun K hK=>?_) ?_
   ·go_simp
    refine hK _ _ ?_
    clear hK K
    refine wpAnyIn_ready (rs:=[0,3]) (by kernel_rfl) (by simp) ?_
    refine AllReadyIn.cons rfl (fun K hK=>?_) ?_
    ·go_simp
     refine hK _ _ ?_
     clear hK K
     refine wpAnyIn_ready (rs:=[3]) (by kernel_rfl) (by simp) ?_
     refine AllReadyIn.cons rfl (fun K hK=>?_) ?_
     ·go_simp
      refine⟨trivial,rfl,(CallsIn.inRound l2 (callsIn_wide.2 (hA _ (Below.refl _ _).drew))).mono ?_⟩
      rintro e w3 ⟨g3,cx3,rfl,hown3,hb3⟩
      dsimp only
      refine hK _ _ ?_
      clear hK K
      have hb3':Below W2.heap.size W2 w3:=((Below.refl W2.heap.size W2).drew).trans hb3
      have s3:=hb3'.size
      have e8:=(hb3'.cell (p:=⟨W.heap.size,0,none⟩) (by exact hl2)).trans k8
      refine wpAnyIn_ready (rs:=[4]) (by kernel_rfl) (by simp) ?_
      refine AllReadyIn.cons rfl (fun K hK=>?_) ?_
      ·have hown4:w3.ownsRow w.heap.size 22 1 (.slice (some ⟨g3,0,none⟩) (c - 1) cx3) (c - 1) (ms.map (Value.int .u32)):=own_base hown3 (by show w.heap.size≤W2.heap.size+2;omega)
       obtain⟨fn,tmps,assign,body,hy,hR⟩:=HYQ.out w3 g3 cx3 (OwnFrom.below hJ hJs hb3') hown4
       go_simp
       refine⟨rfl,hR.mono ?_⟩
       rintro e W3 ⟨hkf3,⟨rfl,hJ3,hk3⟩ | ⟨rfl,hJx3⟩⟩
       ·dsimp only
        refine hK _ _ ?_
        clear hK K hy hR
        have fin:=HFIN.out w3 W3 g3 cx3 hb3' hkf3 hJ3 hk3
        refine wpAnyIn_ready (rs:=[5]) (by kernel_rfl) (by simp) ?_
        refine AllReadyIn.cons rfl (fun K hK=>?_) ?_
        ·go_simp
         refine hK _ _ ?_
         clear hK K
         refine wpAnyIn_done (by kernel_rfl) ?_ _
         gi_wp2_with fail
         exact fin
        exact AllReadyIn.nil
       ·dsimp only
        refine hK _ _ ?_
        clear hK K hy hR
        have finx:=HFINX.out w3 W3 g3 cx3 hb3' hkf3 hJx3
        refine wpAnyIn_ready (rs:=[5]) (by kernel_rfl) (by simp) ?_
        refine AllReadyIn.cons rfl (fun K hK=>?_) ?_
        ·go_simp
         refine hK _ _ ?_
         clear hK K
         refine wpAnyIn_done (by kernel_rfl) ?_ _
         gi_wp2_with fail
         exact⟨finx.1,rfl,finx.2.2⟩
        exact AllReadyIn.nil
      exact AllReadyIn.nil
     exact AllReadyIn.nil
    refine AllReadyIn.cons rfl (fun K hK=>?_) ?_
    ·go_simp
     refine⟨trivial,rfl,(CallsIn.inRound l2 (callsIn_wide.2 (hA _ (Below.refl _ _).drew))).mono ?_⟩
     rintro e w3 ⟨g3,cx3,rfl,hown3,hb3⟩
     dsimp only
     refine hK _ _ ?_
     clear hK K
     have hb3':Below W2.heap.size W2 w3:=((Below.refl W2.heap.size W2).drew).trans hb3
     have s3:=hb3'.size
     have e8:=(hb3'.cell (p:=⟨W.heap.size,0,none⟩) (by exact hl2)).trans k8
     refine wpAnyIn_ready (rs:=[0]) (by kernel_rfl) (by simp) ?_
     refine AllReadyIn.cons rfl (fun K hK=>?_) ?_
     ·go_simp
      refine hK _ _ ?_
      clear hK K
      refine wpAnyIn_ready (rs:=[4]) (by kernel_rfl) (by simp) ?_
      refine AllReadyIn.cons rfl (fun K hK=>?_) ?_
      ·have hown4:w3.ownsRow w.heap.size 22 1 (.slice (some ⟨g3,0,none⟩) (c - 1) cx3) (c - 1) (ms.map (Value.int .u32)):=own_base hown3 (by show w.heap.size≤W2.heap.size+2;omega)
       obtain⟨fn,tmps,assign,body,hy,hR⟩:=HYQ.out w3 g3 cx3 (OwnFrom.below hJ hJs hb3') hown4
       go_simp
       refine⟨rfl,hR.mono ?_⟩
       rintro e W3 ⟨hkf3,⟨rfl,hJ3,hk3⟩ | ⟨rfl,hJx3⟩⟩
       ·dsimp only
        refine hK _ _ ?_
        clear hK K hy hR
        have fin:=HFIN.out w3 W3 g3 cx3 hb3' hkf3 hJ3 hk3
        refine wpAnyIn_ready (rs:=[5]) (by kernel_rfl) (by simp) ?_
        refine AllReadyIn.cons rfl (fun K hK=>?_) ?_
        ·go_simp
         refine hK _ _ ?_
         clear hK K
         refine wpAnyIn_done (by kernel_rfl) ?_ _
         gi_wp2_with fail
         exact fin
        exact AllReadyIn.nil
       ·dsimp only
        refine hK _ _ ?_
        clear hK K hy hR
        have finx:=HFINX.out w3 W3 g3 cx3 hb3' hkf3 hJx3
        refine wpAnyIn_ready (rs:=[5]) (by kernel_rfl) (by simp) ?_
        refine AllReadyIn.cons rfl (fun K hK=>?_) ?_
        ·go_simp
         refine hK _ _ ?_
         clear hK K
         refine wpAnyIn_done (by kernel_rfl) ?_ _
         gi_wp2_with fail
         exact⟨finx.1,rfl,finx.2.2⟩
        exact AllReadyIn.nil
      exact AllReadyIn.nil
     exact AllReadyIn.nil
    exact AllReadyIn.nil
   refine AllReadyIn.cons rfl (fun K hK=>?_) ?_
   ·go_simp
    refine⟨trivial,rfl,(CallsIn.inRound l2 (callsIn_wide.2 (hA _ (Below.refl _ _).drew))).mono ?_⟩
    rintro e w3 ⟨g3,cx3,rfl,hown3,hb3⟩
    dsimp only
    refine hK _ _ ?_
    clear hK K
    have hb3':Below W2.heap.size W2 w3:=((Below.refl W2.heap.size W2).drew).trans hb3
    have s3:=hb3'.size
    have e8:=(hb3'.cell (p:=⟨W.heap.size,0,none⟩) (by exact hl2)).trans k8
    refine wpAnyIn_ready (rs:=[0,1]) (by kernel_rfl) (by simp) ?_
    refine AllReadyIn.cons rfl (fun K hK=>?_) ?_
    ·go_simp
     refine hK _ _ ?_
     clear hK K
     refine wpAnyIn_ready (rs:=[1]) (by kernel_rfl) (by simp) ?_
     refine AllReadyIn.cons rfl (fun K hK=>?_) ?_
     ·go_simp
      refine hK _ _ ?_
      clear hK K
      refine wpAnyIn_ready (rs:=[4]) (by kernel_rfl) (by simp) ?_
      refine AllReadyIn.cons rfl (fun K hK=>?_) ?_
      ·have hown4:w3.ownsRow w.heap.size 22 1 (.slice (some ⟨g3,0,none⟩) (c - 1) cx3) (c - 1) (ms.map (Value.int .u32)):=own_base hown3 (by show w.heap.size≤W2.heap.size+2;omega)
       obtain⟨fn,tmps,assign,body,hy,hR⟩:=HYQ.out w3 g3 cx3 (OwnFrom.below hJ hJs hb3') hown4
       go_simp
       refine⟨rfl,hR.mono ?_⟩
       rintro e W3 ⟨hkf3,⟨rfl,hJ3,hk3⟩ | ⟨rfl,hJx3⟩⟩
       ·dsimp only
        refine hK _ _ ?_
        clear hK K hy hR
        have fin:=HFIN.out w3 W3 g3 cx3 hb3' hkf3 hJ3 hk3
        refine wpAnyIn_ready (rs:=[5]) (by kernel_rfl) (by simp) ?_
        refine AllReadyIn.cons rfl (fun K hK=>?_) ?_
        ·go_simp
         refine hK _ _ ?_
         clear hK K
         refine wpAnyIn_done (by kernel_rfl) ?_ _
         gi_wp2_with fail
         exact fin
        exact AllReadyIn.nil
       ·dsimp only
        refine hK _ _ ?_
        clear hK K hy hR
        have finx:=HFINX.out w3 W3 g3 cx3 hb3' hkf3 hJx3
        refine wpAnyIn_ready (rs:=[5]) (by kernel_rfl) (by simp) ?_
        refine AllReadyIn.cons rfl (fun K hK=>?_) ?_
        ·go_simp
         refine hK _ _ ?_
         clear hK K
         refine wpAnyIn_done (by kernel_rfl) ?_ _
         gi_wp2_with fail
         exact⟨finx.1,rfl,finx.2.2⟩
        exact AllReadyIn.nil
      exact AllReadyIn.nil
     exact AllReadyIn.nil
    refine AllReadyIn.cons rfl (fun K hK=>?_) ?_
    ·go_simp
     refine hK _ _ ?_
     clear hK K
     refine wpAnyIn_ready (rs:=[0]) (by kernel_rfl) (by simp) ?_
     refine AllReadyIn.cons rfl (fun K hK=>?_) ?_
     ·go_simp
      refine hK _ _ ?_
      clear hK K
      refine wpAnyIn_ready (rs:=[4]) (by kernel_rfl) (by simp) ?_
      refine AllReadyIn.cons rfl (fun K hK=>?_) ?_
      ·have hown4:w3.ownsRow w.heap.size 22 1 (.slice (some ⟨g3,0,none⟩) (c - 1) cx3) (c - 1) (ms.map (Value.int .u32)):=own_base hown3 (by show w.heap.size≤W2.heap.size+2;omega)
       obtain⟨fn,tmps,assign,body,hy,hR⟩:=HYQ.out w3 g3 cx3 (OwnFrom.below hJ hJs hb3') hown4
       go_simp
       refine⟨rfl,hR.mono ?_⟩
       rintro e W3 ⟨hkf3,⟨rfl,hJ3,hk3⟩ | ⟨rfl,hJx3⟩⟩
       ·dsimp only
        refine hK _ _ ?_
        clear hK K hy hR
        have fin:=HFIN.out w3 W3 g3 cx3 hb3' hkf3 hJ3 hk3
        refine wpAnyIn_ready (rs:=[5]) (by kernel_rfl) (by simp) ?_
        refine AllReadyIn.cons rfl (fun K hK=>?_) ?_
        ·go_simp
         refine hK _ _ ?_
         clear hK K
         refine wpAnyIn_done (by kernel_rfl) ?_ _
         gi_wp2_with fail
         exact fin
        exact AllReadyIn.nil
       ·dsimp only
        refine hK _ _ ?_
        clear hK K hy hR
        have finx:=HFINX.out w3 W3 g3 cx3 hb3' hkf3 hJx3
        refine wpAnyIn_ready (rs:=[5]) (by kernel_rfl) (by simp) ?_
        refine AllReadyIn.cons rfl (fun K hK=>?_) ?_
        ·go_simp
         refine hK _ _ ?_
         clear hK K
         refine wpAnyIn_done (by kernel_rfl) ?_ _
         gi_wp2_with fail
         exact⟨finx.1,rfl,finx.2.2⟩
        exact AllReadyIn.nil
      exact AllReadyIn.nil
     exact AllReadyIn.nil
    exact AllReadyIn.nil
   exact AllReadyIn.nil
  exact AllReadyIn.nil
theorem view_kept {τ:TypeId→Prop} {A B:World} {g:Nat} {zs:List Int} {cs:Array Value} {t:TypeId} {fr:Nat×Nat} (h:View .u32 A (some ⟨g,0,none⟩) zs) (hg:A.heap[g]?=some (.cells cs t fr)) (ht:τ t) (hk:KeptT τ A B):View .u32 B (some ⟨g,0,none⟩) zs:=by
 intro j hj
 obtain⟨b,off,e,hlt,hc⟩:=h j hj
 obtain⟨rfl,rfl⟩:g=b∧0=off:=by cases e;exact⟨rfl,rfl⟩
 have hB:=hk g cs t fr ht hg
 refine⟨g,0,rfl,(Array.getElem?_eq_some_iff.1 hB).1,?_⟩
 rw [← hc]
 exact World.cell?_of_block (w:=A) (hB.trans hg.symm)
set_option maxHeartbeats 1000000 in
theorem each_own (x:Addr) (n cap:Nat) (zs:List Int) (w:World) (hv:View .u32 w (some x) zs) (hl:zs.length=n) (hn:4 * n≤140737488351232) :
  Calls Tryz.prog 63 #[.slice (some x) n cap] w fun e w'=>∃ B g cx,e=.returned (.func (.func 105) #[] #[.pointer (some ⟨B,0,none⟩)])∧w'.heap[B]?=some (.cells #[.slice (some ⟨g,0,none⟩) n cx] 52 (0,0)) ∧
   View .u32 w' (some ⟨g,0,none⟩) zs∧n≤cx∧Below w.heap.size w w'∧w.heap.size≤B∧∃ cs fr,w'.heap[g]?=some (.cells cs 22 fr):=by
 have hC:=clone_some x n cap zs w hv hl hn
 have HL:Hid (zs.length=n):=hl
 clear hv hl
 go_enter Tryz.func63,Tryz.ntmps63
 go_wp2_with fail
 refine hC.mono ?_
 rintro e w1 ⟨g,cx,rfl,hown,hb⟩
 have hv1:=View.ofRow hown HL.out
 have hcap:n≤cx:=by
  rcases hown.2 with ⟨h1,h2⟩ | ⟨g',c',cur,h1,_,_,h4,_⟩
  ·cases h1
  ·cases h1;exact h4
 have hty:∃ cs fr,w1.heap[g]?=some (.cells cs 22 fr):=by
  rcases hown.2 with ⟨h1,h2⟩ | ⟨g',c',cur,h1,_,h3,_⟩
  ·cases h1
  ·cases h1;exact⟨_,_,h3⟩
 obtain⟨cs1,fr1,hty⟩:=hty
 have HTY:Hid (w1.heap[g]?=some (.cells cs1 22 fr1)):=hty
 have s1:=hb.size
 clear hown hC hty
 go_wp2
 go_ret
 exact⟨w1.heap.size,g,cx,rfl,heap_alloc_new w1 _,hv1.below ((Below.refl _ w1).alloc (Nat.le_refl _) _),hcap,hb.alloc s1 _,s1,cs1,fr1,(Below.heap_alloc _ _ _ (Array.getElem?_eq_some_iff.1 HTY.out).1).trans HTY.out⟩
end Go.Proofs.YtonhnflilfjkbaaGreatDoor
namespace Go.Proofs.YtonhnflilfjkbaaGreatDoor
open Go.RowKit
set_option linter.unusedVariables false
set_option linter.unusedSimpArgs false
set_option maxRecDepth 10000
theorem ownI_ty (has:Bool) (zs:List Int) (b:Int):ownI has 40 zs b 0=headTy has zs b:=rfl
theorem ownI_res (has:Bool) (zs:List Int) (b:Int) (p:Nat):ownI has 41 zs b p=headRes has zs b p:=rfl
theorem set4 {w:World} {B T:Nat} {z0 z1 z2 z3:Value} (h:w.heap[B]?=some (.cells #[z0,z1,z2,z3] T (0,0))) (i:Nat) (u:Value):(w.setCell ⟨B,i,none⟩ u).heap[B]?=some (.cells (#[z0,z1,z2,z3].setIfInBounds i u) T (0,0)):=by
 simp [World.setCell,Array.getElem?_modify,h]
theorem four_put {w:World} {B T:Nat} {z0 z1 z2 z3:Value} (h:w.heap[B]?=some (.cells #[z0,z1,z2,z3] T (0,0))) (u0 u1 u2 u3:Value) :
  ((((w.setCell ⟨B,0,none⟩ u0).setCell ⟨B,1,none⟩ u1).setCell ⟨B,2,none⟩ u2).setCell ⟨B,3,none⟩ u3).heap[B]?=some (.cells #[u0,u1,u2,u3] T (0,0)):=by
 simp only [World.setCell,Array.getElem?_modify,h];simp
theorem four_keep (w:World) (B:Nat) (u0 u1 u2 u3:Value):Below B w ((((w.setCell ⟨B,0,none⟩ u0).setCell ⟨B,1,none⟩ u1).setCell ⟨B,2,none⟩ u2).setCell ⟨B,3,none⟩ u3) :=
 ((((Below.refl B w).setCell (Nat.le_refl _) _).setCell (Nat.le_refl _) _).setCell (Nat.le_refl _) _).setCell (Nat.le_refl _) _
theorem cells4 {w:World} {G T:Nat} {a b c d:Value} (h:w.heap[G]?=some (.cells #[a,b,c,d] T (0,0))):w.cell? ⟨G,0,none⟩=some a∧w.cell? ⟨G,1,none⟩=some b∧w.cell? ⟨G,2,none⟩=some c∧w.cell? ⟨G,3,none⟩=some d∧∀ i,w.frozen? ⟨G,i,none⟩=false:=by
 obtain⟨hc,hf⟩:=one_block h
 exact⟨hc 0,hc 1,hc 2,hc 3,hf⟩
theorem grown_block {w w':World} {g k:Nat} {o:Obj} (hg:w.grownBy w' (some g)) (h:w.heap[k]?=some o) (hne:k≠g):w'.heap[k]?=some o :=
 (hg.block k (Array.getElem?_eq_some_iff.1 h).1 (fun e=>hne (by cases e;rfl))).trans h
theorem ownFar2 {w:World} {lo e size n B:Nat} {v:Value} {xs:List Value} (h:w.ownsRow lo e size v n xs) (hB:B<lo) (i:Nat) (u:Value):(w.setCell ⟨B,i,none⟩ u).ownsRow lo e size v n xs:=by
 refine⟨h.1,?_⟩
 rcases h.2 with hn | ⟨g,cap,cur,rfl,hb,hgg,rest⟩
 ·exact .inl hn
 ·refine .inr ⟨g,cap,cur,rfl,hb,?_,rest⟩
  exact (Below.heap_setCell _ _ _ _ (by simp;omega)).trans hgg
theorem own_lo' {w:World} {lo lo' e size n:Nat} {v:Value} {xs:List Value} (h:w.ownsRow lo e size v n xs) (hl:lo'≤lo):w.ownsRow lo' e size v n xs:=by
 refine⟨h.1,?_⟩
 rcases h.2 with hn | ⟨g,cap,cur,e1,hb,rest⟩
 ·exact .inl hn
 ·exact .inr ⟨g,cap,cur,e1,Nat.le_trans hl hb,rest⟩
set_option maxHeartbeats 2000000 in
theorem rinst_any (w:World) (R:Nat) (o:Int) (f:Frm) (b:Int) (gr ga n cw:Nat) (zs:List Int) (h:RdS w R o f b gr ga n cw 0 zs) (hf:lookF refT o=(f,true)) (hn:n≤65535) :
  Calls Tryz.prog 107 #[.pointer (some ⟨R,0,none⟩)] w fun e w'=>w.grownBy w' (some gr)∧∃ a m c,e=.returned (.tuple #[instV (instF f o zs b).1 a m c,.int .i64 (instF f o zs b).2])∧(instF f o zs b).1.2.2.2.length=m ∧
   w'.ownsRow w.heap.size 61 3 (.slice a m c) m ((instF f o zs b).1.2.2.2.flatMap argC):=by
 have hlt:=h.lt
 have hga:0<n→ga<w.heap.size:=fun hn0=>h.ga hn0
 have hlen:=h.rd.len
 have hO1:=fun wx hx=>ownIdR_any wx R o f b gr ga n cw 0 zs f.2.1 40 hx (by decide)
 have hO2:=fun wx hx=>ownIdR_any wx R o f b gr ga n cw (0+f.2.1.toNat) zs f.2.2.1 41 hx (by decide)
 have hAr:=fun wx hx hK=>rargs_any wx R o f b gr ga n cw (0+f.2.1.toNat+f.2.2.1.toNat) zs (zs.length+1) hx hf hn hK
 rw [Nat.zero_add] at hO2 hAr
 rw [ownI_ty] at hO1
 rw [ownI_res] at hO2
 obtain⟨T,hT⟩:∃ t,t=headTy f.2.1 zs b:=⟨_,rfl⟩
 obtain⟨S,hS⟩:∃ t,t=headRes f.2.2.1 zs b f.2.1.toNat:=⟨_,rfl⟩
 obtain⟨A,hA⟩:∃ t,t=argsI f b (zs.length+1) (zs.drop (f.2.1.toNat+f.2.2.1.toNat)) []:=⟨_,rfl⟩
 have HI:Hid (instF f o zs b=if T.2≠0 then (noInst,T.2) else if S.2≠0 then (noInst,S.2) else if A.2≠0 then (noInst,A.2) else ((o,T.1,S.1,A.1),0)):=by
  show _=_
  unfold instF
  rw [← hT,← hS,← hA]
 rw [← hT] at hO1
 rw [← hS] at hO2
 rw [← hA] at hAr
 clear hT hS hA
 generalize instF f o zs b=I at HI ⊢
 obtain⟨T1,T2⟩:=T
 obtain⟨S1,S2⟩:=S
 obtain⟨A1,A2⟩:=A
 simp only at *
 unfold instV
 have c0:=h.cells.1
 have hb1:Below w.heap.size w ((w.alloc (.cells #[.int .u16 0,.int .u32 0,.int .u32 0,.slice none 0 0] 38)).alloc (.cells #[.int .u16 o,.int .u32 0,.int .u32 0,.slice none 0 0] 38)):=((Below.refl _ w).alloc (Nat.le_refl _) _).alloc (by simp) _
 have kX:((w.alloc (.cells #[.int .u16 0,.int .u32 0,.int .u32 0,.slice none 0 0] 38)).alloc (.cells #[.int .u16 o,.int .u32 0,.int .u32 0,.slice none 0 0] 38)).heap[w.heap.size]?=some (.cells #[.int .u16 0,.int .u32 0,.int .u32 0,.slice none 0 0] 38 (0,0)):=(Below.heap_alloc _ _ _ (by simp)).trans (alloc_new w _ _)
 have kI:((w.alloc (.cells #[.int .u16 0,.int .u32 0,.int .u32 0,.slice none 0 0] 38)).alloc (.cells #[.int .u16 o,.int .u32 0,.int .u32 0,.slice none 0 0] 38)).heap[w.heap.size+1]?=some (.cells #[.int .u16 o,.int .u32 0,.int .u32 0,.slice none 0 0] 38 (0,0)):=alloc_newAt _ _ (by simp)
 have hS0:=h.below hb1
 have c2:=hS0.cells.2.1
 go_enter Tryz.func107,Tryz.ntmps107
 go_wp2_with fail
 generalize (w.alloc (.cells #[.int .u16 0,.int .u32 0,.int .u32 0,.slice none 0 0] 38)).alloc (.cells #[.int .u16 o,.int .u32 0,.int .u32 0,.slice none 0 0] 38)=W at *
 refine (hO1 W hS0).mono ?_
 rintro e w2 ⟨rfl,hg2,hy2⟩
 have kX2:=grown_block hg2 kX (by omega)
 have kI2:=grown_block hg2 kI (by omega)
 have hgw2:=below_then hb1 hg2
 obtain⟨i0,i1,i2,i3,if_⟩:=cells4 kI2
 clear hO1 kX kI hb1 hg2 c2
 have kI3:=set4 kI2 1 (.int .u32 T1)
 have kX3:=(Below.heap_setCell w2 ⟨w.heap.size+1,1,none⟩ (.int .u32 T1) w.heap.size (by simp)).trans kX2
 have hB3:Below w.heap.size w2 (w2.setCell ⟨w.heap.size+1,1,none⟩ (.int .u32 T1)):=(Below.refl _ _).setCell (by simp) _
 have hgw3:=grown_then hgw2 hB3
 by_cases z1:T2=0
 ·subst z1
  have hS3:=(hy2 rfl).keep hB3 hlt.1 hlt.2 hga
  rw [Nat.zero_add] at hS3
  have c3:=hS3.cells.2.2.1
  clear hy2 kX2 kI2 hgw2 hB3
  go_wp2_with fail
  generalize (w2.setCell ⟨w.heap.size+1,1,none⟩ (.int .u32 T1))=W3 at *
  refine (hO2 W3 hS3).mono ?_
  rintro e w4 ⟨rfl,hg4,hy4⟩
  have kX4:=grown_block hg4 kX3 (by omega)
  have kI4:=grown_block hg4 kI3 (by omega)
  have hgw4:=hgw3.trans hg4
  obtain⟨j0,j1,j2,j3,jf⟩:=cells4 kI4
  clear hO2 kX3 kI3 hg4 c3 i0 i1 i2 i3 if_ hgw3
  have kI5:=set4 kI4 2 (.int .u32 S1)
  have kX5:=(Below.heap_setCell w4 ⟨w.heap.size+1,2,none⟩ (.int .u32 S1) w.heap.size (by simp)).trans kX4
  have hB5:Below w.heap.size w4 (w4.setCell ⟨w.heap.size+1,2,none⟩ (.int .u32 S1)):=(Below.refl _ _).setCell (by simp) _
  have hgw5:=grown_then hgw4 hB5
  by_cases z2:S2=0
  ·subst z2
   have hS5:=(hy4 rfl).keep hB5 hlt.1 hlt.2 hga
   clear hy4 kX4 kI4 hgw4 hB5
   go_wp2_with fail
   generalize (w4.setCell ⟨w.heap.size+1,2,none⟩ (.int .u32 S1))=W5 at *
   refine (hAr W5 hS5 (by omega)).mono ?_
   rintro e w6 ⟨hg6,a',m',cap',rfl,hm6,hown6⟩
   have kX6:=grown_block hg6 kX5 (by omega)
   have kI6:=grown_block hg6 kI5 (by omega)
   have hgw6:=hgw5.trans hg6
   obtain⟨l0,l1,l2,l3,lf⟩:=cells4 kI6
   have sz5:=hgw5.size
   have hlW:w.heap.size+1<W5.heap.size:=(Array.getElem?_eq_some_iff.1 kI5).1
   clear hAr kX5 kI5 hg6 j0 j1 j2 j3 jf hgw5 hS5
   have kI7:=set4 kI6 3 (.slice a' m' cap')
   have kX7:=(Below.heap_setCell w6 ⟨w.heap.size+1,3,none⟩ (.slice a' m' cap') w.heap.size (by simp)).trans kX6
   have hB7:Below w.heap.size w6 (w6.setCell ⟨w.heap.size+1,3,none⟩ (.slice a' m' cap')):=(Below.refl _ _).setCell (by simp) _
   have hgw7:=grown_then hgw6 hB7
   have hown7:=ownFar2 hown6 hlW 3 (.slice a' m' cap')
   obtain⟨n0,n1,n2,n3,nf⟩:=cells4 kI7
   obtain⟨x0,x1,x2,x3,xf⟩:=cells4 kX7
   by_cases z3:A2=0
   ·subst z3
    have hI:I=((o,T1,S1,A1),0):=by rw [HI.out];simp
    subst hI
    clear kX6 kI6 hB7 hgw6 HI
    go_wp2
    have hB4:=four_put kX7 (.int .u16 o) (.int .u32 T1) (.int .u32 S1) (.slice a' m' cap')
    have hBel:=four_keep (w6.setCell ⟨w.heap.size+1,3,none⟩ (.slice a' m' cap')) w.heap.size (.int .u16 o) (.int .u32 T1) (.int .u32 S1) (.slice a' m' cap')
    have hgf:=grown_then hgw7 hBel
    have hown8:=own_lo' (ownFar2 (ownFar2 (ownFar2 (ownFar2 hown7 (show w.heap.size<W5.heap.size by omega) 0 (.int .u16 o)) (show w.heap.size<W5.heap.size by omega) 1 (.int .u32 T1)) (show w.heap.size<W5.heap.size by omega) 2 (.int .u32 S1)) (show w.heap.size<W5.heap.size by omega) 3 (.slice a' m' cap')) (show w.heap.size≤W5.heap.size by omega)
    clear x0 x1 x2 x3 xf n0 n1 n2 n3 nf kX7 kI7 hown7 hown6 l0 l1 l2 l3 lf
    generalize ((((w6.setCell ⟨w.heap.size+1,3,none⟩ (.slice a' m' cap')).setCell ⟨w.heap.size,0,none⟩ (.int .u16 o)).setCell ⟨w.heap.size,1,none⟩ (.int .u32 T1)).setCell ⟨w.heap.size,2,none⟩ (.int .u32 S1)).setCell ⟨w.heap.size,3,none⟩ (.slice a' m' cap')=WF at hB4 hBel hgf hown8 ⊢
    obtain⟨d0,d1,d2,d3,_⟩:=cells4 hB4
    refine bodyPost_ret (v:=.tuple #[.agg #[.int .u16 o,.int .u32 T1,.int .u32 S1,.slice a' m' cap'],.int .i64 0]) ?_ rfl ⟨hgf,a',m',cap',rfl,by first | exact hm6 | rfl,hown8⟩
    simp [results,Tryz.results107,go_sem,d0,d1,d2,d3]
   ·have hI:I=(noInst,A2):=by rw [HI.out];simp [z3]
    subst hI
    clear kX6 kI6 hB7 hgw6 HI
    go_wp2
    have hB4:=four_put kX7 (.int .u16 0) (.int .u32 0) (.int .u32 0) (.slice none 0 0)
    have hBel:=four_keep (w6.setCell ⟨w.heap.size+1,3,none⟩ (.slice a' m' cap')) w.heap.size (.int .u16 0) (.int .u32 0) (.int .u32 0) (.slice none 0 0)
    have hgf:=grown_then hgw7 hBel
    clear x0 x1 x2 x3 xf
    generalize ((((w6.setCell ⟨w.heap.size+1,3,none⟩ (.slice a' m' cap')).setCell ⟨w.heap.size,0,none⟩ (.int .u16 0)).setCell ⟨w.heap.size,1,none⟩ (.int .u32 0)).setCell ⟨w.heap.size,2,none⟩ (.int .u32 0)).setCell ⟨w.heap.size,3,none⟩ (.slice none 0 0)=WF at hB4 hBel hgf ⊢
    obtain⟨d0,d1,d2,d3,_⟩:=cells4 hB4
    refine bodyPost_ret (v:=.tuple #[.agg #[.int .u16 0,.int .u32 0,.int .u32 0,.slice none 0 0],.int .i64 A2]) ?_ rfl ⟨hgf,none,0,0,rfl,rfl,World.ownsRow_nil _ _ _ _⟩
    simp [results,Tryz.results107,go_sem,d0,d1,d2,d3]
  ·have hI:I=(noInst,S2):=by rw [HI.out];simp [z2]
   subst hI
   obtain⟨x0,x1,x2,x3,xf⟩:=cells4 kX5
   clear hy4 HI
   go_wp2
   have hB4:=four_put kX5 (.int .u16 0) (.int .u32 0) (.int .u32 0) (.slice none 0 0)
   have hBel:=four_keep (w4.setCell ⟨w.heap.size+1,2,none⟩ (.int .u32 S1)) w.heap.size (.int .u16 0) (.int .u32 0) (.int .u32 0) (.slice none 0 0)
   have hgf:=grown_then hgw5 hBel
   clear x0 x1 x2 x3 xf
   generalize ((((w4.setCell ⟨w.heap.size+1,2,none⟩ (.int .u32 S1)).setCell ⟨w.heap.size,0,none⟩ (.int .u16 0)).setCell ⟨w.heap.size,1,none⟩ (.int .u32 0)).setCell ⟨w.heap.size,2,none⟩ (.int .u32 0)).setCell ⟨w.heap.size,3,none⟩ (.slice none 0 0)=WF at hB4 hBel hgf ⊢
   obtain⟨d0,d1,d2,d3,_⟩:=cells4 hB4
   refine bodyPost_ret (v:=.tuple #[.agg #[.int .u16 0,.int .u32 0,.int .u32 0,.slice none 0 0],.int .i64 S2]) ?_ rfl ⟨hgf,none,0,0,rfl,rfl,World.ownsRow_nil _ _ _ _⟩
   simp [results,Tryz.results107,go_sem,d0,d1,d2,d3]
 ·have hI:I=(noInst,T2):=by rw [HI.out];simp [z1]
  subst hI
  obtain⟨x0,x1,x2,x3,xf⟩:=cells4 kX3
  clear hy2 HI
  go_wp2
  have hB4:=four_put kX3 (.int .u16 0) (.int .u32 0) (.int .u32 0) (.slice none 0 0)
  have hBel:=four_keep (w2.setCell ⟨w.heap.size+1,1,none⟩ (.int .u32 T1)) w.heap.size (.int .u16 0) (.int .u32 0) (.int .u32 0) (.slice none 0 0)
  have hgf:=grown_then hgw3 hBel
  clear x0 x1 x2 x3 xf
  generalize ((((w2.setCell ⟨w.heap.size+1,1,none⟩ (.int .u32 T1)).setCell ⟨w.heap.size,0,none⟩ (.int .u16 0)).setCell ⟨w.heap.size,1,none⟩ (.int .u32 0)).setCell ⟨w.heap.size,2,none⟩ (.int .u32 0)).setCell ⟨w.heap.size,3,none⟩ (.slice none 0 0)=WF at hB4 hBel hgf ⊢
  obtain⟨d0,d1,d2,d3,_⟩:=cells4 hB4
  refine bodyPost_ret (v:=.tuple #[.agg #[.int .u16 0,.int .u32 0,.int .u32 0,.slice none 0 0],.int .i64 T2]) ?_ rfl ⟨hgf,none,0,0,rfl,rfl,World.ownsRow_nil _ _ _ _⟩
  simp [results,Tryz.results107,go_sem,d0,d1,d2,d3]
end Go.Proofs.YtonhnflilfjkbaaGreatDoor
