/-
  Texts in one: WordsNew, CodeInst, Math2, MathR, MathC, MathB, MathRL, FrameMeasure, MathRW, MathWR.
-/
import Derived.Test.YtonhnflilfjkbaaGreatDoorB10
import Derived.Deep.RegionHeld2
namespace Go.Proofs.YtonhnflilfjkbaaGreatDoor
open Go.RowKit
set_option maxRecDepth 10000
set_option maxHeartbeats 400000 in
theorem new_some (x:Addr) (n cap:Nat) (zs:List Int) (w:World) (hv:View .u32 w (some x) zs) (hl:zs.length=n) (hn:4 * n≤140737488351232) :
  Calls Tryz.prog 106 #[.slice (some x) n cap] w fun e w'=>∃ g cx gr,e=.returned (.pointer (some ⟨gr,0,none⟩))∧w.heap.size≤g∧g<gr∧n≤cx ∧
   w'.heap[gr]?=some (.cells #[.slice (some ⟨g,0,none⟩) n cx,.int .i64 0] 200 (0,0))∧View .u32 w' (some ⟨g,0,none⟩) zs∧Below w.heap.size w w':=by
 have HL:Hid (zs.length=n):=hl
 go_enter Tryz.func106,Tryz.ntmps106
 go_wp2_with fail
 refine (clone_some x n cap zs w hv hl hn).mono ?_
 rintro e w1 ⟨g,cx,rfl,hown,hb⟩
 clear hv hl
 have hg:w.heap.size≤g∧g<w1.heap.size∧n≤cx:=by
  rcases hown.2 with ⟨h1,_⟩ | ⟨g',cx',cur,h1,h2,h3,h4,_⟩
  ·cases h1
  ·cases h1;exact⟨h2,(Array.getElem?_eq_some_iff.1 h3).1,h4⟩
 obtain⟨hg1,hg2,hg3⟩:=hg
 have hvw:=View.ofRow hown HL.out
 clear hown
 go_wp2
 go_ret
 refine⟨g,cx,w1.heap.size,rfl,hg1,hg2,hg3,?_,?_,?_⟩
 ·exact heap_alloc_new w1 _
 ·exact hvw.below ((Below.refl _ w1).alloc (Nat.le_refl _) _)
 ·exact hb.alloc hb.size _
set_option linter.unusedVariables false
set_option linter.unusedSimpArgs false
set_option maxRecDepth 100000
def InstR (w:World) (I:InstT×Int) (e:Ending) (w':World):Prop:=Below w.heap.size w w'∧∃ a m c,e=.returned (.tuple #[instV I.1 a m c,.int .i64 I.2])∧I.1.2.2.2.length=m∧w'.ownsRow w.heap.size 61 3 (.slice a m c) m (I.1.2.2.2.flatMap argC)
def tenW (w:World) (G:Nat) (v0 v1 v2 v3 v4 v5 v6 v7 v8 v9:Value):World:=(((((((((w.setCell ⟨G,0,none⟩ v0).setCell ⟨G,1,none⟩ v1).setCell ⟨G,2,none⟩ v2).setCell ⟨G,3,none⟩ v3).setCell ⟨G,4,none⟩ v4).setCell ⟨G,5,none⟩ v5).setCell ⟨G,6,none⟩ v6).setCell ⟨G,7,none⟩ v7).setCell ⟨G,8,none⟩ v8).setCell ⟨G,9,none⟩ v9
theorem ten_put {w:World} {G T:Nat} {z0 z1 z2 z3 z4 z5 z6 z7 z8 z9:Value} (h:w.heap[G]?=some (.cells #[z0,z1,z2,z3,z4,z5,z6,z7,z8,z9] T (0,0))) (v0 v1 v2 v3 v4 v5 v6 v7 v8 v9:Value):(tenW w G v0 v1 v2 v3 v4 v5 v6 v7 v8 v9).heap[G]?=some (.cells #[v0,v1,v2,v3,v4,v5,v6,v7,v8,v9] T (0,0)):=by
 unfold tenW
 simp only [World.setCell,Array.getElem?_modify,h];simp
theorem ten_grown (w:World) (G:Nat) (v0 v1 v2 v3 v4 v5 v6 v7 v8 v9:Value):w.grownBy (tenW w G v0 v1 v2 v3 v4 v5 v6 v7 v8 v9) (some G):=by
 unfold tenW
 exact ((((((((((grown_setCell w G 0 _).trans (grown_setCell _ G 1 _)).trans (grown_setCell _ G 2 _)).trans (grown_setCell _ G 3 _)).trans (grown_setCell _ G 4 _)).trans (grown_setCell _ G 5 _)).trans (grown_setCell _ G 6 _)).trans (grown_setCell _ G 7 _)).trans (grown_setCell _ G 8 _)).trans (grown_setCell _ G 9 _))
theorem rdr_grown {w w':World} {gr ga n cw p g:Nat} {zs:List Int} (hbox:w.heap[gr]?=some (.cells #[.slice (some ⟨ga,0,none⟩) n cw,.int .i64 (p:Int)] 200 (0,0))) (hv:View .u32 w (some ⟨ga,0,none⟩) zs) (hgr:ga<gr) (hl:zs.length=n) (hp:p≤n) (hr:n≤cw) (hs:4 * n≤140737488351232) (hw:Within 4294967296 zs) (hg:w.grownBy w' (some g)) (h1:gr≠g) (h2:ga≠g):Rdr w' w' gr ga n cw p zs:=by
 refine⟨⟨World.grownBy.refl _ _,grown_block hg hbox h1⟩,?_,by omega,hl,hp,hr,hs,hw⟩
 intro j hj
 obtain⟨b',off,e,hlt,hc⟩:=hv j hj
 cases e
 refine⟨ga,0,rfl,Nat.lt_of_lt_of_le hlt hg.size,?_⟩
 have:=hg.block ga hlt (fun e=>h2 (by cases e;rfl))
 simp only [World.cell?,this] at hc ⊢
 exact hc
theorem zero_box {W w3:World} {G T:Nat} {v0 v1 v2 v3 v4 v5 v6 v7 v8 v9:Value} (hb:Below W.heap.size W w3) (hG:G<W.heap.size) (h:W.heap[G]?=some (.cells #[v0,v1,v2,v3,v4,v5,v6,v7,v8,v9] T (0,0))) :
  w3.cell? ⟨G,0,none⟩=some v0∧w3.cell? ⟨G,1,none⟩=some v1∧w3.cell? ⟨G,2,none⟩=some v2∧w3.cell? ⟨G,3,none⟩=some v3∧w3.cell? ⟨G,4,none⟩=some v4∧w3.cell? ⟨G,5,none⟩=some v5∧w3.cell? ⟨G,6,none⟩=some v6∧w3.cell? ⟨G,7,none⟩=some v7∧w3.cell? ⟨G,8,none⟩=some v8∧w3.cell? ⟨G,9,none⟩=some v9∧∀ i,w3.frozen? ⟨G,i,none⟩=false:=by
 obtain⟨hc,hf⟩:=one_block ((hb.block G hG).trans h)
 exact⟨hc 0,hc 1,hc 2,hc 3,hc 4,hc 5,hc 6,hc 7,hc 8,hc 9,hf⟩
theorem growB {W w w':World} (h:Below W.heap.size W w) (hb:Below w.heap.size w w'):Below W.heap.size W w':=h.trans (hb.mono h.size)
theorem grown_below {w w0 w':World} {g:Nat} (hb:Below w.heap.size w w0) (h:w0.grownBy w' (some g)) (hg:w.heap.size≤g):Below w.heap.size w w':=hb.grown h hb.size (fun k e=>by cases e;exact hg)
set_option maxHeartbeats 2000000 in
theorem inst_any (op b:Int) (x:Addr) (n cap:Nat) (zs:List Int) (w:World) (hv:View .u32 w (some x) zs) (hl:zs.length=n) (hw:Within 4294967296 zs) (hn:4 * n≤140737488351232) :
  Calls Tryz.prog 64 #[.agg #[.int .u16 op,.slice (some x) n cap],.int .u32 b] w fun e w'=>InstR w (instI op zs b) e w':=by
 have hOf:=fun w=>of_any op w
 have hB0:Below w.heap.size w ((w.alloc (.cells #[.int .u16 op,.slice (some x) n cap] 54)).alloc (.cells #[.int .u16 0,.int .u32 0,.int .u32 0,.slice none 0 0] 38)):=((Below.refl _ w).alloc (Nat.le_refl _) _).alloc (by simp) _
 have kR:((w.alloc (.cells #[.int .u16 op,.slice (some x) n cap] 54)).alloc (.cells #[.int .u16 0,.int .u32 0,.int .u32 0,.slice none 0 0] 38)).heap[w.heap.size]?=some (.cells #[.int .u16 op,.slice (some x) n cap] 54 (0,0)):=(Below.heap_alloc _ _ _ (by simp)).trans (alloc_new w _ _)
 have kX:((w.alloc (.cells #[.int .u16 op,.slice (some x) n cap] 54)).alloc (.cells #[.int .u16 0,.int .u32 0,.int .u32 0,.slice none 0 0] 38)).heap[w.heap.size+1]?=some (.cells #[.int .u16 0,.int .u32 0,.int .u32 0,.slice none 0 0] 38 (0,0)):=alloc_newAt _ _ (by simp)
 have HB0:Hid (Below w.heap.size w ((w.alloc (.cells #[.int .u16 op,.slice (some x) n cap] 54)).alloc (.cells #[.int .u16 0,.int .u32 0,.int .u32 0,.slice none 0 0] 38))):=hB0
 have HR:Hid (((w.alloc (.cells #[.int .u16 op,.slice (some x) n cap] 54)).alloc (.cells #[.int .u16 0,.int .u32 0,.int .u32 0,.slice none 0 0] 38)).heap[w.heap.size]?=some (.cells #[.int .u16 op,.slice (some x) n cap] 54 (0,0))):=kR
 have HX:Hid (((w.alloc (.cells #[.int .u16 op,.slice (some x) n cap] 54)).alloc (.cells #[.int .u16 0,.int .u32 0,.int .u32 0,.slice none 0 0] 38)).heap[w.heap.size+1]?=some (.cells #[.int .u16 0,.int .u32 0,.int .u32 0,.slice none 0 0] 38 (0,0))):=kX
 clear kR kX hB0
 obtain⟨I,hI⟩:∃ I,I=instI op zs b:=⟨_,rfl⟩
 rw [← hI]
 by_cases hbig:65535≤n
 ·have hI2:I=(noInst,25):=by rw [hI,instI,if_pos (by omega)]
  subst hI2
  have hbig':(65535:Int)≤(n:Int):=by omega
  clear hI hOf hbig
  go_enter Tryz.func64,Tryz.ntmps64
  go_wp2
  refine bodyPost_ret (v:=.tuple #[.agg #[.int .u16 0,.int .u32 0,.int .u32 0,.slice none 0 0],.int .i64 25]) ?_ rfl ⟨HB0.out,none,0,0,rfl,rfl,World.ownsRow_nil _ _ _ _⟩
  simp [results,Tryz.results64,go_sem]
 ·have hbig':¬ (65535:Int)≤(n:Int):=by omega
  have HBG:Hid (¬ 65535≤zs.length):=by rw [hl];exact hbig
  have HN:Hid (n≤65535):=by show n≤65535;omega
  clear hbig
  obtain⟨f,hf⟩:∃ f,f=(lookF refT op).1:=⟨_,rfl⟩
  by_cases h0:(lookF refT op).2=true
  ·have hff:lookF refT op=(f,true):=by rw [hf,← h0]
   have hI2:I=instF f op zs b:=by rw [hI,instI,if_neg HBG.out,if_neg (by simp [h0]),← hf]
   have eV:ofV op=formV op f:=by unfold ofV;rw [if_pos h0,← hf]
   rw [hff,eV] at hOf
   have hRI:=fun (R gr ga cw:Nat) wx (hx:RdS wx R op f b gr ga n cw 0 zs)=>rinst_any wx R op f b gr ga n cw zs hx hff HN.out
   rw [← hI2] at hRI
   clear hI hI2 eV hff h0 hf
   obtain⟨f1,f2,f3,f4,f5,f6,f7⟩:=f
   unfold formV at hOf
   simp only at *
   go_enter Tryz.func64,Tryz.ntmps64
   go_wp2_with fail
   have kR:=HR.out
   have kX:=HX.out
   have hB0:=HB0.out
   clear HR HX HB0
   generalize (w.alloc (.cells #[.int .u16 op,.slice (some x) n cap] 54)).alloc (.cells #[.int .u16 0,.int .u32 0,.int .u32 0,.slice none 0 0] 38)=W0 at *
   have l0:=(Array.getElem?_eq_some_iff.1 kX).1
   refine (hOf _).mono ?_
   rintro e w1 ⟨rfl,hb1⟩
   have s1:=hb1.size
   have kR1:=(hb1.block _ (by omega)).trans kR
   have kX1:=(hb1.block _ l0).trans kX
   have hb01:=hB0.trans (hb1.mono (by omega))
   clear hb1 kR kX hB0 hOf
   have hb2:Below w1.heap.size w1 (w1.alloc (.cells #[.int .u16 op,.string f1,.bool f2,.bool f3,.string f4,.string f5,.int .i64 f6,.int .u8 f7] 66)):=(Below.refl _ _).alloc (Nat.le_refl _) _
   have kF:=alloc_new w1 #[.int .u16 op,.string f1,.bool f2,.bool f3,.string f4,.string f5,.int .i64 f6,.int .u8 f7] 66
   have kR2:=(hb2.block _ (by omega)).trans kR1
   have kX2:=(hb2.block _ (by omega)).trans kX1
   have hb02:=hb01.trans (hb2.mono (by omega))
   have s2:=hb02.size
   have lF:w1.heap.size<(w1.alloc (.cells #[.int .u16 op,.string f1,.bool f2,.bool f3,.string f4,.string f5,.int .i64 f6,.int .u8 f7] 66)).heap.size:=by simp
   clear kR1 kX1 hb01 hb2
   go_wp2
   generalize w1.alloc (.cells #[.int .u16 op,.string f1,.bool f2,.bool f3,.string f4,.string f5,.int .i64 f6,.int .u8 f7] 66)=W2 at *
   have hNew:=fun wx (h:Below w.heap.size w wx)=>new_some x n cap zs wx (hv.below h) hl hn
   have hK:∀ wx,Below W2.heap.size W2 wx→(wx.cell? ⟨w.heap.size,1,none⟩=some (.slice (some x) n cap))∧(wx.cell? ⟨w1.heap.size,0,none⟩=some (.int .u16 op)∧wx.cell? ⟨w1.heap.size,1,none⟩=some (.string f1)∧wx.cell? ⟨w1.heap.size,2,none⟩=some (.bool f2)∧wx.cell? ⟨w1.heap.size,3,none⟩=some (.bool f3)∧wx.cell? ⟨w1.heap.size,4,none⟩=some (.string f4)∧wx.cell? ⟨w1.heap.size,5,none⟩=some (.string f5)∧wx.cell? ⟨w1.heap.size,6,none⟩=some (.int .i64 f6)∧wx.cell? ⟨w1.heap.size,7,none⟩=some (.int .u8 f7)):=fun wx h=>by
    obtain⟨hc,_⟩:=one_block ((h.block _ lF).trans kF)
    obtain⟨hd,_⟩:=one_block ((h.block _ (by omega)).trans kR2)
    exact⟨hd 1,hc 0,hc 1,hc 2,hc 3,hc 4,hc 5,hc 6,hc 7⟩
   have hd:=below_drew W2
   have HRI:Hid _:=hRI
   have HKR2:Hid _:=kR2
   have HKX2:Hid _:=kX2
   have HKF:Hid _:=kF
   clear hRI kR2 kX2 kF
   go_region_held2 (fun wx=>Below W2.heap.size W2 wx∧(wx.cell? ⟨w.heap.size,1,none⟩=some (.slice (some x) n cap))∧(wx.cell? ⟨w1.heap.size,0,none⟩=some (.int .u16 op)∧wx.cell? ⟨w1.heap.size,1,none⟩=some (.string f1)∧wx.cell? ⟨w1.heap.size,2,none⟩=some (.bool f2)∧wx.cell? ⟨w1.heap.size,3,none⟩=some (.bool f3)∧wx.cell? ⟨w1.heap.size,4,none⟩=some (.string f4)∧wx.cell? ⟨w1.heap.size,5,none⟩=some (.string f5)∧wx.cell? ⟨w1.heap.size,6,none⟩=some (.int .i64 f6)∧wx.cell? ⟨w1.heap.size,7,none⟩=some (.int .u8 f7)))
    (refine⟨?_,hK _ ?_⟩ <;> (repeat (first | refine Below.setCell ?_ (by first | exact Nat.le_refl _ | exact hbs) _ | refine Below.alloc ?_ (by first | exact Nat.le_refl _ | exact hbs) _ | refine Below.drew ?_ | exact hby | exact Below.refl _ _)))
    (first | (go_at_call 106;refine (hNew _ (hb02.trans (Below.mono (B:=W2.heap.size) (by first | assumption | exact ((Below.refl _ W2).alloc (Nat.le_refl _) _).drew) s2))).mono ?_;rintro e w3 ⟨g,cx,gr,rfl,hg1,hg2,hg3,hbox3,hv3,hb3⟩;have hby:=growB (by first | assumption | exact ((Below.refl _ W2).alloc (Nat.le_refl _) _).drew) hb3;have hbs:=hby.size;have hbs3:=hb3.size;have HBX3:Hid _:=hbox3;have HV3:Hid _:=hv3;clear hbox3 hv3;(first | (have HZ:Hid (w3.heap[W2.heap.size]?=some (.cells #[.int .u16 0,.string ⟨#[]⟩,.bool false,.bool false,.string ⟨#[]⟩,.string ⟨#[]⟩,.int .i64 0,.int .u8 0,.int .u32 0,.pointer none] 166 (0,0))):=(hb3.block _ (by simp)).trans (alloc_new W2 _ _);have kZ:=zero_box hb3 (by simp) (alloc_new W2 #[.int .u16 0,.string ⟨#[]⟩,.bool false,.bool false,.string ⟨#[]⟩,.string ⟨#[]⟩,.int .i64 0,.int .u8 0,.int .u32 0,.pointer none] 166);obtain⟨z0,z1,z2,z3,z4,z5,z6,z7,z8,z9,zf⟩:=kZ) | skip)))
   ·have kA:=alloc_new w3 (rdrC op (f1,f2,f3,f4,f5,f6,f7) b gr) 166
    have hbA:Below w3.heap.size w3 (w3.alloc (.cells (rdrC op (f1,f2,f3,f4,f5,f6,f7) b gr) 166)):=(Below.refl _ _).alloc (Nat.le_refl _) _
    have hgl:=(Array.getElem?_eq_some_iff.1 HBX3.out).1
    have hSA:RdS (w3.alloc (.cells (rdrC op (f1,f2,f3,f4,f5,f6,f7) b gr) 166)) w3.heap.size op (f1,f2,f3,f4,f5,f6,f7) b gr g n cx 0 zs :=
     ⟨kA,by omega,rdr_grown (g:=w3.heap.size) HBX3.out HV3.out hg2 hl (Nat.zero_le _) hg3 hn hw ⟨hbA.os,hbA.tape,hbA.output,hbA.size,fun k hk _=>hbA.block k hk⟩ (by omega) (by have:=(hg2);omega)⟩
    have hbW:=hb02.trans ((hby.trans (hbA.mono hbs)).mono s2)
    have kXA:=((hby.trans (hbA.mono hbs)).block _ (by omega)).trans HKX2.out
    have hC:=HRI.out w3.heap.size gr g cx _ hSA
    have hgg:w.heap.size≤gr∧w.heap.size+1≠gr:=by have:W2.heap.size≤g:=hg1;omega
    obtain⟨hgg,hgn⟩:=hgg
    clear hSA kA hbA HBX3 HV3 HKX2 HKR2 HKF HRI hby hK
    unfold rdrC at *
    simp only at *
    go_wp2_with fail
    generalize w3.alloc _=WA at hC hbW kXA ⊢
    have hlA:w.heap.size+1<WA.heap.size:=(Array.getElem?_eq_some_iff.1 kXA).1
    refine hC.mono ?_
    rintro e w5 ⟨hg5,a5,m5,c5,rfl,hm5,hown5⟩
    have kX5:=grown_block hg5 kXA (by omega)
    have hb5:=grown_below hbW hg5 hgg
    obtain⟨x0,x1,x2,x3,xf⟩:=cells4 kX5
    obtain⟨⟨io,it,ir,il⟩,ie⟩:=I
    unfold instV
    simp only at *
    clear hC kXA hbW hg5
    go_wp2
    have hB4:=four_put kX5 (.int .u16 io) (.int .u32 it) (.int .u32 ir) (.slice a5 m5 c5)
    have hBel:=hb5.trans ((four_keep w5 (w.heap.size+1) (.int .u16 io) (.int .u32 it) (.int .u32 ir) (.slice a5 m5 c5)).mono (by omega))
    have hown8:=own_lo' (ownFar2 (ownFar2 (ownFar2 (ownFar2 hown5 hlA 0 (.int .u16 io)) hlA 1 (.int .u32 it)) hlA 2 (.int .u32 ir)) hlA 3 (.slice a5 m5 c5)) (show w.heap.size≤WA.heap.size by omega)
    clear x0 x1 x2 x3 xf kX5 hb5 hown5
    generalize (((w5.setCell ⟨w.heap.size+1,0,none⟩ (.int .u16 io)).setCell ⟨w.heap.size+1,1,none⟩ (.int .u32 it)).setCell ⟨w.heap.size+1,2,none⟩ (.int .u32 ir)).setCell ⟨w.heap.size+1,3,none⟩ (.slice a5 m5 c5)=WF at hB4 hBel hown8 ⊢
    obtain⟨d0,d1,d2,d3,_⟩:=cells4 hB4
    refine bodyPost_ret (v:=.tuple #[.agg #[.int .u16 io,.int .u32 it,.int .u32 ir,.slice a5 m5 c5],.int .i64 ie]) ?_ rfl ⟨hBel,a5,m5,c5,rfl,hm5,hown8⟩
    simp [results,Tryz.results64,go_sem,d0,d1,d2,d3]
   ·have kA:=ten_put HZ.out (.int .u16 op) (.string f1) (.bool f2) (.bool f3) (.string f4) (.string f5) (.int .i64 f6) (.int .u8 f7) (.int .u32 b) (.pointer (some ⟨gr,0,none⟩))
    have hgA:=ten_grown w3 W2.heap.size (.int .u16 op) (.string f1) (.bool f2) (.bool f3) (.string f4) (.string f5) (.int .i64 f6) (.int .u8 f7) (.int .u32 b) (.pointer (some ⟨gr,0,none⟩))
    have hgl:=(Array.getElem?_eq_some_iff.1 HBX3.out).1
    have hg1':W2.heap.size+1≤g:=by simpa using hg1
    have hSA:RdS (tenW w3 W2.heap.size (.int .u16 op) (.string f1) (.bool f2) (.bool f3) (.string f4) (.string f5) (.int .i64 f6) (.int .u8 f7) (.int .u32 b) (.pointer (some ⟨gr,0,none⟩))) W2.heap.size op (f1,f2,f3,f4,f5,f6,f7) b gr g n cx 0 zs :=
     ⟨kA,by omega,rdr_grown HBX3.out HV3.out hg2 hl (Nat.zero_le _) hg3 hn hw hgA (by omega) (by omega)⟩
    have hbA:Below W2.heap.size W2 (tenW w3 W2.heap.size (.int .u16 op) (.string f1) (.bool f2) (.bool f3) (.string f4) (.string f5) (.int .i64 f6) (.int .u8 f7) (.int .u32 b) (.pointer (some ⟨gr,0,none⟩))):=hby.grown hgA hbs (fun k e=>by cases e;exact Nat.le_refl _)
    have hbW:=hb02.trans (hbA.mono s2)
    have kXA:=(hbA.block _ (by omega)).trans HKX2.out
    have hC:=HRI.out W2.heap.size gr g cx _ hSA
    obtain⟨hgg,hgn⟩:w.heap.size≤gr∧w.heap.size+1≠gr:=by omega
    clear hSA kA hbA HBX3 HV3 HKX2 HKR2 HKF HRI hby hK hgA HZ z0 z1 z2 z3 z4 z5 z6 z7 z8 z9 zf
    unfold tenW at *
    go_wp2_with fail
    generalize (((((((((w3.setCell _ _).setCell _ _).setCell _ _).setCell _ _).setCell _ _).setCell _ _).setCell _ _).setCell _ _).setCell _ _).setCell _ _=WA at hC hbW kXA ⊢
    have hlA:w.heap.size+1<WA.heap.size:=(Array.getElem?_eq_some_iff.1 kXA).1
    refine hC.mono ?_
    rintro e w5 ⟨hg5,a5,m5,c5,rfl,hm5,hown5⟩
    have kX5:=grown_block hg5 kXA (by omega)
    have hb5:=grown_below hbW hg5 hgg
    obtain⟨x0,x1,x2,x3,xf⟩:=cells4 kX5
    obtain⟨⟨io,it,ir,il⟩,ie⟩:=I
    unfold instV
    simp only at *
    clear hC kXA hbW hg5
    go_wp2
    have hB4:=four_put kX5 (.int .u16 io) (.int .u32 it) (.int .u32 ir) (.slice a5 m5 c5)
    have hBel:=hb5.trans ((four_keep w5 (w.heap.size+1) (.int .u16 io) (.int .u32 it) (.int .u32 ir) (.slice a5 m5 c5)).mono (by omega))
    have hown8:=own_lo' (ownFar2 (ownFar2 (ownFar2 (ownFar2 hown5 hlA 0 (.int .u16 io)) hlA 1 (.int .u32 it)) hlA 2 (.int .u32 ir)) hlA 3 (.slice a5 m5 c5)) (show w.heap.size≤WA.heap.size by omega)
    clear x0 x1 x2 x3 xf kX5 hb5 hown5
    generalize (((w5.setCell ⟨w.heap.size+1,0,none⟩ (.int .u16 io)).setCell ⟨w.heap.size+1,1,none⟩ (.int .u32 it)).setCell ⟨w.heap.size+1,2,none⟩ (.int .u32 ir)).setCell ⟨w.heap.size+1,3,none⟩ (.slice a5 m5 c5)=WF at hB4 hBel hown8 ⊢
    obtain⟨d0,d1,d2,d3,_⟩:=cells4 hB4
    refine bodyPost_ret (v:=.tuple #[.agg #[.int .u16 io,.int .u32 it,.int .u32 ir,.slice a5 m5 c5],.int .i64 ie]) ?_ rfl ⟨hBel,a5,m5,c5,rfl,hm5,hown8⟩
    simp [results,Tryz.results64,go_sem,d0,d1,d2,d3]
  ·have h0':(lookF refT op).2=false:=by simpa using h0
   have hI2:I=(noInst,30):=by rw [hI,instI,if_neg HBG.out,if_pos h0']
   subst hI2
   have eV:ofV op=formV 0 noFrm:=by unfold ofV;rw [if_neg h0]
   rw [h0',eV] at hOf
   unfold formV noFrm at hOf
   clear hI h0 h0' eV hf
   simp only at *
   go_enter Tryz.func64,Tryz.ntmps64
   go_wp2_with fail
   have kR:=HR.out
   have kX:=HX.out
   have hB0:=HB0.out
   clear HR HX HB0
   generalize (w.alloc (.cells #[.int .u16 op,.slice (some x) n cap] 54)).alloc (.cells #[.int .u16 0,.int .u32 0,.int .u32 0,.slice none 0 0] 38)=W0 at *
   have l0:=(Array.getElem?_eq_some_iff.1 kX).1
   refine (hOf _).mono ?_
   rintro e w1 ⟨rfl,hb1⟩
   have s1:=hb1.size
   have kX1:=(hb1.block _ l0).trans kX
   have hb01:=hB0.trans (hb1.mono (by omega))
   have hb2:Below w1.heap.size w1 (w1.alloc (.cells #[.int .u16 0,.string ⟨#[]⟩,.bool false,.bool false,.string ⟨#[]⟩,.string ⟨#[]⟩,.int .i64 0,.int .u8 0] 66)):=(Below.refl _ _).alloc (Nat.le_refl _) _
   have kX2:=(hb2.block _ (by omega)).trans kX1
   have hb02:=hb01.trans (hb2.mono (by omega))
   obtain⟨x0,x1,x2,x3,xf⟩:=cells4 kX2
   clear hb1 kR kX hB0 hOf kX1 hb01 hb2
   go_wp2
   have hB4:=four_put kX2 (.int .u16 0) (.int .u32 0) (.int .u32 0) (.slice none 0 0)
   have hBel:=hb02.trans ((four_keep _ (w.heap.size+1) (.int .u16 0) (.int .u32 0) (.int .u32 0) (.slice none 0 0)).mono (by omega))
   clear x0 x1 x2 x3 xf kX2 hb02
   generalize ((((w1.alloc _).setCell _ _).setCell _ _).setCell _ _).setCell _ _=WF at hB4 hBel ⊢
   obtain⟨d0,d1,d2,d3,_⟩:=cells4 hB4
   refine bodyPost_ret (v:=.tuple #[.agg #[.int .u16 0,.int .u32 0,.int .u32 0,.slice none 0 0],.int .i64 30]) ?_ rfl ⟨hBel,none,0,0,rfl,rfl,World.ownsRow_nil _ _ _ _⟩
   simp [results,Tryz.results64,go_sem,d0,d1,d2,d3]
theorem nth_ext {xs ys:List Int} (hl:xs.length=ys.length) (h:∀ k,k<xs.length→nth xs k=nth ys k):xs=ys:=by
 apply List.ext_getElem hl
 intro k h1 h2
 have:=h k h1
 simpa [nth,List.getD,h1,h2] using this
theorem byt_four (a b c d:Int) (a0:0≤a) (a1:a<256) (b0:0≤b) (b1:b<256) (c0:0≤c) (c1:c<256) (d0:0≤d) (d1:d<256) :
  byt (a+b * 256+c * 65536+d * 16777216) 0=a∧byt (a+b * 256+c * 65536+d * 16777216) 1=b∧byt (a+b * 256+c * 65536+d * 16777216) 2=c∧byt (a+b * 256+c * 65536+d * 16777216) 3=d:=by
 rw [byt0,byt1,byt2,byt3]
 refine⟨?_,?_,?_,?_⟩ <;> omega
theorem join_split (zs:List Int) (h:zs.length % 4=0) (hw:Within 256 zs):joinL (splitL zs)=zs:=by
 apply nth_ext
 ·rw [joinL_len,splitL_len];omega
 intro k hk
 rw [joinL_len,splitL_len] at hk
 rw [joinL_getD _ _ (by rw [splitL_len];exact hk),nth_splitL _ _ (by omega)]
 have x0:=hw.at (k:=4 * (k / 4)) (by omega)
 have x1:=hw.at (k:=4 * (k / 4)+1) (by omega)
 have x2:=hw.at (k:=4 * (k / 4)+2) (by omega)
 have x3:=hw.at (k:=4 * (k / 4)+3) (by omega)
 have hb:=byt_four _ _ _ _ x0.1 x0.2 x1.1 x1.2 x2.1 x2.2 x3.1 x3.2
 unfold wordAt
 rcases (show k % 4=0∨k % 4=1∨k % 4=2∨k % 4=3 by omega) with e | e | e | e
 ·rw [e,hb.1,show 4 * (k / 4)=k by omega]
 ·rw [e,hb.2.1,show 4 * (k / 4)+1=k by omega]
 ·rw [e,hb.2.2.1,show 4 * (k / 4)+2=k by omega]
 ·rw [e,hb.2.2.2,show 4 * (k / 4)+3=k by omega]
theorem split_join (ys:List Int) (hw:Within 4294967296 ys):splitL (joinL ys)=ys:=by
 have hl:(splitL (joinL ys)).length=ys.length:=by rw [splitL_len,joinL_len];omega
 apply nth_ext hl
 intro k hk
 rw [hl] at hk
 rw [nth_splitL _ _ (by rw [joinL_len];omega)]
 unfold wordAt
 rw [joinL_getD _ _ (by omega),joinL_getD _ _ (by omega),joinL_getD _ _ (by omega),joinL_getD _ _ (by omega)]
 rw [show 4 * k / 4=k by omega,show (4 * k+1) / 4=k by omega,show (4 * k+2) / 4=k by omega,show (4 * k+3) / 4=k by omega,
  show 4 * k % 4=0 by omega,show (4 * k+1) % 4=1 by omega,show (4 * k+2) % 4=2 by omega,show (4 * k+3) % 4=3 by omega]
 have:=hw.at hk
 exact of_byt _ this.1 this.2
theorem joinL_within (zs:List Int):Within 256 (joinL zs):=by
 intro z hz
 simp only [joinL,List.mem_flatMap] at hz
 obtain⟨x,_,hz⟩:=hz
 simp only [four,List.mem_cons,List.not_mem_nil,or_false] at hz
 rcases hz with rfl | rfl | rfl | rfl <;> exact⟨byt_lo _ _,byt_hi _ _⟩
theorem splitL_within (zs:List Int) (hw:Within 256 zs):Within 4294967296 (splitL zs):=by
 intro z hz
 simp only [splitL,List.mem_map,List.mem_range] at hz
 obtain⟨k,hk,rfl⟩:=hz
 exact wordAt_bounds zs k hw (by omega)
theorem joinL_textW (s:ByteArray):joinL (textW s)=padI s:=join_split (padI s) (by rw [padI_len];omega) (padI_within s)
theorem textW_within (s:ByteArray):Within 4294967296 (textW s):=splitL_within (padI s) (padI_within s)
def shapeF (b:Int):Nat→Nat→List InstT→Int×Nat
 | _,_,[]=>(0,0)
 | k,c,x :: l=>if rawE x b≠0 then (rawE x b,k) else if 1048576<c+1+(rawWs x b).length then (4,k) else shapeF b (k+1) (c+1+(rawWs x b).length) l
def shapeE (b:Int) (l:List InstT):Int×Nat:=if b=0∨65536<b then (24,0) else shapeF b 0 5 l
def rawsL (b:Int) (l:List InstT):List (Int×List Int):=l.map fun x=>(x.1,rawWs x b)
def rawsR (b:Int) (l:List InstT):List (Int×List Int):=if (shapeE b l).1=0 then rawsL b l else []
theorem rawsL_len (b:Int) (l:List InstT):(rawsL b l).length=l.length:=by simp [rawsL]
theorem nthR_raws (b:Int) (l:List InstT) (k:Nat) (h:k<l.length):nthR (rawsL b l) k=((nthI l k).1,rawWs (nthI l k) b):=by
 rw [nthI_lt _ _ h];simp [nthR,rawsL,List.getD,h]
theorem rawsL_take (b:Int) (l:List InstT) (k:Nat) (h:k<l.length):rawsL b (l.take (k+1))=rawsL b (l.take k)++[((nthI l k).1,rawWs (nthI l k) b)]:=by
 unfold rawsL
 rw [List.take_add_one,List.getElem?_eq_getElem h,nthI_lt _ _ h,List.map_append];rfl
theorem dropI (l:List InstT) (k:Nat) (h:k<l.length):l.drop k=nthI l k :: l.drop (k+1):=by
 rw [nthI_lt _ _ h];exact List.drop_eq_getElem_cons h
theorem shape_end (b:Int) (l:List InstT) (k c:Nat) (h:l.length≤k):shapeF b k c (l.drop k)=(0,0):=by
 rw [List.drop_eq_nil_of_le h];rfl
theorem shape_step (b:Int) (l:List InstT) (k:Nat) (h:k<l.length):shapeF b k (sizeTo (rawsL b l) k) (l.drop k)=if rawE (nthI l k) b≠0 then (rawE (nthI l k) b,k) else if 1048576<sizeTo (rawsL b l) (k+1) then (4,k) else shapeF b (k+1) (sizeTo (rawsL b l) (k+1)) (l.drop (k+1)):=by
 rw [dropI l k h,shapeF,sizeTo_succ (rawsL b l) k (by rw [rawsL_len];exact h),nthR_raws b l k h]
theorem rawWs_ok {x:InstT} {b:Int} (h:rawE x b=0):(lookF refT x.1).2=true∧faultI (lookF refT x.1).1 x b=0∧rawWs x b=rawL (lookF refT x.1).1 x:=by
 have h1:=h
 unfold rawE at h1
 by_cases h2:(lookF refT x.1).2=true
 ·rw [if_pos h2] at h1
  exact⟨h2,h1,by unfold rawWs;rw [if_pos h]⟩
 ·rw [if_neg h2] at h1;cases h1
theorem faultI_zero {f:Frm} {x:InstT} {b:Int} (h:faultI f x b=0):idE f.2.1 x.2.1 b 40=0∧idE f.2.2.1 x.2.2.1 b 41=0∧wrongL f b 0 x.2.2.2=0∧wholeN f x.2.2.2.length=true∧1+(rawL f x).length≤65535:=by
 unfold faultI at h
 by_cases h1:idE f.2.1 x.2.1 b 40=0
 ·rw [if_neg (by simp [h1])] at h
  by_cases h2:idE f.2.2.1 x.2.2.1 b 41=0
  ·rw [if_neg (by simp [h2])] at h
   by_cases h3:wrongL f b 0 x.2.2.2=0
   ·rw [if_neg (by simp [h3])] at h
    by_cases h4:wholeN f x.2.2.2.length=true
    ·rw [if_neg (by simp [h4])] at h
     by_cases h5:65535<1+(rawL f x).length
     ·rw [if_pos h5] at h;cases h
     ·exact⟨h1,h2,h3,h4,by omega⟩
    ·rw [if_pos (by simpa using h4)] at h;cases h
   ·rw [if_pos h3] at h;exact absurd h h3
  ·rw [if_pos h2] at h;exact absurd h h2
 ·rw [if_pos h1] at h;exact absurd h h1
theorem rawWs_len (x:InstT) (b:Int):(rawWs x b).length<65535:=by
 by_cases h:rawE x b=0
 ·obtain⟨_,h2,h3⟩:=rawWs_ok h
  have:=(faultI_zero h2).2.2.2.2
  rw [h3];omega
 ·rw [rawWs,if_neg h];simp
theorem fault_shapeF (b:Int) (l:List InstT):∀ d k,l.length - k=d→(shapeF b k (sizeTo (rawsL b l) k) (l.drop k)).1=0→fault (rawsL b l) k=(0,0)
 | 0,k,hd,_=>fault_end _ _ (by rw [rawsL_len];omega)
 | d+1,k,hd,h=>by
  have hk:k<l.length:=by omega
  rw [shape_step b l k hk] at h
  rw [fault_step _ _ (by rw [rawsL_len];exact hk),nthR_raws b l k hk]
  have hs:=rawWs_len (nthI l k) b
  rw [if_neg (by simp only;omega)]
  by_cases h1:rawE (nthI l k) b≠0
  ·rw [if_pos h1] at h;exact absurd h h1
  ·rw [if_neg h1] at h
   by_cases h2:1048576<sizeTo (rawsL b l) (k+1)
   ·rw [if_pos h2] at h;cases h
   ·rw [if_neg h2] at h ⊢
    exact fault_shapeF b l d (k+1) (by omega) h
theorem fault_shape {b:Int} {l:List InstT} (h:(shapeE b l).1=0):fault (rawsL b l) 0=(0,0):=by
 unfold shapeE at h
 by_cases h1:b=0∨65536<b
 ·rw [if_pos h1] at h;cases h
 ·rw [if_neg h1] at h
  exact fault_shapeF b l _ 0 rfl h
theorem shape_bound {b:Int} {l:List InstT} (h:(shapeE b l).1=0):¬ b=0∧¬ 65536<b:=by
 unfold shapeE at h
 by_cases h1:b=0∨65536<b
 ·rw [if_pos h1] at h;cases h
 ·exact⟨fun h=>h1 (.inl h),fun h=>h1 (.inr h)⟩
theorem shape_each {b:Int} {l:List InstT} (h:(shapeE b l).1=0) (k:Nat) (hk:k<l.length):rawE (nthI l k) b=0:=by
 have key:∀ (l:List InstT) (i c k:Nat),(shapeF b i c l).1=0→k<l.length→rawE (nthI l k) b=0:=by
  intro l
  induction l with
  | nil=>intro i c k _ hk;simp at hk
  | cons x l ih =>
   intro i c k h hk
   rw [shapeF] at h
   by_cases h1:rawE x b≠0
   ·rw [if_pos h1] at h;exact absurd h h1
   ·rw [if_neg h1] at h
    cases k with
    | zero=>exact Classical.not_not.1 h1
    | succ k =>
     split at h
     ·cases h
     ·exact ih _ _ k h (by simpa using hk)
 unfold shapeE at h
 by_cases h1:b=0∨65536<b
 ·rw [if_pos h1] at h;cases h
 ·rw [if_neg h1] at h
  exact key l 0 5 k h hk
theorem sizeTo_ge (rs:List (Int×List Int)):∀ k,k≤rs.length→5+k≤sizeTo rs k
 | 0,_=>by rw [sizeTo_zero];omega
 | k+1,h=>by rw [sizeTo_succ rs k (by omega)];have:=sizeTo_ge rs k (by omega);omega
theorem shape_few {b:Int} {l:List InstT} (h:(shapeE b l).1=0):l.length≤1048576∧sizeTo (rawsL b l) l.length≤1048576:=by
 have h1:=fault_none (rawsL b l) (by rw [fault_shape h]) l.length (by rw [rawsL_len];exact Nat.le_refl _)
 have:=sizeTo_ge (rawsL b l) l.length (by rw [rawsL_len];exact Nat.le_refl _)
 omega
/-! ### a text's words -/

theorem strI_strOf {js:List Int} (h:Within 256 js):strI (strOfNums js)=js:=by
 have hsz:(strOfNums js).size=js.length:=strOfNums_size js
 refine nth_ext (by rw [strI_len,hsz]) fun k hk=>?_
 rw [strI_len,hsz] at hk
 rw [nth_strI _ _ (by rw [hsz];exact hk)]
 have hb:=h.at hk
 have e:(strOfNums js).data.toList=js.map fun z=>z.toNat.toUInt8:=by simp [strOfNums]
 have hg:(strOfNums js)[k]'(by rw [hsz];exact hk)=(js[k]).toNat.toUInt8:=by
  have:(strOfNums js)[k]'(by rw [hsz];exact hk)=(strOfNums js).data.toList[k]'(by rw [size_list,hsz];exact hk):=rfl
  rw [this]
  simp only [e,List.getElem_map]
 rw [hg,nth_lt _ _ hk]
 rw [nth_lt _ _ hk] at hb
 have:(js[k]).toNat.toUInt8.toNat=(js[k]).toNat % 256:=by simp
 rw [this];omega
theorem textW_textI {zs:List Int} (hw:Within 4294967296 zs) (h:(textI zs).2.2=0):textW (textI zs).1=zs.take (textI zs).2.1.toNat∧NoNul (textI zs).1:=by
 obtain⟨h1,h2,h3⟩:=textI_some h
 have hl:=joinL_len zs
 rw [h3]
 simp only
 generalize hN:zeroAt (joinL zs)=N at *
 have hws:Within 256 ((joinL zs).take N):=within_take (joinL_within zs)
 have hsI:=strI_strOf hws
 have hsz:(strOfNums ((joinL zs).take N)).size=N:=by rw [strOfNums_size,List.length_take];omega
 have hnt:((((N / 4:Nat):Int)+1)).toNat=N / 4+1:=by omega
 rw [hnt]
 constructor
 ·-- both have the same bytes
  have hb:joinL (textW (strOfNums ((joinL zs).take N)))=joinL (zs.take (N / 4+1)):=by
   rw [joinL_textW,joinL_take]
   refine nth_ext (by rw [padI_len,hsz,List.length_take];omega) fun k hk=>?_
   rw [padI_len,hsz] at hk
   rw [nth_take _ _ _ hk]
   by_cases hkN:k<N
   ·rw [padI_lo _ _ (by rw [hsz];exact hkN),hsI,nth_take _ _ _ hkN]
   ·rw [padI_hi _ _ (by rw [hsz];omega)]
    by_cases hke:k=N
    ·subst hke;rw [← hN];exact (zeroAt_at _ (by rw [hN];exact h1)).symm
    ·apply Classical.byContradiction
     intro hne
     have:padBad (joinL zs)=true:=(padBad_iff (L:=N / 4) (P:=N % 4) (by rw [hN];omega) (by omega) (by omega)).2 ⟨k - 4 * (N / 4),by omega,by omega,by rw [show 4 * (N / 4)+(k - 4 * (N / 4))=k by omega];exact fun e=>hne e.symm⟩
     rw [h2] at this;cases this
  have e1:=split_join (textW (strOfNums ((joinL zs).take N))) (textW_within _)
  have e2:=split_join (zs.take (N / 4+1)) (within_of_take hw)
  rw [← e1,hb,e2]
 ·intro k hk
  rw [hsz] at hk
  rw [hsI,nth_take _ _ _ hk]
  exact zeroAt_before _ k (by rw [hN];exact hk) (by omega)
/-! ### one argument -/

theorem nth_take1 (zs:List Int) (h:zs.length≠0):zs.take 1=[nth zs 0]:=by
 cases zs with
 | nil=>simp at h
 | cons z zs=>rfl
theorem argI_back {c b:Int} {zs:List Int} (hw:Within 4294967296 zs) (h:(argI c zs b).2.2=0):wrongA c (argI c zs b).1 b=0∧wordsA (argI c zs b).1=zs.take (argI c zs b).2.1.toNat∧1≤(argI c zs b).2.1.toNat∧(argI c zs b).2.1.toNat≤zs.length:=by
 unfold argI at h ⊢
 by_cases h0:c=0∨zs.length=0
 ·rw [if_pos h0] at h;cases h
 ·rw [if_neg h0] at h ⊢
  have hc:c≠0:=fun e=>h0 (.inl e)
  have hl:zs.length≠0:=fun e=>h0 (.inr e)
  by_cases h3:kindI c=3
  ·rw [if_pos h3] at h ⊢
   simp only at h ⊢
   obtain⟨e1,e2⟩:=textW_textI hw h
   obtain⟨r1,r2,r3,r4,r5⟩:=textI_range zs
   have r3':=r3 h
   refine⟨?_,?_,by omega,by omega⟩
   ·unfold wrongA mayStandB
    simp [hc,h3,nulS_false.2 e2]
   ·unfold wordsA
    rw [if_pos rfl];exact e1
  ·rw [if_neg h3] at h ⊢
   by_cases h1:kindI c=1∧noneB (nth zs 0) b=true
   ·rw [if_pos h1] at h;cases h
   ·rw [if_neg h1] at h ⊢
    by_cases h4:kindI c=4∧enumB c (nth zs 0)=false
    ·rw [if_pos h4] at h;cases h
    ·rw [if_neg h4] at h ⊢
     simp only
     refine⟨?_,?_,by omega,by omega⟩
     ·have hm:mayStandB c (kindI c,nth zs 0,⟨#[]⟩)=true:=by unfold mayStandB;simp [hc,h3,ByteArray.size]
      unfold wrongA
      rw [if_neg (by simp [hm]),if_neg h3]
      unfold faultW
      simp only
      by_cases k1:kindI c=1
      ·rw [if_pos k1,if_neg (fun e=>h1 ⟨k1,e⟩)]
      ·rw [if_neg k1]
       by_cases k4:kindI c=4
       ·rw [if_pos k4]
        have:enumB c (nth zs 0)=true:=by
         cases hn:enumB c (nth zs 0) with
         | true=>rfl
         | false=>exact absurd ⟨k4,hn⟩ h4
        rw [if_pos this]
       ·rw [if_neg k4]
     ·unfold wordsA
      rw [if_neg h3]
      exact (nth_take1 zs hl).symm
/-! ### all arguments -/

theorem wordsL_cons (x:ArgT) (l:List ArgT):wordsL (x :: l)=wordsA x++wordsL l:=rfl
theorem argsI_back (f:Frm) (b:Int):∀ (fuel:Nat) (zs:List Int) (acc:List ArgT),Within 4294967296 zs→(argsI f b fuel zs acc).2=0→∃ l,(argsI f b fuel zs acc).1=acc++l∧wrongL f b acc.length l=0∧wordsL l=zs∧wholeN f ((acc.length+l.length:Nat):Int)=true
 | 0,zs,acc,_,h=>by rw [argsI] at h;cases h
 | fuel+1,zs,acc,hw,h=>by
  rw [argsI] at h ⊢
  by_cases h0:zs.length=0
  ·rw [if_pos h0] at h ⊢
   by_cases h1:wholeN f acc.length=true
   ·rw [if_pos h1]
    exact⟨[],by simp,rfl,by rw [List.eq_nil_of_length_eq_zero h0];rfl,by simpa using h1⟩
   ·rw [if_neg h1] at h;cases h
  ·rw [if_neg h0] at h ⊢
   by_cases h1:(argI (letterI f acc.length) zs b).2.2=0
   ·rw [if_neg (by simp [h1])] at h ⊢
    obtain⟨a1,a2,a3,a4⟩:=argI_back hw h1
    generalize argI (letterI f acc.length) zs b=r at *
    obtain⟨l,e1,e2,e3,e4⟩:=argsI_back f b fuel _ _ (fun z hz=>hw z (List.mem_of_mem_drop hz)) h
    refine⟨r.1 :: l,by rw [e1,List.append_assoc];rfl,?_,?_,?_⟩
    ·rw [wrongL,if_pos a1]
     rw [List.length_append] at e2;exact e2
    ·rw [wordsL_cons,a2,e3,List.take_append_drop]
    ·rw [List.length_append,List.length_singleton] at e4
     rw [List.length_cons,show acc.length+(l.length+1)=acc.length+1+l.length by omega];exact e4
   ·rw [if_pos h1] at h;exact absurd h h1
/-! ### an instruction -/

theorem idE_none {n b e:Int} (h:noneB n b=false):idE true n b e=0:=by
 unfold noneB at h
 simp at h
 unfold idE
 simp [h.1];omega
theorem idE_absent {b e:Int}:idE false 0 b e=0:=by unfold idE;simp
theorem headTy_zero {ty:Bool} {zs:List Int} {b:Int} (h:(headTy ty zs b).2=0):idE ty (headTy ty zs b).1 b 40=0∧(ty=true→0<zs.length∧(headTy ty zs b).1=nth zs 0)∧(ty=false→(headTy ty zs b).1=0):=by
 cases ty with
 | false=>exact⟨idE_absent,(fun h=>by cases h),fun _=>rfl⟩
 | true =>
  by_cases h1:zs.length≤0
  ·have e:headTy true zs b=(0,40):=by unfold headTy;rw [if_pos rfl,if_pos h1]
   rw [e] at h;cases h
  ·have e:headTy true zs b=(nth zs 0,if noneB (nth zs 0) b then 43 else 0):=by unfold headTy;rw [if_pos rfl,if_neg h1]
   rw [e] at h ⊢
   have hn:noneB (nth zs 0) b=false:=by
    cases hn:noneB (nth zs 0) b with
    | false=>rfl
    | true=>rw [hn] at h;cases h
   exact⟨idE_none hn,fun _=>⟨by omega,rfl⟩,(fun h=>by cases h)⟩
theorem headRes_zero {re:Bool} {zs:List Int} {b:Int} {p:Nat} (h:(headRes re zs b p).2=0):idE re (headRes re zs b p).1 b 41=0∧(re=true→p<zs.length∧(headRes re zs b p).1=nth zs p)∧(re=false→(headRes re zs b p).1=0):=by
 cases re with
 | false=>exact⟨idE_absent,(fun h=>by cases h),fun _=>rfl⟩
 | true =>
  by_cases h1:zs.length≤p
  ·have e:headRes true zs b p=(0,41):=by unfold headRes;rw [if_pos rfl,if_pos h1]
   rw [e] at h;cases h
  ·have e:headRes true zs b p=(nth zs p,if noneB (nth zs p) b then 43 else 0):=by unfold headRes;rw [if_pos rfl,if_neg h1]
   rw [e] at h ⊢
   have hn:noneB (nth zs p) b=false:=by
    cases hn:noneB (nth zs p) b with
    | false=>rfl
    | true=>rw [hn] at h;cases h
   exact⟨idE_none hn,fun _=>⟨by omega,rfl⟩,(fun h=>by cases h)⟩
theorem instI_some {op b:Int} {zs:List Int} (h:(instI op zs b).2=0):zs.length<65535∧(lookF refT op).2=true∧instI op zs b=instF (lookF refT op).1 op zs b:=by
 unfold instI at h ⊢
 by_cases h1:65535≤zs.length
 ·rw [if_pos h1] at h;cases h
 ·rw [if_neg h1] at h ⊢
  by_cases h2:(lookF refT op).2=false
  ·rw [if_pos h2] at h;cases h
  ·rw [if_neg h2]
   exact⟨by omega,by simpa using h2,rfl⟩
theorem rawE_instI {op b:Int} {zs:List Int} (hw:Within 4294967296 zs) (h:(instI op zs b).2=0):(instI op zs b).1.1=op∧rawE (instI op zs b).1 b=0∧rawWs (instI op zs b).1 b=zs:=by
 obtain⟨h1,h2,h3⟩:=instI_some h
 rw [h3] at h ⊢
 generalize hf:(lookF refT op).1=f at *
 unfold instF at h ⊢
 by_cases k1:(headTy f.2.1 zs b).2=0
 ·rw [if_neg (by simp [k1])] at h ⊢
  by_cases k2:(headRes f.2.2.1 zs b f.2.1.toNat).2=0
  ·rw [if_neg (by simp [k2])] at h ⊢
   by_cases k3:(argsI f b (zs.length+1) (zs.drop (f.2.1.toNat+f.2.2.1.toNat)) []).2=0
   ·rw [if_neg (by simp [k3])] at h ⊢
    obtain⟨l,e1,e2,e3,e4⟩:=argsI_back f b _ _ _ (fun z hz=>hw z (List.mem_of_mem_drop hz)) k3
    rw [e1]
    simp only [List.nil_append] at *
    obtain⟨u1,u2,u3⟩:=headTy_zero k1
    obtain⟨v1,v2,v3⟩:=headRes_zero k2
    generalize (headTy f.2.1 zs b).1=t at *
    generalize (headRes f.2.2.1 zs b f.2.1.toNat).1=r at *
    have hz:rawL f (op,t,r,l)=zs:=by
     unfold rawL headW
     simp only
     rw [e3]
     cases c1:f.2.1 with
     | true =>
      obtain⟨q1,q2⟩:=u2 c1
      rw [c1] at v2
      cases c2:f.2.2.1 with
      | true =>
       obtain⟨q3,q4⟩:=v2 c2
       subst q2 q4
       match zs,q1,q3 with
       | a :: b :: zs,_,_=>rfl
      | false =>
       subst q2
       match zs,q1 with
       | a :: zs,_=>rfl
     | false =>
      rw [c1] at v2
      cases c2:f.2.2.1 with
      | true =>
       obtain⟨q3,q4⟩:=v2 c2
       subst q4
       match zs,q3 with
       | a :: zs,_=>rfl
      | false=>rfl
    have hE:rawE (op,t,r,l) b=0:=by
     unfold rawE
     simp only
     rw [if_pos h2,hf]
     unfold faultI
     simp only
     rw [if_neg (by simp [u1]),if_neg (by simp [v1]),if_neg (by simpa using e2),if_neg (by simpa using e4),hz,if_neg (by omega)]
    refine⟨by trivial,hE,?_⟩
    unfold rawWs
    rw [if_pos hE]
    simp only
    rw [hf,hz]
   ·rw [if_pos k3] at h;exact absurd h k3
  ·rw [if_pos k2] at h;exact absurd h k2
 ·rw [if_pos k1] at h;exact absurd h k1
theorem nthR_map (l:List Nat) (f:Nat→Int×List Int) (j:Nat) (h:j<l.length):nthR (l.map f) j=f (l.getD j 0):=by
 simp [nthR,List.getD,h]
theorem fault_any (rs:List (Int×List Int)):fault rs 0=(0,0)∨(fault rs 0).1≠0:=by
 have key:∀ f k,faultF rs f k=(0,0)∨(faultF rs f k).1≠0:=by
  intro f
  induction f with
  | zero=>intro k;exact .inl rfl
  | succ f ih =>
   intro k
   rw [faultF]
   split
   ·split
    ·exact .inr (by simp)
    ·split
     ·exact .inr (by simp)
     ·exact ih (k+1)
   ·exact .inl rfl
 exact key _ _
theorem spot_set {w:World} {g T:Nat} {a b:Value} (h:w.heap[g]?=some (.cells #[a,b] T (0,0))) (u0 u1:Value) :
  ((w.setCell ⟨g,0,none⟩ u0).setCell ⟨g,1,none⟩ u1).cell? ⟨g,0,none⟩=some u0∧((w.setCell ⟨g,0,none⟩ u0).setCell ⟨g,1,none⟩ u1).cell? ⟨g,1,none⟩=some u1:=by
 have hfin:((w.setCell ⟨g,0,none⟩ u0).setCell ⟨g,1,none⟩ u1).heap[g]?=some (.cells #[u0,u1] T (0,0)):=by
  simp only [World.setCell,Array.getElem?_modify,h];simp
 obtain⟨z0,z1,_⟩:=cell_of_two hfin
 exact⟨z0,z1⟩
theorem cell_past {w:World} {g j:Nat} {o:Obj} {v:Value} (h:w.cell? ⟨g,j,none⟩=some v):(w.alloc o).cell? ⟨g,j,none⟩=some v:=by
 rw [World.cell?_alloc_past _ _ _ (World.block_lt_of_cell? _ _ h)];exact h
set_option maxRecDepth 100000 in
set_option maxHeartbeats 2000000 in
theorem measure_any (a:Option Addr) (n cap:Nat) (rs:List (Int×List Int)) (w:World) (ha:RawsV w a rs) (hok:RawsOk rs) (hl:rs.length=n) (hn:32 * n≤140737488351232) :
  Calls Tryz.prog 112 #[.slice a n cap] w fun e w'=>e=.returned (.tuple #[.int .i64 (sizeOut rs),.agg #[.int .i64 (fault rs 0).1,.int .i64 (fault rs 0).2]])∧Below w.heap.size w w':=by
 have HL:Hid (rs.length=n):=hl
 clear hl
 go_enter Tryz.func112,Tryz.ntmps112
 go_wp2
 go_loopw [4,9] (fun s i wr=>∃ k:Nat,k≤n∧i=.int .i64 k∧s=.int .i64 (sizeTo rs k)∧sizeTo rs k≤1048576∧fault rs 0=fault rs k∧wr.heap[w.heap.size]?=some (.cells #[.int .i64 0,.int .i64 0] 28 (0,0))∧Below w.heap.size w wr) (fun _ i _=>n - (intOf i).toNat)
 case atStart=>exact⟨0,Nat.zero_le _,rfl,rfl,by rw [sizeTo_zero];omega,rfl,heap_alloc_new w _,(Below.refl _ _).alloc (Nat.le_refl _) _⟩
 case round =>
  obtain⟨k,hk,rfl,rfl,hsz,hfe,hbox,hnx⟩:=hrel
  have HF:Hid (fault rs 0=fault rs k):=hfe
  clear hfe
  have hlt0:w.heap.size<wr.heap.size:=(Array.getElem?_eq_some_iff.1 hbox).1
  by_cases hlt:k<n
  ·obtain⟨b,off,aj,cj,nj,rfl,hbs,p1,p2,p3,_,_⟩:=ha k (by rw [HL.out];exact hlt)
   obtain⟨_,_,_,h4⟩:=hok k (by rw [HL.out];exact hlt)
   rw [p3] at h4
   have HS:Hid (sizeTo rs (k+1)=sizeTo rs k+1+(nthR rs k).2.length):=sizeTo_succ rs k (by rw [HL.out];exact hlt)
   have HT:=fault_step rs k (by rw [HL.out];exact hlt)
   rw [p3] at HT HS
   have HT':Hid (fault rs k=if 65535≤nj then (25,k) else if 1048576<sizeTo rs (k+1) then (4,k) else fault rs (k+1)):=HT
   have q1:=(hnx.cell (p:=⟨b,off+k * 2,none⟩) hbs).trans p1
   have q2:=(hnx.cell (p:=⟨b,off+k * 2+1,none⟩) hbs).trans p2
   generalize sizeTo rs k=s at hsz HS
   have hki:(k:Int)<(n:Int):=by omega
   have hk0:(0:Int)≤(k:Int):=by omega
   have hW:=fun op w=>wordsOf_any op aj nj cj w (by omega)
   generalize (nthR rs k).1=op at q1 p1
   clear HT ha p1 p2 p3 hok
   obtain⟨R1,hR1⟩:∃ o,o=Obj.cells #[.int .u16 op,.slice aj nj cj] 54 (0,0):=⟨_,rfl⟩
   have hbx1:((wr.alloc R1).alloc R1).heap[w.heap.size]?=some (.cells #[.int .i64 0,.int .i64 0] 28 (0,0)):=(Below.heap_alloc _ _ _ (by simp;omega)).trans ((Below.heap_alloc _ _ _ hlt0).trans hbox)
   obtain⟨c0,c1,f1⟩:=cell_of_two hbox
   have f0:wr.frozen? ⟨w.heap.size,0,none⟩=false:=by simp [World.frozen?,hbox]
   by_cases h1:65535≤nj
   ·have b1:decide ((65535:Int)<(nj:Int)+1)=true:=decide_eq_true (by omega)
    have HE:Hid (fault rs 0=(25,k)):=by show _=_;rw [HF.out,HT'.out,if_pos h1]
    have HO:Hid (sizeOut rs=0):=by show _=_;unfold sizeOut;rw [HE.out];rfl
    have hf0:=spot_set hbox (.int .i64 25) (.int .i64 k)
    have hf:=And.intro (cell_past (o:=R1) (cell_past (o:=R1) hf0.1)) (cell_past (o:=R1) (cell_past (o:=R1) hf0.2))
    have HZ:Hid (_∧_):=hf
    have HB:Hid (Below w.heap.size w ((((wr.setCell ⟨w.heap.size,0,none⟩ (.int .i64 25)).setCell ⟨w.heap.size,1,none⟩ (.int .i64 k)).alloc R1).alloc R1)):=(((hnx.setCell (by simp) _).setCell (by simp) _).alloc (by simp;omega) _).alloc (by simp;omega) _
    clear hf hf0 hbx1 hbox
    subst hR1
    go_wp2_with (go_at_call 103;refine (hW _ _).mono ?_;rintro e w' ⟨rfl,rfl⟩)
    exact bodyPost_ret (v:=.tuple #[.int .i64 0,.agg #[.int .i64 25,.int .i64 k]]) (by simp [results,Tryz.results112,go_sem,HZ.out.1,HZ.out.2]) rfl ⟨by rw [HE.out,HO.out],HB.out⟩
   ·have b1:decide ((65535:Int)<(nj:Int)+1)=false:=decide_eq_false (by omega)
    have hbx2:(((wr.alloc R1).alloc R1).alloc R1).heap[w.heap.size]?=some (.cells #[.int .i64 0,.int .i64 0] 28 (0,0)):=(Below.heap_alloc _ _ _ (by simp;omega)).trans hbx1
    have HB2:Hid (Below w.heap.size w (((wr.alloc R1).alloc R1).alloc R1)):=((hnx.alloc hnx.size _).alloc (by simp;omega) _).alloc (by simp;omega) _
    by_cases h2:1048576<s+1+nj
    ·have b2:decide ((1048576:Int)<(s:Int)+((nj:Int)+1))=true:=decide_eq_true (by omega)
     have HE:Hid (fault rs 0=(4,k)):=by show _=_;rw [HF.out,HT'.out,if_neg h1,if_pos (by rw [HS.out];exact h2)]
     have HO:Hid (sizeOut rs=0):=by show _=_;unfold sizeOut;rw [HE.out];rfl
     have hf:=spot_set hbx2 (.int .i64 4) (.int .i64 k)
     obtain⟨c0',c1',f1'⟩:=cell_of_two hbx2
     have f0':(((wr.alloc R1).alloc R1).alloc R1).frozen? ⟨w.heap.size,0,none⟩=false:=by simp only [World.frozen?,hbx2];rfl
     have HZ:Hid (_∧_):=hf
     have HB:Hid (Below w.heap.size w (((((wr.alloc R1).alloc R1).alloc R1).setCell ⟨w.heap.size,0,none⟩ (.int .i64 4)).setCell ⟨w.heap.size,1,none⟩ (.int .i64 k))):=(HB2.out.setCell (by simp) _).setCell (by simp) _
     clear hf hbx1 hbx2 hbox
     subst hR1
     go_wp2_with (go_at_call 103;refine (hW _ _).mono ?_;rintro e w' ⟨rfl,rfl⟩)
     exact bodyPost_ret (v:=.tuple #[.int .i64 0,.agg #[.int .i64 4,.int .i64 k]]) (by simp [results,Tryz.results112,go_sem,HZ.out.1,HZ.out.2]) rfl ⟨by rw [HE.out,HO.out],HB.out⟩
    ·have b2:decide ((1048576:Int)<(s:Int)+((nj:Int)+1))=false:=decide_eq_false (by omega)
     have HE:Hid (fault rs 0=fault rs (k+1)):=by show _=_;rw [HF.out,HT'.out,if_neg h1,if_neg (by rw [HS.out];exact h2)]
     have HX:Hid _:=hbx2
     clear hbx1 hbx2 hbox
     subst hR1
     go_wp2_with (go_at_call 103;refine (hW _ _).mono ?_;rintro e w' ⟨rfl,rfl⟩)
     go_roundw
     case rel=>exact⟨k+1,by omega,by go_num,by rw [HS.out];go_num,by rw [HS.out];omega,HE.out,HX.out,HB2.out⟩
     case measure=>simp [intOf];omega
  ·obtain rfl:k=n:=by omega
   have HE:Hid (fault rs 0=(0,0)):=by show _=_;rw [HF.out];exact fault_end rs k (by rw [HL.out];omega)
   have HO:Hid (sizeOut rs=sizeTo rs k):=by show _=_;unfold sizeOut;rw [HE.out,if_pos rfl,HL.out]
   have hf:=spot_set hbox (.int .i64 0) (.int .i64 0)
   obtain⟨c0,c1,f1⟩:=cell_of_two hbox
   have f0:wr.frozen? ⟨w.heap.size,0,none⟩=false:=by simp [World.frozen?,hbox]
   have HZ:Hid (_∧_):=hf
   have HB:Hid (Below w.heap.size w ((wr.setCell ⟨w.heap.size,0,none⟩ (.int .i64 0)).setCell ⟨w.heap.size,1,none⟩ (.int .i64 0))):=(hnx.setCell (by simp) _).setCell (by simp) _
   clear hf hbox ha hok
   go_wp2
   exact bodyPost_ret (v:=.tuple #[.int .i64 (sizeTo rs k),.agg #[.int .i64 0,.int .i64 0]]) (by simp [results,Tryz.results112,go_sem,HZ.out.1,HZ.out.2]) rfl ⟨by rw [HE.out,HO.out];rfl,HB.out⟩

theorem readR_len (zs:List Int):(readR zs).length=(rest zs 5).length:=by simp [readR]
theorem headE_ok (zs:List Int) (h:(headE zs 0).1=0):5≤zs.length∧zs.take 5=[119734787,65536,nth zs 2,nth zs 3,0]∧nth zs 3≠0∧¬ 65536<nth zs 3:=by
 by_cases l0:zs.length≤0
 ·rw [headE_step _ 0 (by omega),if_pos l0] at h;simp at h
 by_cases w0:wrongE 0 (nth zs 0)≠0
 ·rw [headE_step _ 0 (by omega),if_neg l0,if_pos w0] at h;exact absurd h w0
 rw [headE_step _ 0 (by omega),if_neg l0,if_neg w0] at h
 by_cases l1:zs.length≤1
 ·rw [headE_step _ 1 (by omega),if_pos l1] at h;simp at h
 by_cases w1:wrongE 1 (nth zs 1)≠0
 ·rw [headE_step _ 1 (by omega),if_neg l1,if_pos w1] at h;exact absurd h w1
 rw [headE_step _ 1 (by omega),if_neg l1,if_neg w1] at h
 by_cases l2:zs.length≤2
 ·rw [headE_step _ 2 (by omega),if_pos l2] at h;simp at h
 by_cases w2:wrongE 2 (nth zs 2)≠0
 ·rw [headE_step _ 2 (by omega),if_neg l2,if_pos w2] at h;exact absurd h w2
 rw [headE_step _ 2 (by omega),if_neg l2,if_neg w2] at h
 by_cases l3:zs.length≤3
 ·rw [headE_step _ 3 (by omega),if_pos l3] at h;simp at h
 by_cases w3:wrongE 3 (nth zs 3)≠0
 ·rw [headE_step _ 3 (by omega),if_neg l3,if_pos w3] at h;exact absurd h w3
 rw [headE_step _ 3 (by omega),if_neg l3,if_neg w3] at h
 by_cases l4:zs.length≤4
 ·rw [headE_step _ 4 (by omega),if_pos l4] at h;simp at h
 by_cases w4:wrongE 4 (nth zs 4)≠0
 ·rw [headE_step _ 4 (by omega),if_neg l4,if_pos w4] at h;exact absurd h w4
 have w0':wrongE 0 (nth zs 0)=0:=Decidable.not_not.1 w0
 have w1':wrongE 1 (nth zs 1)=0:=Decidable.not_not.1 w1
 have w3':wrongE 3 (nth zs 3)=0:=Decidable.not_not.1 w3
 have w4':wrongE 4 (nth zs 4)=0:=Decidable.not_not.1 w4
 have e0:nth zs 0=119734787:=by
  unfold wrongE at w0';rw [if_pos rfl] at w0'
  split at w0'
  ·simp at w0'
  ·split at w0'
   ·assumption
   ·simp at w0'
 have e1:nth zs 1=65536:=by
  unfold wrongE at w1';rw [if_neg (by omega),if_pos rfl] at w1'
  split at w1'
  ·assumption
  ·simp at w1'
 have e3:nth zs 3≠0∧¬ 65536<nth zs 3:=by
  unfold wrongE at w3';rw [if_neg (by omega),if_neg (by omega),if_pos rfl] at w3'
  split at w3'
  ·simp at w3'
  ·split at w3'
   ·simp at w3'
   ·exact⟨by assumption,by assumption⟩
 have e4:nth zs 4=0:=by
  unfold wrongE at w4';rw [if_neg (by omega),if_neg (by omega),if_neg (by omega),if_pos rfl] at w4'
  split at w4'
  ·assumption
  ·simp at w4'
 refine⟨by omega,?_,e3.1,e3.2⟩
 rw [take_snoc zs 4 (by omega),take_snoc zs 3 (by omega),take_snoc zs 2 (by omega),take_snoc zs 1 (by omega),take_snoc zs 0 (by omega),e0,e1,e4]
 rfl
theorem readE_ok (zs:List Int) (h:(readE zs).1=0):zs.length≤1048576∧(headE zs 0).1=0∧zs.length≤stop zs 5:=by
 unfold readE at h
 by_cases h1:1048576<zs.length
 ·rw [if_pos h1] at h;simp at h
 ·rw [if_neg h1] at h
  by_cases h2:(headE zs 0).1≠0
  ·rw [if_pos h2] at h;exact absurd h h2
  ·rw [if_neg h2] at h
   by_cases h3:stop zs 5<zs.length
   ·rw [if_pos h3] at h;simp at h
   ·exact⟨by omega,Decidable.not_not.1 h2,by omega⟩
theorem rest_nil_stop (zs:List Int) (p:Nat) (h:rest zs p=[]):stop zs p=p:=by
 by_cases hp:p<zs.length
 ·cases hb:badB zs p with
  | true=>exact stop_bad zs p hp hb
  | false=>rw [rest_go zs p hp hb] at h;simp at h
 ·exact stop_end zs p (by omega)
theorem rest_cons_at (zs:List Int) (p q:Nat) (l:List Nat) (h:rest zs p=q :: l):p=q∧p<zs.length∧badB zs p=false∧rest zs (p+cntN zs p)=l:=by
 by_cases hp:p<zs.length
 ·cases hb:badB zs p with
  | true=>rw [rest_bad zs p hp hb] at h;simp at h
  | false =>
   rw [rest_go zs p hp hb] at h
   injection h with h1 h2
   exact⟨h1,hp,rfl,h2⟩
 ·rw [rest_end zs p (by omega)] at h;simp at h
theorem rawW_at (zs:List Int) (hw:Within 4294967296 zs) (p:Nat) (hp:p<zs.length) (hb:badB zs p=false):zs.take p++rawW (rawAt zs p)=zs.take (p+cntN zs p):=by
 have h1:=cnt_pos hb
 have h2:=cnt_fits hb
 have hx:0≤nth zs p:=(hw.at hp).1
 have hl:(midL zs (p+1) (cntN zs p - 1)).length=cntN zs p - 1:=midL_len zs _ _ (by omega)
 have hv:(((rawAt zs p).2.length:Int)+1) * 65536+(rawAt zs p).1=nth zs p:=by
  show (((midL zs (p+1) (cntN zs p - 1)).length:Int)+1) * 65536+opI zs p=_
  rw [hl]
  have:=cntN_int zs p hx
  unfold opI
  omega
 have e:zs.take (p+cntN zs p)=zs.take (p+1)++midL zs (p+1) (cntN zs p - 1):=by
  rw [show p+cntN zs p=(p+1)+(cntN zs p - 1) by omega,List.take_add];rfl
 rw [e,take_snoc zs p hp,rawW,hv,List.append_assoc]
 rfl
theorem back_to (zs:List Int) (hw:Within 4294967296 zs) (hh:(headE zs 0).1=0):∀ k,k≤(rest zs 5).length →
  sizeTo (readR zs) k≤zs.length∧rest zs (sizeTo (readR zs) k)=(rest zs 5).drop k∧stop zs (sizeTo (readR zs) k)=stop zs 5∧writeTo (nth zs 2) (nth zs 3) (readR zs) k=zs.take (sizeTo (readR zs) k)
 | 0,_=>by
  obtain⟨h1,h2,_⟩:=headE_ok zs hh
  rw [sizeTo_zero]
  exact⟨h1,rfl,rfl,by rw [h2];simp [writeTo]⟩
 | k+1,hk=>by
  obtain⟨i1,i2,i3,i4⟩:=back_to zs hw hh k (by omega)
  have hc:(rest zs 5).drop k=(rest zs 5).getD k 0 :: (rest zs 5).drop (k+1):=by
   rw [List.drop_eq_getElem_cons (by omega)];simp [List.getD,show k<(rest zs 5).length by omega]
  rw [hc] at i2
  obtain⟨e,hp,hb,hn⟩:=rest_cons_at zs _ _ _ i2
  have hkr:k<(readR zs).length:=by rw [readR_len];omega
  have hr:nthR (readR zs) k=rawAt zs (sizeTo (readR zs) k):=by
   rw [e];unfold readR;exact nthR_map _ _ _ (by omega)
  have h1:=cnt_pos hb
  have h2:=cnt_fits hb
  have hs:sizeTo (readR zs) (k+1)=sizeTo (readR zs) k+cntN zs (sizeTo (readR zs) k):=by
   rw [sizeTo_succ _ _ hkr,hr]
   show _+1+(midL zs _ _).length=_
   rw [midL_len zs _ _ (by omega)];omega
  rw [hs]
  refine⟨h2,hn,?_,?_⟩
  ·rw [← stop_go zs _ hp hb];exact i3
  ·rw [writeTo_succ _ _ _ _ hkr,i4,hr];exact rawW_at zs hw _ hp hb
theorem back_fault (zs:List Int) (hw:Within 4294967296 zs) (hh:(headE zs 0).1=0) (hl:zs.length≤1048576):∀ d k,(readR zs).length - k=d→fault (readR zs) k=(0,0)
 | 0,k,h=>fault_end _ _ (by omega)
 | d+1,k,h=>by
  have hk:k<(readR zs).length:=by omega
  have hk':k<(rest zs 5).length:=by rw [← readR_len];exact hk
  rw [fault_step _ _ hk,if_neg,if_neg,back_fault zs hw hh hl d (k+1) (by omega)]
  ·have:=(back_to zs hw hh (k+1) (by omega)).1;omega
  ·have hr:nthR (readR zs) k=rawAt zs ((rest zs 5).getD k 0):=by unfold readR;exact nthR_map _ _ _ hk'
   obtain⟨_,h2,h3⟩:=rest_mem zs 5 ((rest zs 5).getD k 0) (by simp [List.getD,hk'])
   have hx:=(hw.at h2).2
   have h4:=cnt_fits h3
   have h5:=cnt_pos h3
   rw [hr]
   show ¬ 65535≤(midL zs _ _).length
   rw [midL_len zs _ _ (by omega)]
   unfold cntN at *
   omega
theorem write_read (zs:List Int) (hw:Within 4294967296 zs) (h:(readE zs).1=0) :
  5≤zs.length∧nth zs 3≠0∧¬ 65536<nth zs 3∧fault (readR zs) 0=(0,0)∧sizeTo (readR zs) (readR zs).length=zs.length∧writeTo (nth zs 2) (nth zs 3) (readR zs) (readR zs).length=zs:=by
 obtain⟨h1,h2,h3⟩:=readE_ok zs h
 obtain⟨h4,_,h5,h6⟩:=headE_ok zs h2
 obtain⟨i1,i2,i3,i4⟩:=back_to zs hw h2 (rest zs 5).length (Nat.le_refl _)
 rw [List.drop_length] at i2
 have hs:sizeTo (readR zs) (rest zs 5).length=zs.length:=by
  have:=rest_nil_stop zs _ i2
  omega
 rw [readR_len]
 refine⟨h4,h5,h6,back_fault zs hw h2 h1 _ 0 rfl,hs,?_⟩
 rw [i4,hs,List.take_length]
end Go.Proofs.YtonhnflilfjkbaaGreatDoor
