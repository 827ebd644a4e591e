/-
  Texts laid together in one: Law10Small, LawTypesNil, TypesNilProof.
-/
import Derived.Test.YtoebhgpciinkgaaGreatDoorB23
import Derived.Test.YtoebhgpciinkgaaGreatDoorRows
import Derived.LaidMore
import Derived.Stop.Joined
import Derived.Stop.LaidErr
import Derived.Lib.LaidTab
import Derived.ShutString
import Derived.ChangeOld
import Derived.Below
import Derived.SizedLaws
/-
  The small module of the laws of layer 10.
-/
namespace Go.Proofs.YtoebhgpciinkgaaGreatDoor
open Go.RowKit
set_option linter.unusedVariables false
set_option linter.unusedSimpArgs false
set_option maxRecDepth 10000

theorem kitEnum10 (x:Int) (w:World):Calls Tryz.prog 77 #[.int .u32 x] w fun e w'=>e=.returned (.agg #[.int .u8 4,.int .u32 x,.string ⟨#[]⟩])∧Below w.heap.size w w':=by
 have HB:Hid (Below w.heap.size w (w.alloc (.cells #[.int .u8 4,.int .u32 x,.string ⟨#[]⟩] 87))):=(Below.refl _ w).alloc (Nat.le_refl _) _
 go_enter Tryz.func77,Tryz.ntmps77
 go_wp2_with fail
 refine bodyPost_ret (v:=.agg #[.int .u8 4,.int .u32 x,.string ⟨#[]⟩]) ?_ rfl ⟨rfl,HB.out⟩
 simp [results,Tryz.results77,go_sem]
theorem kitNumber10 (x:Int) (w:World):Calls Tryz.prog 78 #[.int .u32 x] w fun e w'=>e=.returned (.agg #[.int .u8 2,.int .u32 x,.string ⟨#[]⟩])∧Below w.heap.size w w':=by
 have HB:Hid (Below w.heap.size w (w.alloc (.cells #[.int .u8 2,.int .u32 x,.string ⟨#[]⟩] 87))):=(Below.refl _ w).alloc (Nat.le_refl _) _
 go_enter Tryz.func78,Tryz.ntmps78
 go_wp2_with fail
 refine bodyPost_ret (v:=.agg #[.int .u8 2,.int .u32 x,.string ⟨#[]⟩]) ?_ rfl ⟨rfl,HB.out⟩
 simp [results,Tryz.results78,go_sem]
theorem kitId10 (x:Int) (w:World):Calls Tryz.prog 79 #[.int .u32 x] w fun e w'=>e=.returned (.agg #[.int .u8 1,.int .u32 x,.string ⟨#[]⟩])∧Below w.heap.size w w':=by
 have HB:Hid (Below w.heap.size w (w.alloc (.cells #[.int .u8 1,.int .u32 x,.string ⟨#[]⟩] 87))):=(Below.refl _ w).alloc (Nat.le_refl _) _
 go_enter Tryz.func79,Tryz.ntmps79
 go_wp2_with fail
 refine bodyPost_ret (v:=.agg #[.int .u8 1,.int .u32 x,.string ⟨#[]⟩]) ?_ rfl ⟨rfl,HB.out⟩
 simp [results,Tryz.results79,go_sem]
theorem args_two {Y:World} {A:Nat} {k1 n1 k2 n2:Int} (h:Y.heap[A]?=some (.cells #[.int .u8 k1,.int .u32 n1,.string ⟨#[]⟩,.int .u8 k2,.int .u32 n2,.string ⟨#[]⟩] 87 (0,0))):ArgsV Y (some ⟨A,0,none⟩) [(k1,n1,⟨#[]⟩),(k2,n2,⟨#[]⟩)]:=by
 obtain⟨cc,_⟩:=one_block h
 have hl:=(Array.getElem?_eq_some_iff.1 h).1
 intro j hj
 have:j=0∨j=1:=by simp at hj;omega
 rcases this with rfl | rfl
 ·exact⟨A,0,rfl,hl,cc 0,cc 1,cc 2⟩
 ·exact⟨A,0,rfl,hl,cc 3,cc 4,cc 5⟩
structure SmB (w : World) (v : Value) (l : List InstT) (W : World) : Prop where
  rbox : W.heap[w.heap.size]? = some (.cells #[.int .u32 0, .int .u32 0, .slice none 0 0] 25 (0, 0))
  xbox : W.heap[w.heap.size + 1]? = some (.cells #[.int .u32 0, .int .u32 9, v] 25 (0, 0))
  row : ∃ cs, W.ownsRow (w.heap.size + 2) 71 4 v l.length cs ∧ EachW W (w.heap.size + 2) v.ownBlock l cs
  bel : Below w.heap.size w W
theorem SmB.size {w W:World} {v:Value} {l:List InstT} (h:SmB w v l W):w.heap.size+1<W.heap.size:=(Array.getElem?_eq_some_iff.1 h.xbox).1
theorem below_drew10 (w:World):Below w.heap.size w w.drew:=(Below.refl _ w).drew
theorem SmB.more {w wr WB w7:World} {v:Value} {l:List InstT} {x:InstT} {A g7 cap7 k:Nat} {cs:List Value} (h:SmB w v l wr) (hk:l.length=k) (hb:Below wr.heap.size wr WB) (hO:wr.ownsRow (w.heap.size+2) 71 4 v k cs) (hE:EachW wr (w.heap.size+2) v.ownBlock l cs) (hA:wr.heap.size≤A) (hA2:A<WB.heap.size)
  (hV:ArgsV WB (some ⟨A,0,none⟩) x.2.2.2) (hx:x.2.2.2.length=2) (hown:w7.ownsRow (w.heap.size+2) 71 4 (.slice (some ⟨g7,0,none⟩) (k+1) cap7) (k+1) (cs++[.int .u16 x.1,.int .u32 x.2.1,.int .u32 x.2.2.1,.slice (some ⟨A,0,none⟩) 2 2])) (hgr:WB.grownBy w7 v.ownBlock) (hat:v.ownBlock=some g7∨g7=WB.heap.size) :
  Below (w.heap.size+2) wr w7∧SmB w (.slice (some ⟨g7,0,none⟩) (k+1) cap7) (l++[x]) (w7.setCell ⟨w.heap.size+1,2,none⟩ (.slice (some ⟨g7,0,none⟩) (k+1) cap7)):=by
 have hsz:=h.size
 have hbs:=hb.size
 have hlo:∀ g,v.ownBlock=some g→w.heap.size+2≤g∧g<wr.heap.size:=fun g e=>hO.lt g e
 have kk:∀ i,i<w.heap.size+2→w7.heap[i]?=wr.heap[i]?:=fun i hi=>(hgr.block i (by omega) (fun e=>by have:=(hlo _ e.symm).1;omega)).trans (hb.block i (by omega))
 have hC7:Below (w.heap.size+2) wr w7:=⟨hgr.os.trans hb.os,hgr.tape.trans hb.tape,hgr.output.trans hb.output,Nat.le_trans hb.size hgr.size,kk⟩
 refine⟨hC7,?_⟩
 have hp:=(hE.below hb).push (x:=x) (g':=g7) (fun b e=>by have:=(hlo b e).2;omega) hV hx (Nat.le_refl 2) (fun b off e=>by cases e;exact⟨by omega,hA2,fun e2=>by have:=(hlo _ e2).2;omega⟩) hgr hat
 have hg7:w.heap.size+2≤g7:=by
  rcases hat with h | h
  ·exact (hlo _ h).1
  ·omega
 have hbw:Below w.heap.size w w7:=⟨hC7.os.trans h.bel.os,hC7.tape.trans h.bel.tape,hC7.output.trans h.bel.output,Nat.le_trans h.bel.size hC7.size,fun i hi=>(kk i (by omega)).trans (h.bel.block i hi)⟩
 have hx7:=(kk (w.heap.size+1) (by omega)).trans h.xbox
 refine⟨setFarT ((kk _ (by omega)).trans h.rbox) (by omega) _ _,by simp [World.setCell,Array.getElem?_modify,hx7],⟨_,?_,hp.set (by omega) 2 _⟩,hbw.setCell (by simp) _⟩
 rw [List.length_append,hk]
 exact ownsRow_setCell_below hown (by simp) _
set_option maxHeartbeats 8000000 in
theorem small10_any (w:World):Calls Tryz.prog 51 #[] w fun e w'=>SmQ w w' e:=by
 obtain⟨i0,hi,hz0,hz1,hz2⟩:=info_parts RowT.info
 have HI:=hide (And.intro hi (And.intro hz0 (And.intro hz1 hz2)))
 have hS0:SmB w (.slice none 0 0) [] ((w.alloc (.cells #[.int .u32 0,.int .u32 0,.slice none 0 0] 25)).alloc (.cells #[.int .u32 0,.int .u32 9,.slice none 0 0] 25)):=by
  refine⟨?_,?_,⟨[],World.ownsRow_nil _ _ _ _,eachW_nil _ _ _⟩,((Below.refl _ w).alloc (Nat.le_refl _) _).alloc (by simp) _⟩
  ·rw [Below.heap_alloc _ _ _ (by simp)];exact heap_alloc_new _ _
  ·have:=heap_alloc_new (w.alloc (.cells #[.int .u32 0,.int .u32 0,.slice none 0 0] 25)) (.cells #[.int .u32 0,.int .u32 9,.slice none 0 0] 25)
   simpa using this
 clear hi hz0 hz1 hz2
 go_enter Tryz.func51,Tryz.ntmps51
 go_wp2_with fail
 generalize (w.alloc (.cells #[.int .u32 0,.int .u32 0,.slice none 0 0] 25)).alloc (.cells #[.int .u32 0,.int .u32 9,.slice none 0 0] 25)=W0 at *
 have hsz0:=hS0.size
 obtain⟨cs,hO,hE⟩:=hS0.row
 have LC:Hid (∀ w':World,Below (w.heap.size+2) W0 w'→w'.cell? ⟨w.heap.size+1,2,none⟩=some (.slice none 0 0)):=fun w' h=>(h.cell (p:=⟨w.heap.size+1,2,none⟩) (by simp)).trans ((one_block hS0.xbox).1 2)
 have HM:=hide hS0
 have HO:Hid (W0.ownsRow (w.heap.size+2) 71 4 (.slice none 0 0) 0 cs):=hO
 have HE:=hide hE
 have hC0:Below (w.heap.size+2) W0 W0.drew:=(below_drew10 W0).mono (by omega)
 clear hS0 hO hE
 have hmix:Tryz.prog.follows .mixedOrders=true:=by kernel_rfl
 refine (wpIn_wide (n:=0)).1 ?_
 refine wpIn_normal (wpIn_region_any hmix (wpAnyE_sound (C:=Below (w.heap.size+2) W0) (E:=fun i=>i==9) _ _ _ _ ?_))
 change wpAnyE _ _ _ _ _ _ _ _ _ _ _ (World.drew _)
 refine wpAnyE_takeD (i:=0) (some 3) (v:=.pointer (some ⟨w.heap.size+1,2,none⟩)) (fun _=>trivial) (by kernel_rfl) rfl rfl (by kernel_rfl) (by kernel_rfl) (by kernel_rfl) (by kernel_rfl) (fun _ _ _ h=>by cases h.1) hC0 (Or.inl ⟨by rfl,fun w' hC=>by clear hC;go_simp⟩) ?_
 simp only [Act.put,ap1,ap2,ap3]
 refine wpAnyE_takeD (i:=1) (some 4) (v:=.slice none 0 0) (fun _=>trivial) (by kernel_rfl) rfl rfl (by kernel_rfl) (by kernel_rfl) (by kernel_rfl) (by kernel_rfl) (fun _ _ _ h=>by cases h.1) hC0 (Or.inl ⟨by rfl,fun w' hC=>by have e1:=LC.out w' hC;clear hC;go_simp⟩) ?_
 simp only [Act.put,ap1,ap2,ap3]
 refine wpAnyE_ready (rs:=[2]) (by kernel_rfl) (by simp) ?_
 refine AllE.cons rfl (fun K hK=>?_) AllE.nil
 go_simp
 refine⟨trivial,rfl,(callsIn_wide.2 (kitEnum10 0 W0.drew)).mono ?_⟩
 rintro e w5 ⟨rfl,hb5⟩
 dsimp only
 have hb5':Below W0.heap.size W0 w5:=(below_drew10 W0).trans (show Below W0.heap.size W0.drew w5 from hb5)
 have hC5:Below (w.heap.size+2) W0 w5:=hb5'.mono (by omega)
 refine hK _ _ (.inr hC5) ?_
 clear hK K hC0 hb5
 try simp only [Act.put,ap1,ap2,ap3]
 refine wpAnyE_ready (rs:=[3]) (by kernel_rfl) (by simp) ?_
 refine AllE.cons rfl (fun K hK=>?_) AllE.nil
 go_simp
 refine⟨trivial,rfl,(callsIn_wide.2 (kitEnum10 0 w5)).mono ?_⟩
 rintro e w6 ⟨rfl,hb6⟩
 dsimp only
 have hb6':Below W0.heap.size W0 w6:=hb5'.trans (hb6.mono hb5'.size)
 have hC6:Below (w.heap.size+2) W0 w6:=hb6'.mono (by omega)
 refine hK _ _ (.inr hC6) ?_
 clear hK K hC5 hb6 hb5'
 try simp only [Act.put,ap1,ap2,ap3]
 refine wpAnyE_ready (rs:=[4]) (by kernel_rfl) (by simp) ?_
 refine AllE.cons rfl (fun K hK=>?_) AllE.nil
 go_simp
 generalize hWA:w6.alloc (.cells #[.int .u8 4,.int .u32 0,.string ⟨#[]⟩,.int .u8 4,.int .u32 0,.string ⟨#[]⟩] 87)=WA at *
 have hbA:Below w6.heap.size w6 WA:=by rw [← hWA];exact (Below.refl _ w6).alloc (Nat.le_refl _) _
 have hA:WA.heap[w6.heap.size]?=some (.cells #[.int .u8 4,.int .u32 0,.string ⟨#[]⟩,.int .u8 4,.int .u32 0,.string ⟨#[]⟩] 87 (0,0)):=by rw [← hWA];exact heap_alloc_new w6 _
 have hb7:=hb6'.trans (hbA.mono hb6'.size)
 have hC7:Below (w.heap.size+2) W0 WA:=hb7.mono (by omega)
 refine hK _ _ (.inr hC7) ?_
 clear hK K hC6 hWA
 try simp only [Act.put,ap1,ap2,ap3]
 refine wpAnyE_takeD (i:=5) (some 8) (v:=.agg #[.int .u16 14,.int .u32 0,.int .u32 0,.slice (some ⟨w6.heap.size,0,none⟩) 2 2]) (fun _=>trivial) (by kernel_rfl) rfl rfl (by kernel_rfl) (by kernel_rfl) (by kernel_rfl) (by kernel_rfl) (fun _ _ _ h=>by cases h.1) hC7 (Or.inl ⟨by rfl,fun w' hC=>by clear hC;go_simp⟩) ?_
 simp only [Act.put,ap1,ap2,ap3]
 refine wpAnyE_ready (rs:=[6]) (by kernel_rfl) (by simp) ?_
 refine AllE.cons rfl (fun K hK=>?_) AllE.nil
 go_simp
 generalize hWB:WA.alloc (.cells #[.int .u16 14,.int .u32 0,.int .u32 0,.slice (some ⟨w6.heap.size,0,none⟩) 2 2] 71)=WB at *
 have hbB:Below WA.heap.size WA WB:=by rw [← hWB];exact (Below.refl _ WA).alloc (Nat.le_refl _) _
 have hI:WB.heap[WA.heap.size]?=some (.cells #[.int .u16 14,.int .u32 0,.int .u32 0,.slice (some ⟨w6.heap.size,0,none⟩) 2 2] 71 (0,0)):=by rw [← hWB];exact heap_alloc_new WA _
 have hA2:=(hbB.block _ (Array.getElem?_eq_some_iff.1 hA).1).trans hA
 have hb8:=hb7.trans (hbB.mono hb7.size)
 have hC8:Below (w.heap.size+2) W0 WB:=hb8.mono (by omega)
 refine hK _ _ (.inr hC8) ?_
 clear hK K hC7 hWB
 try simp only [Act.put,ap1,ap2,ap3]
 have hs8:=hb8.size
 have N2:=World.news_of_block (cs:=#[.int .u16 14,.int .u32 0,.int .u32 0,.slice (some ⟨w6.heap.size,0,none⟩) 2 2]) (t:=71) (fr:=(0,0)) hI
 refine wpAnyE_ready (rs:=[7]) (by kernel_rfl) (by simp) ?_
 refine AllE.cons rfl (fun K hK=>?_) AllE.nil
 refine stepAny_lies _ (fun _=>trivial) rfl (.tmp 4) (.tmp 9) 23 rfl (w.heap.size+2) 71 i0 (.agg #[.int .u16 0,.int .u32 0,.int .u32 0,.slice none 0 0]) 4 40 Tryz.underlying23 HI.out.1 HI.out.2.1 HI.out.2.2.1 HI.out.2.2.2 rfl (by decide) (.slice none 0 0) 0 cs rfl (own_below HO.out hb8) ⟨WA.heap.size,0,none⟩ 1 1 [.int .u16 14,.int .u32 0,.int .u32 0,.slice (some ⟨w6.heap.size,0,none⟩) 2 2] rfl rfl N2 (by intro u hu;simp at hu;rcases hu with rfl | rfl | rfl | rfl <;> rfl) (by decide) (by unfold maxLen;omega) (by omega) (by omega) ?_
 intro g0 cap0 w7 hown7 hgr7 hat7
 obtain⟨hC9,hSn⟩:=HM.out.more (k:=0) (x:=(14,0,0,[(4,0,⟨#[]⟩),(4,0,⟨#[]⟩)])) rfl hb8 HO.out HE.out hb6'.size (Array.getElem?_eq_some_iff.1 hA2).1 (args_two hA2) rfl hown7 hgr7 hat7
 have hS1:SmB w (.slice (some ⟨g0,0,none⟩) 1 cap0) [(14,0,0,[(4,0,⟨#[]⟩),(4,0,⟨#[]⟩)])] (w7.setCell ⟨w.heap.size+1,2,none⟩ (.slice (some ⟨g0,0,none⟩) 1 cap0)):=hSn
 clear hSn
 refine hK _ _ (.inr hC9) ?_
 clear hK K hC8 hown7 hgr7 hat7 N2 hA2 hA hI hs8 hb8 hbB hbA hb7 hb6'
 try simp only [Act.put,ap1,ap2,ap3]
 refine wpAnyE_takeD (i:=8) (some 11) (v:=.pointer (some ⟨w.heap.size+1,2,none⟩)) (fun _=>trivial) (by kernel_rfl) rfl rfl (by kernel_rfl) (by kernel_rfl) (by kernel_rfl) (by kernel_rfl) (fun _ _ _ h=>by cases h.1) hC9 (Or.inl ⟨by rfl,fun w' hC=>by clear hC;go_simp⟩) ?_
 simp only [Act.put,ap1,ap2,ap3]
 have hx7:=(hC9.block (w.heap.size+1) (by omega)).trans HM.out.xbox
 obtain⟨cx7,fx7⟩:=one_block hx7
 have y2:=cx7 2
 clear cx7
 refine wpAnyE_ready (rs:=[9]) (by kernel_rfl) (by simp) ?_
 refine AllE.cons rfl (fun K hK=>?_) AllE.nil
 go_simp
 refine hK _ _ (.inl rfl) ?_
 clear hK K hC9 y2 fx7 hx7 HO HE LC HM
 refine wpAnyE_done (by kernel_rfl) ⟨rfl,?_⟩ _
 generalize w7.setCell ⟨w.heap.size+1,2,none⟩ (.slice (some ⟨g0,0,none⟩) 1 cap0)=W1 at *
 clear hsz0
 go_wp2_with fail
 have hsz1:=hS1.size
 obtain⟨cs,hO,hE⟩:=hS1.row
 have LC:Hid (∀ w':World,Below (w.heap.size+2) W1 w'→w'.cell? ⟨w.heap.size+1,2,none⟩=some (.slice (some ⟨g0,0,none⟩) 1 cap0)):=fun w' h=>(h.cell (p:=⟨w.heap.size+1,2,none⟩) (by simp)).trans ((one_block hS1.xbox).1 2)
 have HM:=hide hS1
 have HO:Hid (W1.ownsRow (w.heap.size+2) 71 4 (.slice (some ⟨g0,0,none⟩) 1 cap0) 1 cs):=hO
 have HE:=hide hE
 have hC0:Below (w.heap.size+2) W1 W1.drew:=(below_drew10 W1).mono (by omega)
 clear hS1 hO hE
 have hmix:Tryz.prog.follows .mixedOrders=true:=by kernel_rfl
 refine (wpIn_wide (n:=0)).1 ?_
 refine wpIn_normal (wpIn_region_any hmix (wpAnyE_sound (C:=Below (w.heap.size+2) W1) (E:=fun i=>i==9) _ _ _ _ ?_))
 change wpAnyE _ _ _ _ _ _ _ _ _ _ _ (World.drew _)
 refine wpAnyE_takeD (i:=0) (some 12) (v:=.pointer (some ⟨w.heap.size+1,2,none⟩)) (fun _=>trivial) (by kernel_rfl) rfl rfl (by kernel_rfl) (by kernel_rfl) (by kernel_rfl) (by kernel_rfl) (fun _ _ _ h=>by cases h.1) hC0 (Or.inl ⟨by rfl,fun w' hC=>by clear hC;go_simp⟩) ?_
 simp only [Act.put,ap1,ap2,ap3]
 refine wpAnyE_takeD (i:=1) (some 13) (v:=.slice (some ⟨g0,0,none⟩) 1 cap0) (fun _=>trivial) (by kernel_rfl) rfl rfl (by kernel_rfl) (by kernel_rfl) (by kernel_rfl) (by kernel_rfl) (fun _ _ _ h=>by cases h.1) hC0 (Or.inl ⟨by rfl,fun w' hC=>by have e1:=LC.out w' hC;clear hC;go_simp⟩) ?_
 simp only [Act.put,ap1,ap2,ap3]
 refine wpAnyE_ready (rs:=[2]) (by kernel_rfl) (by simp) ?_
 refine AllE.cons rfl (fun K hK=>?_) AllE.nil
 go_simp
 refine⟨trivial,rfl,(callsIn_wide.2 (kitNumber10 32 W1.drew)).mono ?_⟩
 rintro e w5 ⟨rfl,hb5⟩
 dsimp only
 have hb5':Below W1.heap.size W1 w5:=(below_drew10 W1).trans (show Below W1.heap.size W1.drew w5 from hb5)
 have hC5:Below (w.heap.size+2) W1 w5:=hb5'.mono (by omega)
 refine hK _ _ (.inr hC5) ?_
 clear hK K hC0 hb5
 try simp only [Act.put,ap1,ap2,ap3]
 refine wpAnyE_ready (rs:=[3]) (by kernel_rfl) (by simp) ?_
 refine AllE.cons rfl (fun K hK=>?_) AllE.nil
 go_simp
 refine⟨trivial,rfl,(callsIn_wide.2 (kitNumber10 1 w5)).mono ?_⟩
 rintro e w6 ⟨rfl,hb6⟩
 dsimp only
 have hb6':Below W1.heap.size W1 w6:=hb5'.trans (hb6.mono hb5'.size)
 have hC6:Below (w.heap.size+2) W1 w6:=hb6'.mono (by omega)
 refine hK _ _ (.inr hC6) ?_
 clear hK K hC5 hb6 hb5'
 try simp only [Act.put,ap1,ap2,ap3]
 refine wpAnyE_ready (rs:=[4]) (by kernel_rfl) (by simp) ?_
 refine AllE.cons rfl (fun K hK=>?_) AllE.nil
 go_simp
 generalize hWA:w6.alloc (.cells #[.int .u8 2,.int .u32 32,.string ⟨#[]⟩,.int .u8 2,.int .u32 1,.string ⟨#[]⟩] 87)=WA at *
 have hbA:Below w6.heap.size w6 WA:=by rw [← hWA];exact (Below.refl _ w6).alloc (Nat.le_refl _) _
 have hA:WA.heap[w6.heap.size]?=some (.cells #[.int .u8 2,.int .u32 32,.string ⟨#[]⟩,.int .u8 2,.int .u32 1,.string ⟨#[]⟩] 87 (0,0)):=by rw [← hWA];exact heap_alloc_new w6 _
 have hb7:=hb6'.trans (hbA.mono hb6'.size)
 have hC7:Below (w.heap.size+2) W1 WA:=hb7.mono (by omega)
 refine hK _ _ (.inr hC7) ?_
 clear hK K hC6 hWA
 try simp only [Act.put,ap1,ap2,ap3]
 refine wpAnyE_takeD (i:=5) (some 17) (v:=.agg #[.int .u16 21,.int .u32 0,.int .u32 1,.slice (some ⟨w6.heap.size,0,none⟩) 2 2]) (fun _=>trivial) (by kernel_rfl) rfl rfl (by kernel_rfl) (by kernel_rfl) (by kernel_rfl) (by kernel_rfl) (fun _ _ _ h=>by cases h.1) hC7 (Or.inl ⟨by rfl,fun w' hC=>by clear hC;go_simp⟩) ?_
 simp only [Act.put,ap1,ap2,ap3]
 refine wpAnyE_ready (rs:=[6]) (by kernel_rfl) (by simp) ?_
 refine AllE.cons rfl (fun K hK=>?_) AllE.nil
 go_simp
 generalize hWB:WA.alloc (.cells #[.int .u16 21,.int .u32 0,.int .u32 1,.slice (some ⟨w6.heap.size,0,none⟩) 2 2] 71)=WB at *
 have hbB:Below WA.heap.size WA WB:=by rw [← hWB];exact (Below.refl _ WA).alloc (Nat.le_refl _) _
 have hI:WB.heap[WA.heap.size]?=some (.cells #[.int .u16 21,.int .u32 0,.int .u32 1,.slice (some ⟨w6.heap.size,0,none⟩) 2 2] 71 (0,0)):=by rw [← hWB];exact heap_alloc_new WA _
 have hA2:=(hbB.block _ (Array.getElem?_eq_some_iff.1 hA).1).trans hA
 have hb8:=hb7.trans (hbB.mono hb7.size)
 have hC8:Below (w.heap.size+2) W1 WB:=hb8.mono (by omega)
 refine hK _ _ (.inr hC8) ?_
 clear hK K hC7 hWB
 try simp only [Act.put,ap1,ap2,ap3]
 have hs8:=hb8.size
 have N2:=World.news_of_block (cs:=#[.int .u16 21,.int .u32 0,.int .u32 1,.slice (some ⟨w6.heap.size,0,none⟩) 2 2]) (t:=71) (fr:=(0,0)) hI
 refine wpAnyE_ready (rs:=[7]) (by kernel_rfl) (by simp) ?_
 refine AllE.cons rfl (fun K hK=>?_) AllE.nil
 refine stepAny_lies _ (fun _=>trivial) rfl (.tmp 13) (.tmp 18) 23 rfl (w.heap.size+2) 71 i0 (.agg #[.int .u16 0,.int .u32 0,.int .u32 0,.slice none 0 0]) 4 40 Tryz.underlying23 HI.out.1 HI.out.2.1 HI.out.2.2.1 HI.out.2.2.2 rfl (by decide) (.slice (some ⟨g0,0,none⟩) 1 cap0) 1 cs rfl (own_below HO.out hb8) ⟨WA.heap.size,0,none⟩ 1 1 [.int .u16 21,.int .u32 0,.int .u32 1,.slice (some ⟨w6.heap.size,0,none⟩) 2 2] rfl rfl N2 (by intro u hu;simp at hu;rcases hu with rfl | rfl | rfl | rfl <;> rfl) (by decide) (by unfold maxLen;omega) (by omega) (by omega) ?_
 intro g1 cap1 w7 hown7 hgr7 hat7
 obtain⟨hC9,hSn⟩:=HM.out.more (k:=1) (x:=(21,0,1,[(2,32,⟨#[]⟩),(2,1,⟨#[]⟩)])) rfl hb8 HO.out HE.out hb6'.size (Array.getElem?_eq_some_iff.1 hA2).1 (args_two hA2) rfl hown7 hgr7 hat7
 have hS2:SmB w (.slice (some ⟨g1,0,none⟩) 2 cap1) [(14,0,0,[(4,0,⟨#[]⟩),(4,0,⟨#[]⟩)]),(21,0,1,[(2,32,⟨#[]⟩),(2,1,⟨#[]⟩)])] (w7.setCell ⟨w.heap.size+1,2,none⟩ (.slice (some ⟨g1,0,none⟩) 2 cap1)):=hSn
 clear hSn
 refine hK _ _ (.inr hC9) ?_
 clear hK K hC8 hown7 hgr7 hat7 N2 hA2 hA hI hs8 hb8 hbB hbA hb7 hb6'
 try simp only [Act.put,ap1,ap2,ap3]
 refine wpAnyE_takeD (i:=8) (some 20) (v:=.pointer (some ⟨w.heap.size+1,2,none⟩)) (fun _=>trivial) (by kernel_rfl) rfl rfl (by kernel_rfl) (by kernel_rfl) (by kernel_rfl) (by kernel_rfl) (fun _ _ _ h=>by cases h.1) hC9 (Or.inl ⟨by rfl,fun w' hC=>by clear hC;go_simp⟩) ?_
 simp only [Act.put,ap1,ap2,ap3]
 have hx7:=(hC9.block (w.heap.size+1) (by omega)).trans HM.out.xbox
 obtain⟨cx7,fx7⟩:=one_block hx7
 have y2:=cx7 2
 clear cx7
 refine wpAnyE_ready (rs:=[9]) (by kernel_rfl) (by simp) ?_
 refine AllE.cons rfl (fun K hK=>?_) AllE.nil
 go_simp
 refine hK _ _ (.inl rfl) ?_
 clear hK K hC9 y2 fx7 hx7 HO HE LC HM
 refine wpAnyE_done (by kernel_rfl) ⟨rfl,?_⟩ _
 generalize w7.setCell ⟨w.heap.size+1,2,none⟩ (.slice (some ⟨g1,0,none⟩) 2 cap1)=W2 at *
 clear hsz1
 go_wp2_with fail
 have hsz2:=hS2.size
 obtain⟨cs,hO,hE⟩:=hS2.row
 have LC:Hid (∀ w':World,Below (w.heap.size+2) W2 w'→w'.cell? ⟨w.heap.size+1,2,none⟩=some (.slice (some ⟨g1,0,none⟩) 2 cap1)):=fun w' h=>(h.cell (p:=⟨w.heap.size+1,2,none⟩) (by simp)).trans ((one_block hS2.xbox).1 2)
 have HM:=hide hS2
 have HO:Hid (W2.ownsRow (w.heap.size+2) 71 4 (.slice (some ⟨g1,0,none⟩) 2 cap1) 2 cs):=hO
 have HE:=hide hE
 have hC0:Below (w.heap.size+2) W2 W2.drew:=(below_drew10 W2).mono (by omega)
 clear hS2 hO hE
 have hmix:Tryz.prog.follows .mixedOrders=true:=by kernel_rfl
 refine (wpIn_wide (n:=0)).1 ?_
 refine wpIn_normal (wpIn_region_any hmix (wpAnyE_sound (C:=Below (w.heap.size+2) W2) (E:=fun i=>i==9) _ _ _ _ ?_))
 change wpAnyE _ _ _ _ _ _ _ _ _ _ _ (World.drew _)
 refine wpAnyE_takeD (i:=0) (some 21) (v:=.pointer (some ⟨w.heap.size+1,2,none⟩)) (fun _=>trivial) (by kernel_rfl) rfl rfl (by kernel_rfl) (by kernel_rfl) (by kernel_rfl) (by kernel_rfl) (fun _ _ _ h=>by cases h.1) hC0 (Or.inl ⟨by rfl,fun w' hC=>by clear hC;go_simp⟩) ?_
 simp only [Act.put,ap1,ap2,ap3]
 refine wpAnyE_takeD (i:=1) (some 22) (v:=.slice (some ⟨g1,0,none⟩) 2 cap1) (fun _=>trivial) (by kernel_rfl) rfl rfl (by kernel_rfl) (by kernel_rfl) (by kernel_rfl) (by kernel_rfl) (fun _ _ _ h=>by cases h.1) hC0 (Or.inl ⟨by rfl,fun w' hC=>by have e1:=LC.out w' hC;clear hC;go_simp⟩) ?_
 simp only [Act.put,ap1,ap2,ap3]
 refine wpAnyE_ready (rs:=[2]) (by kernel_rfl) (by simp) ?_
 refine AllE.cons rfl (fun K hK=>?_) AllE.nil
 go_simp
 refine⟨trivial,rfl,(callsIn_wide.2 (kitId10 1 W2.drew)).mono ?_⟩
 rintro e w5 ⟨rfl,hb5⟩
 dsimp only
 have hb5':Below W2.heap.size W2 w5:=(below_drew10 W2).trans (show Below W2.heap.size W2.drew w5 from hb5)
 have hC5:Below (w.heap.size+2) W2 w5:=hb5'.mono (by omega)
 refine hK _ _ (.inr hC5) ?_
 clear hK K hC0 hb5
 try simp only [Act.put,ap1,ap2,ap3]
 refine wpAnyE_ready (rs:=[3]) (by kernel_rfl) (by simp) ?_
 refine AllE.cons rfl (fun K hK=>?_) AllE.nil
 go_simp
 refine⟨trivial,rfl,(callsIn_wide.2 (kitNumber10 3 w5)).mono ?_⟩
 rintro e w6 ⟨rfl,hb6⟩
 dsimp only
 have hb6':Below W2.heap.size W2 w6:=hb5'.trans (hb6.mono hb5'.size)
 have hC6:Below (w.heap.size+2) W2 w6:=hb6'.mono (by omega)
 refine hK _ _ (.inr hC6) ?_
 clear hK K hC5 hb6 hb5'
 try simp only [Act.put,ap1,ap2,ap3]
 refine wpAnyE_ready (rs:=[4]) (by kernel_rfl) (by simp) ?_
 refine AllE.cons rfl (fun K hK=>?_) AllE.nil
 go_simp
 generalize hWA:w6.alloc (.cells #[.int .u8 1,.int .u32 1,.string ⟨#[]⟩,.int .u8 2,.int .u32 3,.string ⟨#[]⟩] 87)=WA at *
 have hbA:Below w6.heap.size w6 WA:=by rw [← hWA];exact (Below.refl _ w6).alloc (Nat.le_refl _) _
 have hA:WA.heap[w6.heap.size]?=some (.cells #[.int .u8 1,.int .u32 1,.string ⟨#[]⟩,.int .u8 2,.int .u32 3,.string ⟨#[]⟩] 87 (0,0)):=by rw [← hWA];exact heap_alloc_new w6 _
 have hb7:=hb6'.trans (hbA.mono hb6'.size)
 have hC7:Below (w.heap.size+2) W2 WA:=hb7.mono (by omega)
 refine hK _ _ (.inr hC7) ?_
 clear hK K hC6 hWA
 try simp only [Act.put,ap1,ap2,ap3]
 refine wpAnyE_takeD (i:=5) (some 26) (v:=.agg #[.int .u16 23,.int .u32 0,.int .u32 2,.slice (some ⟨w6.heap.size,0,none⟩) 2 2]) (fun _=>trivial) (by kernel_rfl) rfl rfl (by kernel_rfl) (by kernel_rfl) (by kernel_rfl) (by kernel_rfl) (fun _ _ _ h=>by cases h.1) hC7 (Or.inl ⟨by rfl,fun w' hC=>by clear hC;go_simp⟩) ?_
 simp only [Act.put,ap1,ap2,ap3]
 refine wpAnyE_ready (rs:=[6]) (by kernel_rfl) (by simp) ?_
 refine AllE.cons rfl (fun K hK=>?_) AllE.nil
 go_simp
 generalize hWB:WA.alloc (.cells #[.int .u16 23,.int .u32 0,.int .u32 2,.slice (some ⟨w6.heap.size,0,none⟩) 2 2] 71)=WB at *
 have hbB:Below WA.heap.size WA WB:=by rw [← hWB];exact (Below.refl _ WA).alloc (Nat.le_refl _) _
 have hI:WB.heap[WA.heap.size]?=some (.cells #[.int .u16 23,.int .u32 0,.int .u32 2,.slice (some ⟨w6.heap.size,0,none⟩) 2 2] 71 (0,0)):=by rw [← hWB];exact heap_alloc_new WA _
 have hA2:=(hbB.block _ (Array.getElem?_eq_some_iff.1 hA).1).trans hA
 have hb8:=hb7.trans (hbB.mono hb7.size)
 have hC8:Below (w.heap.size+2) W2 WB:=hb8.mono (by omega)
 refine hK _ _ (.inr hC8) ?_
 clear hK K hC7 hWB
 try simp only [Act.put,ap1,ap2,ap3]
 have hs8:=hb8.size
 have N2:=World.news_of_block (cs:=#[.int .u16 23,.int .u32 0,.int .u32 2,.slice (some ⟨w6.heap.size,0,none⟩) 2 2]) (t:=71) (fr:=(0,0)) hI
 refine wpAnyE_ready (rs:=[7]) (by kernel_rfl) (by simp) ?_
 refine AllE.cons rfl (fun K hK=>?_) AllE.nil
 refine stepAny_lies _ (fun _=>trivial) rfl (.tmp 22) (.tmp 27) 23 rfl (w.heap.size+2) 71 i0 (.agg #[.int .u16 0,.int .u32 0,.int .u32 0,.slice none 0 0]) 4 40 Tryz.underlying23 HI.out.1 HI.out.2.1 HI.out.2.2.1 HI.out.2.2.2 rfl (by decide) (.slice (some ⟨g1,0,none⟩) 2 cap1) 2 cs rfl (own_below HO.out hb8) ⟨WA.heap.size,0,none⟩ 1 1 [.int .u16 23,.int .u32 0,.int .u32 2,.slice (some ⟨w6.heap.size,0,none⟩) 2 2] rfl rfl N2 (by intro u hu;simp at hu;rcases hu with rfl | rfl | rfl | rfl <;> rfl) (by decide) (by unfold maxLen;omega) (by omega) (by omega) ?_
 intro g2 cap2 w7 hown7 hgr7 hat7
 obtain⟨hC9,hSn⟩:=HM.out.more (k:=2) (x:=(23,0,2,[(1,1,⟨#[]⟩),(2,3,⟨#[]⟩)])) rfl hb8 HO.out HE.out hb6'.size (Array.getElem?_eq_some_iff.1 hA2).1 (args_two hA2) rfl hown7 hgr7 hat7
 have hS3:SmB w (.slice (some ⟨g2,0,none⟩) 3 cap2) [(14,0,0,[(4,0,⟨#[]⟩),(4,0,⟨#[]⟩)]),(21,0,1,[(2,32,⟨#[]⟩),(2,1,⟨#[]⟩)]),(23,0,2,[(1,1,⟨#[]⟩),(2,3,⟨#[]⟩)])] (w7.setCell ⟨w.heap.size+1,2,none⟩ (.slice (some ⟨g2,0,none⟩) 3 cap2)):=hSn
 clear hSn
 refine hK _ _ (.inr hC9) ?_
 clear hK K hC8 hown7 hgr7 hat7 N2 hA2 hA hI hs8 hb8 hbB hbA hb7 hb6'
 try simp only [Act.put,ap1,ap2,ap3]
 refine wpAnyE_takeD (i:=8) (some 29) (v:=.pointer (some ⟨w.heap.size+1,2,none⟩)) (fun _=>trivial) (by kernel_rfl) rfl rfl (by kernel_rfl) (by kernel_rfl) (by kernel_rfl) (by kernel_rfl) (fun _ _ _ h=>by cases h.1) hC9 (Or.inl ⟨by rfl,fun w' hC=>by clear hC;go_simp⟩) ?_
 simp only [Act.put,ap1,ap2,ap3]
 have hx7:=(hC9.block (w.heap.size+1) (by omega)).trans HM.out.xbox
 obtain⟨cx7,fx7⟩:=one_block hx7
 have y2:=cx7 2
 clear cx7
 refine wpAnyE_ready (rs:=[9]) (by kernel_rfl) (by simp) ?_
 refine AllE.cons rfl (fun K hK=>?_) AllE.nil
 go_simp
 refine hK _ _ (.inl rfl) ?_
 clear hK K hC9 y2 fx7 hx7 HO HE LC HM
 refine wpAnyE_done (by kernel_rfl) ⟨rfl,?_⟩ _
 generalize w7.setCell ⟨w.heap.size+1,2,none⟩ (.slice (some ⟨g2,0,none⟩) 3 cap2)=W3 at *
 clear hsz2
 obtain⟨cs,hO,hE⟩:=hS3.row
 have hO':W3.ownsRow (w.heap.size+2) 71 4 (.slice (some ⟨g2,0,none⟩) 3 cap2) 3 cs:=hO
 have hV:InstsV W3 (some ⟨g2,0,none⟩) sm10:=EachW.view hE hO' rfl
 have hlo:=hO'.lt g2 rfl
 have hF:Hid (SmQ w (((W3.setCell ⟨w.heap.size,0,none⟩ (.int .u32 0)).setCell ⟨w.heap.size,1,none⟩ (.int .u32 9)).setCell ⟨w.heap.size,2,none⟩ (.slice (some ⟨g2,0,none⟩) 3 cap2)) (.returned (modV 0 9 (some ⟨g2,0,none⟩) 3 cap2))):=by
  have hE3:=((hE.set (b:=w.heap.size) (by omega) 0 (.int .u32 0)).set (b:=w.heap.size) (by omega) 1 (.int .u32 9)).set (b:=w.heap.size) (by omega) 2 (.slice (some ⟨g2,0,none⟩) 3 cap2)
  have hO3:=ownsRow_setCell_below (ownsRow_setCell_below (ownsRow_setCell_below hO' (a:=⟨w.heap.size,0,none⟩) (by simp) (.int .u32 0)) (a:=⟨w.heap.size,1,none⟩) (by simp) (.int .u32 9)) (a:=⟨w.heap.size,2,none⟩) (by simp) (.slice (some ⟨g2,0,none⟩) 3 cap2)
  exact⟨g2,cap2,rfl,EachW.view hE3 hO3 rfl,((hS3.bel.setCell (by simp) _).setCell (by simp) _).setCell (by simp) _⟩
 have HXF:=hide (three_putT hS3.rbox (.int .u32 0) (.int .u32 9) (.slice (some ⟨g2,0,none⟩) 3 cap2))
 obtain⟨x3,_⟩:=one_block hS3.xbox
 obtain⟨r3,rf3⟩:=one_block hS3.rbox
 have x30:=x3 0
 have x31:=x3 1
 have x32:=x3 2
 have r30:=r3 0
 have r31:=r3 1
 have r32:=r3 2
 clear hO hO' hE hV hlo hS3 x3 r3
 go_wp2_with fail
 generalize ((W3.setCell ⟨w.heap.size,0,none⟩ (.int .u32 0)).setCell ⟨w.heap.size,1,none⟩ (.int .u32 9)).setCell ⟨w.heap.size,2,none⟩ (.slice (some ⟨g2,0,none⟩) 3 cap2)=Z at *
 obtain⟨hd,_⟩:=one_block HXF.out
 have d0:=hd 0
 have d1:=hd 1
 have d2:=hd 2
 exact bodyPost_ret (v:=modV 0 9 (some ⟨g2,0,none⟩) 3 cap2) (by simp [results,modV,Tryz.results51,go_sem,d0,d1,d2]) rfl hF.out
end Go.Proofs.YtoebhgpciinkgaaGreatDoor

/-
  TypesNil: what is asked of no table.
-/
namespace Go.Proofs.YtoebhgpciinkgaaGreatDoor
open Go.RowKit Go.Maps
set_option linter.unusedVariables false
set_option linter.unusedSimpArgs false
set_option maxRecDepth 10000

abbrev Pow10 (w:World):Prop:=TenP w
theorem awake10_any (w:World) (h10:TenP w):Calls Tryz.prog 20 #[] w fun e w'=>e=.returned (.bool true)∧Below w.heap.size w w':=awake10_of small10_any w h10
set_option maxHeartbeats 8000000 in
theorem typesNil_true (w:World) (id:Int) (hid:(Lit.int .u32 id).wf=true) (k:Int) (hk:(Lit.int .i64 k).wf=true) (h10:TenP w) :
  Calls Tryz.prog 6 #[.int .u32 id,.int .i64 k] w fun e w'=>e=.returned (.bool true)∧Below w.heap.size w w':=by
 have h1:=tyPart_nil id k w
 have HT:=hide h10
 clear h10 hid hk
 go_enter Tryz.func6,Tryz.ntmps6
 go_wp2_with fail
 refine h1.mono ?_
 rintro e w1 ⟨rfl,hb1⟩
 have HB1:=hide hb1
 have h2:=tyClass_nil id w1
 clear h1 hb1
 go_wp2_with fail
 refine h2.mono ?_
 rintro e w2 ⟨rfl,hb2⟩
 have HB2:=hide (HB1.out.trans (hb2.mono HB1.out.size))
 have h3:=tyOffset_nil id k w2
 clear h2 hb2
 go_wp2_with fail
 refine h3.mono ?_
 rintro e w3 ⟨rfl,hb3⟩
 have HB3:=hide (HB2.out.trans (hb3.mono HB2.out.size))
 have h4:=tyText_nil id w3
 clear h3 hb3
 go_wp2_with fail
 refine h4.mono ?_
 rintro e w4 ⟨rfl,hb4⟩
 have HB4:=hide (HB3.out.trans (hb4.mono HB3.out.size))
 have h5:=tyIds_nil w4
 clear h4 hb4
 go_wp2_with fail
 refine h5.mono ?_
 rintro e w5 ⟨rfl,hb5⟩
 have HB5:=hide (HB4.out.trans (hb5.mono HB4.out.size))
 have h6:=tyKind_nil id w5
 clear h5 hb5
 go_wp2_with fail
 refine h6.mono ?_
 rintro e w6 ⟨rfl,hb6⟩
 have HB6:=hide (HB5.out.trans (hb6.mono HB5.out.size))
 have h7:=tySigned_nil id w6
 clear h6 hb6
 go_wp2_with fail
 refine h7.mono ?_
 rintro e w7 ⟨rfl,hb7⟩
 have HB7:=hide (HB6.out.trans (hb7.mono HB6.out.size))
 have h8:=tyCount_nil id w7
 clear h7 hb7
 go_wp2_with fail
 refine h8.mono ?_
 rintro e w8 ⟨rfl,hb8⟩
 have HB8:=hide (HB7.out.trans (hb8.mono HB7.out.size))
 have h9:=tySize_nil id w8
 clear h8 hb8
 go_wp2_with fail
 refine h9.mono ?_
 rintro e w9 ⟨rfl,hb9⟩
 have HB9:=hide (HB8.out.trans (hb9.mono HB8.out.size))
 have h10:=tyPlain_nil id w9
 clear h9 hb9
 go_wp2_with fail
 refine h10.mono ?_
 rintro e w10 ⟨rfl,hb10⟩
 have HB10:=hide (HB9.out.trans (hb10.mono HB9.out.size))
 have h11:=tyAlike_nil id id w10
 clear h10 hb10
 go_wp2_with fail
 refine h11.mono ?_
 rintro e w11 ⟨rfl,hb11⟩
 have HB11:=hide (HB10.out.trans (hb11.mono HB10.out.size))
 have h12:=awake10_any w11 (HT.out.below HB11.out)
 clear h11 hb11
 go_wp2_with fail
 refine h12.mono ?_
 rintro e w12 ⟨rfl,hb12⟩
 have HB12:=hide (HB11.out.trans (hb12.mono HB11.out.size))
 clear h12 hb12
 go_wp2_with fail
 go_returns
 exact⟨rfl,HB12.out⟩
end Go.Proofs.YtoebhgpciinkgaaGreatDoor

/-
  The law TypesNil holds where the three listed tables hold what the program lays in them: called with any arguments it returns true, and each argument reads behind the call as it read before.
-/
namespace Go.Proofs.YtoebhgpciinkgaaGreatDoor.typesNil
open Go.ChangeShapes Go.WideShapes Go.ChangeAt Go.RowKit
open Go.ChangeMaps (open_string shut_string)
set_option linter.unusedVariables false

theorem own:ownKnob Tryz.prog.godebug=none:=by kernel_rfl
theorem gPow:Tryz.prog.globalNamed "internal/strconv.uint64pow10"=some 0:=by kernel_rfl
theorem tPow:(Tryz.prog.globals[0]?).map (·.type)=some 217:=by kernel_rfl
theorem cPow:Tryz.prog.cellsOf 217=20:=by kernel_rfl
theorem cElem:Tryz.prog.cellsOf 144=1:=by kernel_rfl
abbrev laid3:List (String × DataW Unit):=[("math/bits.deBruijn32tab",Rows.laid_math_bits_deBruijn32tab),("math/bits.deBruijn64tab",Rows.laid_math_bits_deBruijn64tab),("internal/strconv.uint64pow10",Rows.laid_internal_strconv_uint64pow10)]
theorem door_met (os:Os) (args:Array Value):laidMetH Tryz.prog laid3 ((World.doorLaid Tryz.prog 400 os).forCall (fun _ _=>0) ⟨#[],args,[]⟩).memory :=
 laidMetH_of_parts3 (fuel:=8) (laidMet_of_run' 8 (by kernel_rfl) (by kernel_rfl)) (by kernel_rfl) (by kernel_rfl)
theorem of_laid {W:World} (h:laidMetH Tryz.prog laid3 W):Pow10 W:=by
 rw [MakeChecks.laidMetH_plain _ _ _ (by kernel_rfl)] at h
 have h3:=(laidMet.tail (laidMet.tail h))
 exact Lib.tabIs_of_head (k:=.u64) (zs:=Lib.pow10Tab) gPow tPow Tryz.underlying217 Tryz.underlying144 cElem cPow h3
set_option maxRecDepth 100000 in
theorem lifted (os:Os) (started:os.Started) (H:Type) (enc:TypeId×Value→H) :
  ReturnsInHanded {} Tryz.checked os 6 .any (fun w args=>(Rows.typesNilSpec.pre enc Tryz.prog Tryz.f6 [] false w args∧laidMetH Tryz.prog laid3 w)∧sizedMet enc Tryz.prog Tryz.f6 (OpenSpec.ofChange Rows.typesNilSpec) false w args) (Rows.typesNilSpec.post enc Tryz.prog Tryz.f6 false true false false):=by
 refine returnsInHanded_of_change_and (C:=Tryz.checked) (X:=fun w _=>laidMetH Tryz.prog laid3 w) (fun _ _ _ hh h=>h.of_heap hh) own started (by kernel_rfl) Tryz.func6
  (ChangeSpec.witness_shaped (enc:=enc) (C:=Tryz.checked) (os:=os) (X:=fun w _=>laidMetH Tryz.prog laid3 w) false (World.doorLaid Tryz.prog 400 os) #[.int .u32 0,.int .i64 0] 8 rfl (World.shaped_of_RefB (by kernel_rfl) (by kernel_rfl)) (by kernel_rfl) (by kernel_rfl) (by kernel_rfl) (door_met os _)) ?_
 intro W base args ds gs before hval0 hW _ hsz0 hL _
 have hsz:(DataW.weightsEach Tryz.prog (Tryz.f6.params.toList++Rows.typesNilSpec.plain.varTypes Tryz.prog) (ds++gs)).all (·≤reachBytes)=true:=hsz0
 clear hsz0
 have hval:∀ (j:Nat) t v,Tryz.f6.params[j]?=some t→args[j]?=some v→Value.okWide Tryz.prog W .any base t v:=hval0
 have hW':=hW
 obtain⟨p,q,hA0,hV,rfl,hfz,hnd⟩:=hW
 have hA:DataW.TrodAll enc Tryz.prog W 0 (fun _=>true) true Tryz.f6.params.toList args.toList ds p:=hA0
 rw [Tryz.params6] at hA hval hsz
 obtain⟨v0,vs0,d0,ds0,p0,q0,hargs,rfl,rfl,h0,r0⟩:=trodAll_cons hA
 obtain⟨v1,vs1,d1,ds1,p1,q1,rfl,rfl,rfl,h1,r1⟩:=trodAll_cons r0
 obtain⟨rfl,rfl,rfl⟩:=trodAll_nil r1
 obtain rfl:args=#[v0,v1]:=by cases args;simp_all
 obtain⟨rfl,rfl⟩:=trodVars_none hV
 obtain⟨a0,rfl,rfl,rfl,w0⟩:=open_int Tryz.underlying22 (hval 0 22 v0 rfl rfl) h0
 obtain⟨a1,rfl,rfl,rfl,w1⟩:=open_int Tryz.underlying3 (hval 1 3 v1 rfl rfl) h1
 clear hA0 hval0
 refine (typesNil_true W a0 w0 a1 w1 (of_laid hL)).mono fun e W' ⟨he,bel⟩=>?_
 subst he
 exact⟨_,rfl,_,_,_,[],_,[],hW',trodAll_mk1 (shut_bool Tryz.underlying4 _),(trodAll_cons_mk (shut_int Tryz.underlying22 w0) (trodAll_cons_mk (shut_int Tryz.underlying3 w1) trodAll_mk0)),rfl,bel.frame _,fun h=>by cases h⟩
theorem over:Rows.typesNilRow.holds Tryz.pinned (OpenSpec.ofChange Rows.typesNilSpec) :=
 OpenClaim.holds_of_wide 6 Tryz.f6 rfl rfl rfl rfl rfl rfl rfl ⟨rfl,rfl,rfl,rfl,rfl⟩ rfl rfl rfl rfl rfl (by kernel_rfl) Tryz.func6 (by kernel_rfl)
  (of_decide_eq_true (by kernel_rfl)) (by unfold Func.isWrapper;first | (rw [if_pos (by decide +kernel)];kernel_rfl) | (rw [if_neg (by decide +kernel)];exact⟨rfl,rfl⟩))
  (fun os started H enc _=>lifted os started H enc)
end Go.Proofs.YtoebhgpciinkgaaGreatDoor.typesNil

namespace Go.Proofs.YtoebhgpciinkgaaGreatDoor
theorem typesNil_holds:Rows.TypesNilSaid:=typesNil.over
#print axioms typesNil_holds
end Go.Proofs.YtoebhgpciinkgaaGreatDoor
