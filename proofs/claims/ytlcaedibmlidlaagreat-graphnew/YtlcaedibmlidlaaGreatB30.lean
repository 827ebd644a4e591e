/-
  Texts in one: KitCopyModule, LawGraphBlocks, Law14Merges, MathRq, MathPr, MathRc, MathRs, Law14Fresh.
-/
import Derived.Test.YtlcaedibmlidlaaGreatB29
namespace Go.Proofs.YtlcaedibmlidlaaGreat
open Go.RowKit
theorem CopyModule.info:(Tryz.prog.info? 63).map (fun i=>(i.zero,i.size,i.bytes))=some (some (.agg #[.int .u16 0,.int .u32 0,.int .u32 0,.slice none 0 0]),4,40):=by kernel_rfl
structure PartI (w : World) (g n k : Nat) (l : List InstT) : Prop where
  row : ∃ cs : Array Value, w.heap[g]? = some (.cells cs 63 (0, 0)) ∧ cs.size = n * 4
  each : ∀ j, j < k → ∃ gj nj, w.cell? ⟨g, j * 4, none⟩ = some (.int .u16 (nthI l j).1) ∧ w.cell? ⟨g, j * 4 + 1, none⟩ = some (.int .u32 (nthI l j).2.1) ∧ w.cell? ⟨g, j * 4 + 2, none⟩ = some (.int .u32 (nthI l j).2.2.1) ∧ w.cell? ⟨g, j * 4 + 3, none⟩ = some (.slice (some ⟨gj, 0, none⟩) nj nj) ∧
    (nthI l j).2.2.2.length = nj ∧ ArgsV w (some ⟨gj, 0, none⟩) (nthI l j).2.2.2 ∧ g < gj
theorem PartI.below {w w':World} {g n k:Nat} {l:List InstT} (h:PartI w g n k l) (hb:Below w.heap.size w w'):PartI w' g n k l:=by
 obtain⟨⟨cs,h1,h2⟩,h3⟩:=h
 have hg:g<w.heap.size:=(Array.getElem?_eq_some_iff.1 h1).1
 refine⟨⟨cs,by rw [hb.block g hg];exact h1,h2⟩,fun j hj=>?_⟩
 obtain⟨gj,nj,c1,c2,c3,c4,c5,c6,c7⟩:=h3 j hj
 exact⟨gj,nj,(hb.cell (p:=⟨g,j * 4,none⟩) hg).trans c1,(hb.cell (p:=⟨g,j * 4+1,none⟩) hg).trans c2,(hb.cell (p:=⟨g,j * 4+2,none⟩) hg).trans c3,(hb.cell (p:=⟨g,j * 4+3,none⟩) hg).trans c4,c5,c6.below hb,c7⟩
theorem PartI.store {w:World} {g n k:Nat} {l:List InstT} (h:PartI w g n k l) (hk:k<n) (gk nk:Nat) (hl:(nthI l k).2.2.2.length=nk) (hv:ArgsV w (some ⟨gk,0,none⟩) (nthI l k).2.2.2) (hg:g<gk) :
  PartI ((((w.setCell ⟨g,k * 4,none⟩ (.int .u16 (nthI l k).1)).setCell ⟨g,k * 4+1,none⟩ (.int .u32 (nthI l k).2.1)).setCell ⟨g,k * 4+2,none⟩ (.int .u32 (nthI l k).2.2.1)).setCell ⟨g,k * 4+3,none⟩ (.slice (some ⟨gk,0,none⟩) nk nk)) g n (k+1) l:=by
 obtain⟨⟨cs,h1,h2⟩,h3⟩:=h
 obtain⟨W,hW⟩:∃ W,W=(((w.setCell ⟨g,k * 4,none⟩ (.int .u16 (nthI l k).1)).setCell ⟨g,k * 4+1,none⟩ (.int .u32 (nthI l k).2.1)).setCell ⟨g,k * 4+2,none⟩ (.int .u32 (nthI l k).2.2.1)).setCell ⟨g,k * 4+3,none⟩ (.slice (some ⟨gk,0,none⟩) nk nk):=⟨_,rfl⟩
 have hb:W.heap[g]?=some (.cells ((((cs.setIfInBounds (k * 4) (.int .u16 (nthI l k).1)).setIfInBounds (k * 4+1) (.int .u32 (nthI l k).2.1)).setIfInBounds (k * 4+2) (.int .u32 (nthI l k).2.2.1)).setIfInBounds (k * 4+3) (.slice (some ⟨gk,0,none⟩) nk nk)) 63 (0,0)):=by
  rw [hW];simp [World.setCell,Array.getElem?_modify,h1]
 have cell:∀ j,W.cell? ⟨g,j,none⟩=((((cs.setIfInBounds (k * 4) (.int .u16 (nthI l k).1)).setIfInBounds (k * 4+1) (.int .u32 (nthI l k).2.1)).setIfInBounds (k * 4+2) (.int .u32 (nthI l k).2.2.1)).setIfInBounds (k * 4+3) (.slice (some ⟨gk,0,none⟩) nk nk))[j]?:=fun j=>by
  simp [World.cell?,hb]
 have old:∀ j,w.cell? ⟨g,j,none⟩=cs[j]?:=fun j=>by simp [World.cell?,h1]
 have far:∀ gj m,g<gj→ArgsV w (some ⟨gj,0,none⟩) m→ArgsV W (some ⟨gj,0,none⟩) m:=fun gj m hlt hm=>by
  rw [hW]
  exact args_far (args_far (args_far (args_far hm (by omega) _ _) (by omega) _ _) (by omega) _ _) (by omega) _ _
 rw [← hW]
 refine⟨⟨_,hb,by simp [h2]⟩,fun j hj=>?_⟩
 by_cases hjk:j<k
 ·obtain⟨gj,nj,c1,c2,c3,c4,c5,c6,c7⟩:=h3 j hjk
  rw [old] at c1 c2 c3 c4
  refine⟨gj,nj,?_,?_,?_,?_,c5,far _ _ c7 c6,c7⟩
  all_goals rw [cell,Array.getElem?_setIfInBounds_ne (by omega),Array.getElem?_setIfInBounds_ne (by omega),Array.getElem?_setIfInBounds_ne (by omega),Array.getElem?_setIfInBounds_ne (by omega)]
  ·exact c1
  ·exact c2
  ·exact c3
  ·exact c4
 ·obtain rfl:j=k:=by omega
  refine⟨gk,nk,?_,?_,?_,?_,hl,far _ _ hg hv,hg⟩
  ·rw [cell,Array.getElem?_setIfInBounds_ne (by omega),Array.getElem?_setIfInBounds_ne (by omega),Array.getElem?_setIfInBounds_ne (by omega),Array.getElem?_setIfInBounds_self_of_lt (by omega)]
  ·rw [cell,Array.getElem?_setIfInBounds_ne (by omega),Array.getElem?_setIfInBounds_ne (by omega),Array.getElem?_setIfInBounds_self_of_lt (by simp;omega)]
  ·rw [cell,Array.getElem?_setIfInBounds_ne (by omega),Array.getElem?_setIfInBounds_self_of_lt (by simp;omega)]
  ·rw [cell,Array.getElem?_setIfInBounds_self_of_lt (by simp;omega)]
theorem PartI.view {w:World} {g n:Nat} {l:List InstT} (h:PartI w g n n l) (hl:l.length=n):InstsV w (some ⟨g,0,none⟩) l:=by
 intro j hj
 obtain⟨gj,nj,c1,c2,c3,c4,c5,c6,c7⟩:=h.each j (by omega)
 exact⟨g,0,some ⟨gj,0,none⟩,nj,nj,rfl,World.block_lt_of_cell? _ _ c1,by rw [Nat.zero_add];exact c1,by rw [Nat.zero_add];exact c2,by rw [Nat.zero_add];exact c3,by rw [Nat.zero_add];exact c4,c5,c6,Nat.le_refl _⟩
theorem PartI.far {w:World} {g n k:Nat} {l:List InstT} (h:PartI w g n k l) {b:Nat} (hb:b<g) (i:Nat) (v:Value):PartI (w.setCell ⟨b,i,none⟩ v) g n k l:=by
 obtain⟨⟨cs,h1,h2⟩,h3⟩:=h
 have hx:(w.setCell ⟨b,i,none⟩ v).heap[g]?=w.heap[g]?:=Below.heap_setCell _ _ _ _ (by simp;omega)
 have hc:∀ j,(w.setCell ⟨b,i,none⟩ v).cell? ⟨g,j,none⟩=w.cell? ⟨g,j,none⟩:=fun j=>by simp only [World.cell?,hx]
 refine⟨⟨cs,by rw [hx];exact h1,h2⟩,fun j hj=>?_⟩
 obtain⟨gj,nj,c1,c2,c3,c4,c5,c6,c7⟩:=h3 j hj
 exact⟨gj,nj,by rw [hc];exact c1,by rw [hc];exact c2,by rw [hc];exact c3,by rw [hc];exact c4,c5,args_far c6 (by omega) _ _,c7⟩
theorem three_set3 {w:World} {B T:Nat} {z0 z1 z2:Value} (h:w.heap[B]?=some (.cells #[z0,z1,z2] T (0,0))) (u0 u1 u2:Value) :
  (((w.setCell ⟨B,0,none⟩ u0).setCell ⟨B,1,none⟩ u1).setCell ⟨B,2,none⟩ u2).heap[B]?=some (.cells #[u0,u1,u2] T (0,0)):=by
 simp only [World.setCell,Array.getElem?_modify,h];simp
theorem three_below3 (w:World) (B:Nat) (u0 u1 u2:Value):Below B w (((w.setCell ⟨B,0,none⟩ u0).setCell ⟨B,1,none⟩ u1).setCell ⟨B,2,none⟩ u2) :=
 (((Below.refl B w).setCell (Nat.le_refl _) _).setCell (Nat.le_refl _) _).setCell (Nat.le_refl _) _
set_option maxRecDepth 100000 in
set_option maxHeartbeats 4000000 in
theorem copyModule_any (gen bound:Int) (ax:Option Addr) (n cx:Nat) (l:List InstT) (w:World) (hx:InstsV w ax l) (hok:InstsOk l) (hl:l.length=n) (hn:40 * n≤140737488351232) :
  Calls Tryz.prog 10 #[modV gen bound ax n cx] w fun e w'=>∃ g,e=.returned (modV gen bound (some ⟨g,0,none⟩) n n)∧w.heap.size≤g∧InstsV w' (some ⟨g,0,none⟩) l∧Below w.heap.size w w':=by
 obtain⟨i0,hi,hz0,hz1,hz2⟩:=info_parts CopyModule.info
 unfold modV
 have HL:Hid (l.length=n):=hl
 clear hl
 go_enter Tryz.func10,Tryz.ntmps10
 go_wp2_with (at_make;refine wpList_make_full _ rfl _ _ 23 rfl (w.heap.size+2) 63 i0 (.agg #[.int .u16 0,.int .u32 0,.int .u32 0,.slice none 0 0]) 4 Tryz.underlying23 hi hz0 hz1 _ _ _ _ n rfl rfl (by omega) (by omega) (by rw [hz2];omega) (by unfold maxLen;omega) (by simp) ?_)
 intro w1 hown1 hgrow1
 have hb0:Below w.heap.size w ((w.alloc (.cells #[.int .u32 gen,.int .u32 bound,.slice ax n cx] 25)).alloc (.cells #[.int .u32 0,.int .u32 0,.slice none 0 0] 25)):=((Below.refl _ w).alloc (Nat.le_refl _) _).alloc (by simp) _
 have hb1:Below (w.heap.size+2) ((w.alloc (.cells #[.int .u32 gen,.int .u32 bound,.slice ax n cx] 25)).alloc (.cells #[.int .u32 0,.int .u32 0,.slice none 0 0] 25)) w1:=(Below.refl _ _).grown hgrow1 (by simp) (by simp)
 have hbox:w1.heap[w.heap.size]?=some (.cells #[.int .u32 gen,.int .u32 bound,.slice ax n cx] 25 (0,0)):=(hb1.block w.heap.size (by omega)).trans ((Below.heap_alloc _ _ _ (by simp)).trans (heap_alloc_new w _))
 have hres:w1.heap[w.heap.size+1]?=some (.cells #[.int .u32 0,.int .u32 0,.slice none 0 0] 25 (0,0)):=(hb1.block (w.heap.size+1) (by omega)).trans (by simpa using heap_alloc_new (w.alloc (.cells #[.int .u32 gen,.int .u32 bound,.slice ax n cx] 25)) (.cells #[.int .u32 0,.int .u32 0,.slice none 0 0] 25))
 have hP1:PartI w1 (w.heap.size+2) n 0 l:=by
  refine⟨?_,fun j hj=>by omega⟩
  rcases hown1.2 with ⟨h,_⟩ | ⟨g,cap',cur,h1,h2,h3,h4,h5,h6,_⟩
  ·simp at h
  ·simp at h1;obtain⟨rfl,rfl⟩:=h1;exact⟨cur,h3,h6⟩
 have hbw1:Below w.heap.size w w1:=hb0.trans (hb1.mono (by omega))
 clear hown1 hgrow1 hb0 hb1
 go_wp2
 go_loopw [4] (fun i wr=>∃ k:Nat,k≤n∧i=.int .i64 k∧PartI wr (w.heap.size+2) n k l∧wr.heap[w.heap.size]?=some (.cells #[.int .u32 gen,.int .u32 bound,.slice ax n cx] 25 (0,0))∧wr.heap[w.heap.size+1]?=some (.cells #[.int .u32 0,.int .u32 0,.slice none 0 0] 25 (0,0))∧Below w.heap.size w wr) (fun i _=>n - (intOf i).toNat)
 case atStart=>exact⟨0,Nat.zero_le _,rfl,hP1,hbox,hres,hbw1⟩
 case round =>
  obtain⟨k,hk,rfl,hP,hbx,hrs,hnx⟩:=hrel
  clear hP1 hbw1 hbox hres
  have hbc:wr.cell? ⟨w.heap.size,2,none⟩=some (.slice ax n cx):=by simp [World.cell?,hbx]
  have hsz:=hnx.size
  by_cases hlt:k<n
  ·obtain⟨b,off,aj,cj,nj,rfl,hbs,p1,p2,p3,p4,p5,p6,_⟩:=hx k (by rw [HL.out];exact hlt)
   have q1:=(hnx.cell (p:=⟨b,off+k * 4,none⟩) hbs).trans p1
   have q2:=(hnx.cell (p:=⟨b,off+k * 4+1,none⟩) hbs).trans p2
   have q3:=(hnx.cell (p:=⟨b,off+k * 4+2,none⟩) hbs).trans p3
   have q4:=(hnx.cell (p:=⟨b,off+k * 4+3,none⟩) hbs).trans p4
   obtain⟨cs,hr1,hr2⟩:=hP.row
   have hgl:w.heap.size+1+1<wr.heap.size:=(Array.getElem?_eq_some_iff.1 hr1).1
   obtain⟨⟨u0,d0⟩,f0⟩:=cells_can hr1 (k * 4) (by omega)
   obtain⟨⟨u1,d1⟩,f1⟩:=cells_can hr1 (k * 4+1) (by omega)
   obtain⟨⟨u2,d2⟩,f2⟩:=cells_can hr1 (k * 4+2) (by omega)
   obtain⟨⟨u3,d3⟩,f3⟩:=cells_can hr1 (k * 4+3) (by omega)
   have hki:(k:Int)<(n:Int):=by omega
   have hk0:(0:Int)≤(k:Int):=by omega
   have s1:=(hok k (by rw [HL.out];exact hlt)).2.2.2.2.2.2.2
   rw [p5] at s1
   have hC:=fun wx (hb:Below wr.heap.size wr wx)=>copyInst_any (nthI l k) aj nj cj wx ((p6.below hnx).below hb) p5 s1
   unfold instV at hC
   have hbs':b<wr.heap.size:=by omega
   have HX:Hid (wr.heap[w.heap.size]?=some (.cells #[.int .u32 gen,.int .u32 bound,.slice (some ⟨b,off,none⟩) n cx] 25 (0,0))):=hbx
   have HR:Hid _:=hrs
   have HP:Hid (PartI wr (w.heap.size+2) n k l):=hP
   have HV3:Hid ((nthI l k).2.2.2.length=nj):=p5
   clear p1 p2 p3 p4 p5 p6 hr1 hr2 hP hx hok hbx hrs s1
   go_wp2_with fail
   refine (hC _ (Below.refl _ _)).mono ?_
   rintro e w' ⟨g',rfl,hg',hvC,hbC⟩
   have e1:=(hbC.cell (p:=⟨w.heap.size+1+1,k * 4,none⟩) (by exact hgl)).trans d0
   have e2:=(hbC.cell (p:=⟨w.heap.size+1+1,k * 4+1,none⟩) (by exact hgl)).trans d1
   have e3:=(hbC.cell (p:=⟨w.heap.size+1+1,k * 4+2,none⟩) (by exact hgl)).trans d2
   have e4:=(hbC.cell (p:=⟨w.heap.size+1+1,k * 4+3,none⟩) (by exact hgl)).trans d3
   have e5:=(hbC.frozen (p:=⟨w.heap.size+1+1,k * 4,none⟩) (by exact hgl)).trans f0
   have e6:=(hbC.frozen (p:=⟨w.heap.size+1+1,k * 4+1,none⟩) (by exact hgl)).trans f1
   have e7:=(hbC.frozen (p:=⟨w.heap.size+1+1,k * 4+2,none⟩) (by exact hgl)).trans f2
   have e8:=(hbC.frozen (p:=⟨w.heap.size+1+1,k * 4+3,none⟩) (by exact hgl)).trans f3
   have hP2:=(HP.out.below hbC).store hlt g' nj HV3.out hvC (by omega)
   have hX2:=(hbC.block w.heap.size (by omega)).trans HX.out
   have hR2:=(hbC.block (w.heap.size+1) (by omega)).trans HR.out
   have hB2:=hnx.trans (hbC.mono hsz)
   have HP2:Hid _:=hP2
   have HX2:Hid _:=hX2
   have HR2:Hid _:=hR2
   have HB2:Hid _:=hB2
   clear hP2 hX2 hR2 hB2 hvC hbC HP HX HR d0 d1 d2 d3 f0 f1 f2 f3 hC
   go_wp2
   go_roundw
   case rel=>exact⟨k+1,by omega,by go_num,HP2.out,setFar1 (setFar3 HX2.out (by omega) _ _ _ _ _ _) (by omega) _ _,setFar1 (setFar3 HR2.out (by omega) _ _ _ _ _ _) (by omega) _ _,(((HB2.out.setCell (by show w.heap.size≤w.heap.size+1+1;omega) _).setCell (by show w.heap.size≤w.heap.size+1+1;omega) _).setCell (by show w.heap.size≤w.heap.size+1+1;omega) _).setCell (by show w.heap.size≤w.heap.size+1+1;omega) _⟩
   case measure=>simp [intOf];omega
  ·obtain rfl:k=n:=by omega
   obtain⟨hc,hf⟩:=block_cells hbx
   obtain⟨hc',hf'⟩:=block_cells hrs
   have c0:=hc 0
   have c1:=hc 1
   have r0:=hc' 0
   have r1:=hc' 1
   have r2:=hc' 2
   have HP:Hid _:=hP
   have HB:Hid _:=hnx
   have HX:Hid _:=hbx
   have HR:Hid _:=hrs
   clear hP hbx hrs hc hc' hx hnx
   go_wp2
   have hB3:=three_set3 (setFar1 HR.out (show w.heap.size+1≠w.heap.size by omega) 2 (.slice (some ⟨w.heap.size+1+1,0,none⟩) k k)) (.int .u32 gen) (.int .u32 bound) (.slice (some ⟨w.heap.size+1+1,0,none⟩) k k)
   have hBel:=(HB.out.setCell (p:=⟨w.heap.size,2,none⟩) (Nat.le_refl _) (.slice (some ⟨w.heap.size+1+1,0,none⟩) k k)).trans ((three_below3 (wr.setCell ⟨w.heap.size,2,none⟩ (.slice (some ⟨w.heap.size+1+1,0,none⟩) k k)) (w.heap.size+1) (.int .u32 gen) (.int .u32 bound) (.slice (some ⟨w.heap.size+1+1,0,none⟩) k k)).mono (show w.heap.size≤w.heap.size+1 by omega))
   have hV3:=(((((HP.out.far (b:=w.heap.size) (by omega) 2 (.slice (some ⟨w.heap.size+1+1,0,none⟩) k k)).far (b:=w.heap.size+1) (by omega) 0 (.int .u32 gen)).far (b:=w.heap.size+1) (by omega) 1 (.int .u32 bound)).far (b:=w.heap.size+1) (by omega) 2 (.slice (some ⟨w.heap.size+1+1,0,none⟩) k k))).view HL.out
   clear HP HB HR HX c0 c1 r0 r1 r2 hf hf'
   generalize (((wr.setCell _ _).setCell _ _).setCell _ _).setCell _ _=W at hB3 hBel hV3 ⊢
   obtain⟨hd,_⟩:=block_cells hB3
   have d0:=hd 0
   have d1:=hd 1
   have d2:=hd 2
   refine bodyPost_ret (v:=.agg #[.int .u32 gen,.int .u32 bound,.slice (some ⟨w.heap.size+1+1,0,none⟩) k k]) ?_ rfl ⟨w.heap.size+1+1,rfl,by omega,hV3,hBel⟩
   simp [results,Tryz.results10,go_sem,d0,d1,d2]
set_option linter.unusedVariables false
set_option linter.unusedSimpArgs false
set_option maxRecDepth 10000
def NqV (E1 E2:Int) (N:List (List Int)) (M:List (Int×Int×Int)) (X:World) (lo:Nat) (gv mv:Value):Prop :=
 (E1≠0∧gv=.pointer none∧mv=.slice none 0 0)∨(E1=0∧E2=0∧∃ p,gv=.pointer (some ⟨p,0,none⟩)∧GrV X lo p N∧X.ownsRow lo 96 3 mv M.length (M.flatMap mgC))
theorem mgC_get:∀ (ms:List (Int×Int×Int)) (k i:Nat),k<ms.length→i<3→(ms.flatMap mgC)[k * 3+i]?=(mgC (ms.getD k (0,0,0)))[i]?
 | [],k,i,h,_=>absurd h (Nat.not_lt_zero k)
 | b :: ms,0,i,h,hi=>by rw [List.flatMap_cons,List.getElem?_append_left (by show _<3;omega)];simp
 | b :: ms,k+1,i,h,hi=>by
  rw [List.flatMap_cons,List.getElem?_append_right (by show 3≤_;omega)]
  have:=mgC_get ms k i (by simpa using h) hi
  rw [show (k+1) * 3+i - (mgC b).length=k * 3+i by show _ - 3=_;omega,this]
  simp
theorem mgRead {w:World} {lo:Nat} {mv:Value} {ms:List (Int×Int×Int)} (h:w.ownsRow lo 96 3 mv ms.length (ms.flatMap mgC)) (hp:0<ms.length):∃ gm cm,mv=.slice (some ⟨gm,0,none⟩) ms.length cm∧gm<w.heap.size∧∀ k,k<ms.length→w.cell? ⟨gm,k * 3,none⟩=some (.int .u8 (ms.getD k (0,0,0)).1)∧w.cell? ⟨gm,k * 3+1,none⟩=some (.int .i64 (ms.getD k (0,0,0)).2.1)∧w.cell? ⟨gm,k * 3+2,none⟩=some (.int .i64 (ms.getD k (0,0,0)).2.2):=by
 obtain⟨G,c2,e2,k1,k2,k3,k4,k5⟩:=own_form h hp
 refine⟨G,c2,e2,k2,fun k hk=>?_⟩
 have hc2:∀ i,i<3→w.cell? ⟨G,k * 3+i,none⟩=(mgC (ms.getD k (0,0,0)))[i]?:=fun i hi=>by
  rw [k5 _ (by omega),mgC_get _ k i hk hi]
 exact⟨hc2 0 (by omega),hc2 1 (by omega),hc2 2 (by omega)⟩
def MgV (w:World) (x:Option Addr) (ms:List (Int×Int×Int)):Prop :=
 ∀ k,k<ms.length→∃ G,x=some ⟨G,0,none⟩∧G<w.heap.size∧w.cell? ⟨G,k * 3,none⟩=some (.int .u8 (ms.getD k (0,0,0)).1)∧w.cell? ⟨G,k * 3+1,none⟩=some (.int .i64 (ms.getD k (0,0,0)).2.1)∧w.cell? ⟨G,k * 3+2,none⟩=some (.int .i64 (ms.getD k (0,0,0)).2.2)
theorem MgV.ofOwn {w:World} {lo:Nat} {mv:Value} {ms:List (Int×Int×Int)} (h:w.ownsRow lo 96 3 mv ms.length (ms.flatMap mgC)):∃ x c,mv=.slice x ms.length c∧MgV w x ms:=by
 by_cases hp:0<ms.length
 ·obtain⟨gm,cm,e,h1,h2⟩:=mgRead h hp
  exact⟨_,_,e,fun k hk=>⟨gm,rfl,h1,h2 k hk⟩⟩
 ·obtain⟨a,c,e⟩:=own_shapeG h
  exact⟨a,c,e,fun k hk=>absurd (Nat.lt_of_le_of_lt (Nat.zero_le k) hk) hp⟩
set_option maxHeartbeats 4000000 in
theorem merges_same (x y:Option Addr) (c d nb:Nat) (ms:List (Int×Int×Int)) (w:World) (hx:MgV w x ms) (hy:MgV w y ms) (hn:ms.length=nb) (hb:nb≤1048576) :
  Calls Tryz.prog 14 #[.slice x nb c,.slice y nb d] w fun e w'=>e=.returned (.bool true)∧Below w.heap.size w w':=by
 have HX:=hide hx
 have HY:=hide hy
 have HN:=hide hn
 have HB:=hide hb
 clear hx hy hn hb
 go_enter Tryz.func14,Tryz.ntmps14
 go_wp2_with fail
 go_loopw [5] (fun i wr=>∃ k:Nat,k≤nb∧i=.int .i64 k∧Below w.heap.size w wr) (fun i _=>nb - (intOf i).toNat)
 case atStart=>exact⟨0,Nat.zero_le _,rfl,Below.refl _ _⟩
 case round =>
  obtain⟨k,hk,rfl,hbr⟩:=hrel
  generalize hwz:wr=wz at *
  clear hwz
  have HBR:=hide hbr
  by_cases hlt:k<nb
  ·have hkl:k<ms.length:=by rw [HN.out];exact hlt
   obtain⟨G,rfl,hG,p0,p1,p2⟩:=HX.out k hkl
   obtain⟨J,rfl,hJ,r0,r1,r2⟩:=HY.out k hkl
   generalize ms.getD k (0,0,0)=m at *
   obtain⟨m0,m1,m2⟩:=m
   simp only at p0 p1 p2 r0 r1 r2
   have hki:(k:Int)<(nb:Int):=by omega
   have hk0:(0:Int)≤(k:Int):=by omega
   have HLT:=hide hlt
   have LC:Hid (∀ w':World,Below w.heap.size w w'→w'.cell? ⟨G,k * 3,none⟩=some (.int .u8 m0)∧w'.cell? ⟨G,k * 3+1,none⟩=some (.int .i64 m1)∧w'.cell? ⟨G,k * 3+2,none⟩=some (.int .i64 m2)∧w'.cell? ⟨J,k * 3,none⟩=some (.int .u8 m0)∧w'.cell? ⟨J,k * 3+1,none⟩=some (.int .i64 m1)∧w'.cell? ⟨J,k * 3+2,none⟩=some (.int .i64 m2)):=fun w' h =>
    ⟨(h.cell (p:=⟨G,k * 3,none⟩) hG).trans p0,(h.cell (p:=⟨G,k * 3+1,none⟩) hG).trans p1,(h.cell (p:=⟨G,k * 3+2,none⟩) hG).trans p2,(h.cell (p:=⟨J,k * 3,none⟩) hJ).trans r0,(h.cell (p:=⟨J,k * 3+1,none⟩) hJ).trans r1,(h.cell (p:=⟨J,k * 3+2,none⟩) hJ).trans r2⟩
   clear p0 p1 p2 r0 r1 r2 hG hJ hkl hk hlt hbr
   go_wp2_with fail
   have hC0:Below w.heap.size w wz.drew:=HBR.out.drew
   have hmix:Tryz.prog.follows .mixedOrders=true:=by kernel_rfl
   refine (wpIn_wide (n:=0)).1 ?_
   refine wpIn_normal (wpIn_region_any hmix (wpAnyE_sound (C:=Below w.heap.size w) (E:=fun _=>false) _ _ _ _ ?_))
   change wpAnyE _ _ _ _ _ _ _ _ _ _ _ (World.drew _)
   refine wpAnyE_takeD (i:=0) (some 17) (v:=(.slice (some ⟨G,0,none⟩) nb c)) (fun _=>trivial) (by kernel_rfl) rfl rfl (by kernel_rfl) (by kernel_rfl) (by kernel_rfl) (by kernel_rfl) (fun _ _ _ h=>by cases h.1) hC0 (Or.inl ⟨by kernel_rfl,fun w' hC=>by obtain⟨e1,e2,e3,e4,e5,e6⟩:=LC.out w' hC;clear hC;go_simp⟩) ?_
   simp only [Act.put,ap1,ap2,ap3]
   refine wpAnyE_takeD (i:=1) (some 18) (v:=(.int .i64 (k:Int))) (fun _=>trivial) (by kernel_rfl) rfl rfl (by kernel_rfl) (by kernel_rfl) (by kernel_rfl) (by kernel_rfl) (fun _ _ _ h=>by cases h.1) hC0 (Or.inl ⟨by kernel_rfl,fun w' hC=>by obtain⟨e1,e2,e3,e4,e5,e6⟩:=LC.out w' hC;clear hC;go_simp⟩) ?_
   simp only [Act.put,ap1,ap2,ap3]
   refine wpAnyE_takeD (i:=2) (some 19) (v:=(.pointer (some ⟨G,k * 3,none⟩))) (fun _=>trivial) (by kernel_rfl) rfl rfl (by kernel_rfl) (by kernel_rfl) (by kernel_rfl) (by kernel_rfl) (fun _ _ _ h=>by cases h.1) hC0 (Or.inl ⟨by kernel_rfl,fun w' hC=>by obtain⟨e1,e2,e3,e4,e5,e6⟩:=LC.out w' hC;clear hC;go_simp⟩) ?_
   simp only [Act.put,ap1,ap2,ap3]
   refine wpAnyE_takeD (i:=3) (some 20) (v:=(.agg #[.int .u8 m0,.int .i64 m1,.int .i64 m2])) (fun _=>trivial) (by kernel_rfl) rfl rfl (by kernel_rfl) (by kernel_rfl) (by kernel_rfl) (by kernel_rfl) (fun _ _ _ h=>by cases h.1) hC0 (Or.inl ⟨by kernel_rfl,fun w' hC=>by obtain⟨e1,e2,e3,e4,e5,e6⟩:=LC.out w' hC;clear hC;go_simp⟩) ?_
   simp only [Act.put,ap1,ap2,ap3]
   refine wpAnyE_takeD (i:=4) (some 21) (v:=(.slice (some ⟨J,0,none⟩) nb d)) (fun _=>trivial) (by kernel_rfl) rfl rfl (by kernel_rfl) (by kernel_rfl) (by kernel_rfl) (by kernel_rfl) (fun _ _ _ h=>by cases h.1) hC0 (Or.inl ⟨by kernel_rfl,fun w' hC=>by obtain⟨e1,e2,e3,e4,e5,e6⟩:=LC.out w' hC;clear hC;go_simp⟩) ?_
   simp only [Act.put,ap1,ap2,ap3]
   refine wpAnyE_takeD (i:=5) (some 22) (v:=(.int .i64 (k:Int))) (fun _=>trivial) (by kernel_rfl) rfl rfl (by kernel_rfl) (by kernel_rfl) (by kernel_rfl) (by kernel_rfl) (fun _ _ _ h=>by cases h.1) hC0 (Or.inl ⟨by kernel_rfl,fun w' hC=>by obtain⟨e1,e2,e3,e4,e5,e6⟩:=LC.out w' hC;clear hC;go_simp⟩) ?_
   simp only [Act.put,ap1,ap2,ap3]
   refine wpAnyE_takeD (i:=6) (some 23) (v:=(.pointer (some ⟨J,k * 3,none⟩))) (fun _=>trivial) (by kernel_rfl) rfl rfl (by kernel_rfl) (by kernel_rfl) (by kernel_rfl) (by kernel_rfl) (fun _ _ _ h=>by cases h.1) hC0 (Or.inl ⟨by kernel_rfl,fun w' hC=>by obtain⟨e1,e2,e3,e4,e5,e6⟩:=LC.out w' hC;clear hC;go_simp⟩) ?_
   simp only [Act.put,ap1,ap2,ap3]
   refine wpAnyE_takeD (i:=7) (some 24) (v:=(.agg #[.int .u8 m0,.int .i64 m1,.int .i64 m2])) (fun _=>trivial) (by kernel_rfl) rfl rfl (by kernel_rfl) (by kernel_rfl) (by kernel_rfl) (by kernel_rfl) (fun _ _ _ h=>by cases h.1) hC0 (Or.inl ⟨by kernel_rfl,fun w' hC=>by obtain⟨e1,e2,e3,e4,e5,e6⟩:=LC.out w' hC;clear hC;go_simp⟩) ?_
   simp only [Act.put,ap1,ap2,ap3]
   refine wpAnyE_takeD (i:=8) (some 25) (v:=(.bool false)) (fun _=>trivial) (by kernel_rfl) rfl rfl (by kernel_rfl) (by kernel_rfl) (by kernel_rfl) (by kernel_rfl) (fun _ _ _ h=>by cases h.1) hC0 (Or.inl ⟨by kernel_rfl,fun w' hC=>by obtain⟨e1,e2,e3,e4,e5,e6⟩:=LC.out w' hC;clear hC;go_simp⟩) ?_
   simp only [Act.put,ap1,ap2,ap3]
   refine wpAnyE_done (by kernel_rfl) ⟨rfl,?_⟩ _
   rw [then_normalLd]
   have hw:=wrapJ HLT.out HB.out
   clear hC0 LC hmix
   go_wp2_with fail
   exact⟨⟨k+1,HLT.out,by rw [hw];simp,HBR.out.drew⟩,by rw [hw];exact measZ2 HLT.out⟩
  ·have e:k=nb:=by omega
   subst e
   clear hlt hk hbr
   go_wp2_with fail
   go_ret
   exact⟨rfl,HBR.out⟩


def SameP (l m:List InstT):Prop:=l.length=m.length∧∀ k,(nthI m k).1=(nthI l k).1∧partI (nthI m k)=partI (nthI l k)
theorem SameP.over {l m:List InstT} (h:SameP l m) (p:Int):∀ k,overP m p k=overP l p k
 | 0=>rfl
 | k+1=>by rw [overP,overP,h.over p k,(h.2 k).2]
theorem SameP.block {l m:List InstT} (h:SameP l m):∀ k,blockAt m k=blockAt l k
 | 0=>rfl
 | k+1=>by rw [blockAt,blockAt,h.block k,(h.2 _).1]
theorem SameP.first {l m:List InstT} (h:SameP l m) (k:Nat):firstB m k=firstB l k:=by
 unfold firstB;rw [h.block k,(h.2 _).1]

def GrQ (w:World) (lo:Nat) (gv:Value) (N:List (List Int)):Prop :=
 (gv=.pointer none∧N=[])∨∃ p,gv=.pointer (some ⟨p,0,none⟩)∧GrV w lo p N
theorem GrQ.row {w:World} {lo:Nat} {gv:Value} {N:List (List Int)} (h:GrQ w lo gv N) (i:Int):(nextL N i).length≤4096:=by
 unfold nextL
 split
 ·rcases h with ⟨_,rfl⟩ | ⟨p,_,h2⟩
  ·simp [rowN]
  ·exact h2.rows _
 ·exact Nat.zero_le _
def NewP (w w':World) (E1 E2:Int) (N:List (List Int)) (M:List (Int×Int×Int)) (e:Ending):Prop :=
 Below w.heap.size w w'∧∃ gv mv,e=.returned (.tuple #[gv,mv,.agg #[.int .i64 E1,.int .i64 E2]])∧NqV E1 E2 N M w' w.heap.size gv mv
theorem newP_of {w w':World} {b:Int} {l:List InstT} {f:FuncT} {e:Ending} (h:NewQ w w' b l f e):NewP w w' (newE b l f).1 (newE b l f).2 ((newN l f).map onceF) (newM l f) e:=h
theorem newP_as {w w':World} {b:Int} {l:List InstT} {f:FuncT} {e:Ending} {E1 E2:Int} {N:List (List Int)} {M:List (Int×Int×Int)} (h:NewQ w w' b l f e) (h1:newE b l f=(E1,E2)) (h2:newN l f=N) (h3:newM l f=M):NewP w w' E1 E2 (N.map onceF) M e:=by
 have:=newP_of h
 rw [h1,h2,h3] at this
 exact this
end Go.Proofs.YtlcaedibmlidlaaGreat
