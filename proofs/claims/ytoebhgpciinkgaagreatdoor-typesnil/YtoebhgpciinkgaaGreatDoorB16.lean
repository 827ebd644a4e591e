/-
  Texts in one: TypesRead3.
-/
import Derived.Test.YtoebhgpciinkgaaGreatDoorB15
namespace Go.Proofs.YtoebhgpciinkgaaGreatDoor
open Go.RowKit Go.Maps
set_option linter.unusedVariables false
set_option linter.unusedSimpArgs false
set_option maxRecDepth 10000
set_option maxHeartbeats 4000000 in
theorem pointer_any {B q p mb nb kb n:Nat} {t:List TyR} {nf:Int→Option Int} {kf:List UInt8→Bool} {ov:Value} {f:Int→Value} (cl id:Int) (w:World) (hB:BdB w B q p mb nb kb n t nf kf ov f) (i0:0≤id) (i1:id<4294967296) :
  Calls Tryz.prog 98 #[.pointer (some ⟨q,0,none⟩),.int .u32 cl,.int .u32 id] w fun e w'=>ReadQ w.heap.size w w' (if plainT t id=false then (100,noTy) else (0,⟨0,7,false,cl,1,[id],0,0⟩)) e:=by
 unfold ReadQ
 have hE0:=EntB.new w (.int .u8 0) (.int .i64 0) (.int .i64 0) (.int .i64 0) (.bool false) (.int .u32 0) (.slice none 0 0)
 have hbx:Below w.heap.size w (w.alloc (.cells #[.int .u8 0,.int .i64 0,.int .i64 0,.int .i64 0,.bool false,.int .u32 0,.slice none 0 0] 98)):=(Below.refl _ w).alloc (Nat.le_refl _) _
 have HBX:=hide hbx
 have hlx:w.heap.size<(w.alloc (.cells #[.int .u8 0,.int .i64 0,.int .i64 0,.int .i64 0,.bool false,.int .u32 0,.slice none 0 0] 98)).heap.size:=by simp
 have hB0:=hB.below hbx
 have q0:=hB0.cells.1
 have hP:=tyPlain_any id _ hB0.tab i0 i1
 clear hB hB0 hbx hlx
 by_cases h1:plainT t id=false
 ·rw [if_pos h1]
  rw [h1] at hP
  clear h1
  go_enter Tryz.func98,Tryz.ntmps98
  go_wp2_with (first | (go_at_call 33;refine hP.mono ?_;rintro e w1 ⟨rfl,hb1⟩;have hE1:=hE0.below hb1) | (with_reducible refine stopS 98 ?_))
  refine wpList_storeE rfl (.tmp 6) (.tmp 16) rfl w.heap.size _ _ rfl rfl hE1 (IsE.entry _ _ _ _ _ _ _ _ _) ?_
  intro w2 hE2 hg2 hs2
  clear hE1
  go_wp2_with fail
  try simp only [Exit.inBlock,Exit.then]
  refine bodyPost_ret (res_entry Tryz.results98 _ _ _ _ _ rfl rfl hE2) rfl ?_
  exact⟨_,rfl,EntV.nothing _ _,below_store (HBX.out.trans (hb1.mono HBX.out.size)) (Nat.le_refl _) hg2⟩
 ·rw [if_neg h1]
  have h1':plainT t id=true:=by simpa using h1
  rw [h1'] at hP
  clear h1 h1'
  go_enter Tryz.func98,Tryz.ntmps98
  go_wp2_with (first | (go_at_call 33;refine hP.mono ?_;rintro e w1 ⟨rfl,hb1⟩;have hE1:=hE0.below hb1) | (go_at_call 121;refine (listed_any _ _ _ _ _).mono ?_;rintro e w2 ⟨rfl,hb2⟩;have hE2:=(hE1.below ((Below.refl _ w1).alloc (Nat.le_refl _) (.cells #[.int .u32 id] 22))).below hb2) | (with_reducible refine stopS 98 ?_))
  have hbA:Below w1.heap.size w1 (w1.alloc (.cells #[.int .u32 id] 22)):=(Below.refl _ w1).alloc (Nat.le_refl _) _
  have hvw:View .u32 (w1.alloc (.cells #[.int .u32 id] 22)) (some ⟨w1.heap.size,0,none⟩) [id]:=fun j hj=>by
   have hj0:j=0:=by have:j<1:=hj;omega
   subst hj0
   refine⟨_,_,rfl,by simp,?_⟩
   have e1:=heap_alloc_new w1 (.cells #[.int .u32 id] 22)
   simp only [World.cell?,e1]
   rfl
  have hvw2:=hvw.below hb2
  have hlt1:=hE1.lt
  have hs12:w1.heap.size<w2.heap.size:=by have:=hb2.size;rw [World.size_alloc] at this;omega
  refine wpList_storeE rfl (.tmp 8) (.tmp 19) rfl w2.heap.size _ _ rfl rfl (EntB.new w2 (.int .u8 0) (.int .i64 0) (.int .i64 0) (.int .i64 0) (.bool false) (.int .u32 0) (.slice none 0 0)) (IsE.entry _ _ _ _ _ _ _ _ _) ?_
  intro w3 hE3 hg3 hs3
  have hk:=hE3.cell
  have hbN:Below w2.heap.size w2 (w2.alloc (.cells #[.int .u8 0,.int .i64 0,.int .i64 0,.int .i64 0,.bool false,.int .u32 0,.slice none 0 0] 98)):=(Below.refl _ w2).alloc (Nat.le_refl _) _
  have hb3:Below w2.heap.size w2 w3:=hbN.grown hg3 (by simp) (fun k e=>by cases e;exact Nat.le_refl _)
  have hb4:=hb3.setCell (p:=⟨w2.heap.size,5,none⟩) (Nat.le_refl _) (.int .u32 cl)
  have hE4:=hE2.below hb4
  have HVW:=hide (hvw2.below hb4)
  have HLT:=hide (And.intro hlt1 (And.intro hs12 hb4.size))
  have HB4:=hide ((HBX.out.trans (hb1.mono HBX.out.size)).trans (((hbA.trans (hb2.mono hbA.size)).trans (hb4.mono (Nat.le_of_lt hs12))).mono (Nat.le_of_lt hlt1)))
  obtain⟨hc,hf⟩:=one_block hk
  have c0:=hc 0
  have c1:=hc 1
  have c2:=hc 2
  have c3:=hc 3
  have c4:=hc 4
  have c5:=hc 5
  have c6:=hc 6
  have f5:=hf 5
  clear hc hf hk hE3 hg3 hs3 hbN hb3 hb4 hvw hvw2 hbA hb1 hb2 hE0 hE1 hE2 hlt1 hs12
  go_wp2_with (with_reducible refine stopS 98 ?_)
  clear c0 c1 c2 c3 c4 c5 c6 f5
  refine wpList_storeE rfl (.tmp 6) (.tmp 22) rfl w.heap.size _ _ rfl rfl hE4 (IsE.entry _ _ _ _ _ _ _ _ _) ?_
  intro w5 hE5 hg5 hs5
  clear hE4
  go_wp2_with fail
  try simp only [Exit.inBlock,Exit.then]
  refine bodyPost_ret (res_entry Tryz.results98 _ _ _ _ _ rfl rfl hE5) rfl ?_
  refine⟨_,rfl,⟨some ⟨w1.heap.size,0,none⟩,1,rfl,HVW.out.keptAt hg5.size (fun b o e=>?_),Nat.le_refl _,fun b o e=>?_⟩,below_store HB4.out (Nat.le_refl _) hg5⟩
  ·cases e
   exact hg5.block _ (Nat.lt_of_lt_of_le HLT.out.2.1 HLT.out.2.2) (fun e=>by have:=HLT.out.1;simp only [Option.some.injEq] at e;omega)
  ·cases e
   exact Nat.le_of_lt HLT.out.1
set_option maxHeartbeats 4000000 in
theorem handed_any {B q p mb nb kb n:Nat} {t:List TyR} {nf:Int→Option Int} {kf:List UInt8→Bool} {ov:Value} {f:Int→Value} (id:Int) (w:World) (hB:BdB w B q p mb nb kb n t nf kf ov f) (i0:0≤id) (i1:id<4294967296) :
  Calls Tryz.prog 122 #[.pointer (some ⟨q,0,none⟩),.int .u32 id] w fun e w'=>e=.returned (.bool (handT t id))∧Below w.heap.size w w':=by
 have hql:q<w.heap.size:=(Array.getElem?_eq_some_iff.1 hB.blk).1
 have q0:=hB.cells.1
 have hP:=fun wy (hy:Below w.heap.size w wy)=>tyPlain_any id wy (hB.tab.below hy) i0 i1
 have hK:=fun wy (hy:Below w.heap.size w wy)=>tyKind_any id wy (hB.tab.below hy) i0 i1
 have hD:handT t id=(plainT t id || ((kindT t id:Int)==7)):=by
  unfold handT
  congr 1
  by_cases h:kindT t id=7
  ·rw [h];rfl
  ·rw [decide_eq_false h];symm;simp;omega
 rw [hD]
 clear hB hD
 generalize (kindT t id:Int)=K at *
 cases hp:plainT t id with
 | true =>
  rw [hp] at hP
  clear hp hK
  go_enter Tryz.func122,Tryz.ntmps122
  go_wp2_with (go_at_call 33;refine (hP _ (by first | exact Below.refl _ _ | exact (Below.refl _ _).drew)).mono ?_;rintro e w1 ⟨rfl,hb1⟩)
  go_ret
  exact⟨rfl,hb1⟩
 | false =>
  rw [hp] at hP
  clear hp
  go_enter Tryz.func122,Tryz.ntmps122
  go_wp2_with (first | (go_at_call 33;refine (hP _ (by first | exact Below.refl _ _ | exact (Below.refl _ _).drew)).mono ?_;rintro e w1 ⟨rfl,hb1⟩;have q1:=(hb1.cell (p:=⟨q,0,none⟩) hql).trans q0) | (go_at_call 29;refine (hK _ hb1).mono ?_;rintro e w2 ⟨rfl,hb2⟩))
  go_ret
  exact⟨by simp,hb1.trans (hb2.mono hb1.size)⟩
set_option maxHeartbeats 8000000 in
theorem function_any {B q p mb nb kb n:Nat} {t:List TyR} {nf:Int→Option Int} {kf:List UInt8→Bool} {ov:Value} {f:Int→Value} (b off m c:Nat) (ids:List Int) (w:World) (N:Nat) (hB:BdB w B q p mb nb kb n t nf kf ov f) (hv:View .u32 w (some ⟨b,off,none⟩) ids) (hl:ids.length=m) (hc:m≤c) (hN:N≤b∧b<w.heap.size) (hr:∀ z∈ids,0≤z∧z<4294967296) (hm:m<65536) (h1m:1≤m) :
  Calls Tryz.prog 99 #[.pointer (some ⟨q,0,none⟩),.slice (some ⟨b,off,none⟩) m c] w fun e w'=>ReadQ N w w' (if backT t (nth ids 0)=false then (100,noTy) else if (ids.drop 1).all (handT t)=false then (100,noTy) else (0,⟨0,8,false,0,ids.length,ids,0,0⟩)) e:=by
 unfold ReadQ
 have hE0:=EntB.new w (.int .u8 0) (.int .i64 0) (.int .i64 0) (.int .i64 0) (.bool false) (.int .u32 0) (.slice none 0 0)
 have hbx:Below w.heap.size w (w.alloc (.cells #[.int .u8 0,.int .i64 0,.int .i64 0,.int .i64 0,.bool false,.int .u32 0,.slice none 0 0] 98)):=(Below.refl _ w).alloc (Nat.le_refl _) _
 have HBX:=hide hbx
 have hlx:w.heap.size<(w.alloc (.cells #[.int .u8 0,.int .i64 0,.int .i64 0,.int .i64 0,.bool false,.int .u32 0,.slice none 0 0] 98)).heap.size:=by simp
 have hB0:=hB.below hbx
 have q0:=hB0.cells.1
 have hv0:=hv.below hbx
 have hql:q<(w.alloc (.cells #[.int .u8 0,.int .i64 0,.int .i64 0,.int .i64 0,.bool false,.int .u32 0,.slice none 0 0] 98)).heap.size:=(Array.getElem?_eq_some_iff.1 hB0.blk).1
 have hA:=fun wy (hy:Below (w.alloc (.cells #[.int .u8 0,.int .i64 0,.int .i64 0,.int .i64 0,.bool false,.int .u32 0,.slice none 0 0] 98)).heap.size (w.alloc (.cells #[.int .u8 0,.int .i64 0,.int .i64 0,.int .i64 0,.bool false,.int .u32 0,.slice none 0 0] 98)) wy)=>allOf_any 122 (.pointer (some ⟨q,0,none⟩)) (handT t) (if c=1 then some ⟨b,off,none⟩ else some ⟨b,off+1,none⟩) (m - 1) (c - 1) (ids.drop 1) wy Tryz.call122 (fun j hj wx hx=>by
  have hjl:j<(ids.drop 1).length:=by rw [List.length_drop,hl];exact hj
  have hz:=hr (nth (ids.drop 1) j) (List.mem_of_mem_drop (nth_memR (ids.drop 1) j hjl))
  exact handed_any _ wx ((hB0.below hy).below hx) hz.1 hz.2) (by by_cases e:c=1;(intro j hj;rw [List.length_drop] at hj;omega);(rw [if_neg e];exact (hv0.below hy).drop 1)) (by rw [List.length_drop,hl]) (by omega)
 obtain⟨bb,oo,e1,hbl,hc0⟩:=hv0 0 (by omega)
 cases e1
 rw [Nat.add_zero] at hc0
 have hz0:=hr (nth ids 0) (nth_memR ids 0 (by omega))
 have hK:=fun wy (hy:Below (w.alloc (.cells #[.int .u8 0,.int .i64 0,.int .i64 0,.int .i64 0,.bool false,.int .u32 0,.slice none 0 0] 98)).heap.size (w.alloc (.cells #[.int .u8 0,.int .i64 0,.int .i64 0,.int .i64 0,.bool false,.int .u32 0,.slice none 0 0] 98)) wy)=>tyKind_any (nth ids 0) wy (hB0.tab.below hy) hz0.1 hz0.2
 have hP:=fun wy (hy:Below (w.alloc (.cells #[.int .u8 0,.int .i64 0,.int .i64 0,.int .i64 0,.bool false,.int .u32 0,.slice none 0 0] 98)).heap.size (w.alloc (.cells #[.int .u8 0,.int .i64 0,.int .i64 0,.int .i64 0,.bool false,.int .u32 0,.slice none 0 0] 98)) wy)=>tyPlain_any (nth ids 0) wy (hB0.tab.below hy) hz0.1 hz0.2
 have HV:=hide hv
 have HN:=hide hN
 have HM:Hid (ids.length=m∧m≤c∧ids≠[]):=⟨hl,hc,fun e=>by rw [e] at hl;simp at hl;omega⟩
 have g0:(0:Int)<m:=by omega
 have g0n:0<m:=h1m
 have g5:m≤c:=hc
 have g1:(1:Int)≤m:=by omega
 have g2:(m:Int)≤c:=by omega
 have g3:((m:Int) - 1)=((m - 1:Nat):Int):=by omega
 have g4:((c:Int) - 1)=((c - 1:Nat):Int):=by omega
 rw [hl]
 unfold backT
 clear hB hB0 hbx hlx hv hv0 hr hN hz0 hbl hl
 generalize hx0:nth ids 0=id0 at *
 clear hx0
 by_cases h1:kindT t id0=1
 ·rw [if_neg (by simp [h1])]
  rw [h1] at hK
  clear hP h1
  cases hall:(ids.drop 1).all (handT t) with
  | false =>
   rw [if_pos rfl]
   rw [hall] at hA
   clear hall
   go_enter Tryz.func99,Tryz.ntmps99
   go_wp2_with fail
   go_region_with (fail)
   generalize hAA:(if c=1 then some (⟨b,off,none⟩:Addr) else some ⟨b,off+1,none⟩)=AA at *
   clear hAA
   go_wp2_with (first | (go_at_call 29;refine (hK _ (Below.refl _ _).drew).mono ?_;rintro e w1 ⟨rfl,hb1⟩;have hb1':=((Below.refl _ (w.alloc (.cells #[.int .u8 0,.int .i64 0,.int .i64 0,.int .i64 0,.bool false,.int .u32 0,.slice none 0 0] 98))).drew).trans hb1;have q1:=(hb1'.cell (p:=⟨q,0,none⟩) hql).trans q0;have hE1:=hE0.below hb1') | (go_at_call 120;refine (hA _ hb1').mono ?_;rintro e w3 ⟨rfl,hb3⟩;have hb3':=hb1'.trans (hb3.mono hb1'.size);have hE3:=hE0.below hb3') | (with_reducible refine stopS 98 ?_))
   refine wpList_storeE rfl (.tmp 4) (.tmp 35) rfl w.heap.size _ _ rfl rfl hE3 (IsE.entry _ _ _ _ _ _ _ _ _) ?_
   intro w5 hE5 hg5 hs5
   clear hE3
   go_wp2_with fail
   try simp only [Exit.inBlock,Exit.then]
   refine bodyPost_ret (res_entry Tryz.results99 _ _ _ _ _ rfl rfl hE5) rfl ?_
   exact⟨_,rfl,EntV.nothing _ _,below_store (HBX.out.trans (hb3'.mono HBX.out.size)) (Nat.le_refl _) hg5⟩
  | true =>
   rw [if_neg (by simp)]
   rw [hall] at hA
   clear hall
   go_enter Tryz.func99,Tryz.ntmps99
   go_wp2_with fail
   go_region_with (fail)
   generalize hAA:(if c=1 then some (⟨b,off,none⟩:Addr) else some ⟨b,off+1,none⟩)=AA at *
   clear hAA
   go_wp2_with (first | (go_at_call 29;refine (hK _ (Below.refl _ _).drew).mono ?_;rintro e w1 ⟨rfl,hb1⟩;have hb1':=((Below.refl _ (w.alloc (.cells #[.int .u8 0,.int .i64 0,.int .i64 0,.int .i64 0,.bool false,.int .u32 0,.slice none 0 0] 98))).drew).trans hb1;have q1:=(hb1'.cell (p:=⟨q,0,none⟩) hql).trans q0;have hE1:=hE0.below hb1') | (go_at_call 120;refine (hA _ hb1').mono ?_;rintro e w3 ⟨rfl,hb3⟩;have hb3':=hb1'.trans (hb3.mono hb1'.size);have hE3:=hE0.below hb3') | (go_at_call 121;refine (listed_any _ _ _ _ _).mono ?_;rintro e w4 ⟨rfl,hb4⟩;have hb4':=hb3'.trans (hb4.mono hb3'.size);have hE4:=hE0.below hb4') | (with_reducible refine stopS 98 ?_))
   refine wpList_storeE rfl (.tmp 4) (.tmp 37) rfl w.heap.size _ _ rfl rfl hE4 (IsE.entry _ _ _ _ _ _ _ _ _) ?_
   intro w5 hE5 hg5 hs5
   clear hE4
   go_wp2_with fail
   try simp only [Exit.inBlock,Exit.then]
   refine bodyPost_ret (res_entry Tryz.results99 _ _ _ _ _ rfl rfl hE5) rfl ?_
   exact⟨_,rfl,entv_list 8 (HV.out.below (HBX.out.trans (hb4'.mono HBX.out.size))) HM.out.1 HM.out.2.1 (fun g o e=>by cases e;exact HN.out.1) (fun g o e=>by cases e;have h1:=HN.out.2;have h2:=hb4'.size;have h3:=HBX.out.size;omega) hg5,below_store (HBX.out.trans (hb4'.mono HBX.out.size)) (Nat.le_refl _) hg5⟩
 ·have h1':((kindT t id0:Int)==1)=false:=by simp;omega
  have h1'':¬ (kindT t id0:Int)=1:=by omega
  have h1b:((kindT t id0:Int) != 1)=true:=by simp;omega
  have hd:decide (kindT t id0=1)=false:=by simpa using h1
  rw [hd]
  generalize (kindT t id0:Int)=K at *
  clear h1 hd
  cases hp:plainT t id0 with
  | false =>
   rw [if_pos (show (false || false)=false from rfl)]
   rw [hp] at hP
   clear hp hA
   go_enter Tryz.func99,Tryz.ntmps99
   go_wp2_with fail
   go_region_with (fail)
   generalize hAA:(if c=1 then some (⟨b,off,none⟩:Addr) else some ⟨b,off+1,none⟩)=AA at *
   clear hAA
   go_wp2_with (first | (go_at_call 29;refine (hK _ (Below.refl _ _).drew).mono ?_;rintro e w1 ⟨rfl,hb1⟩;have hb1':=((Below.refl _ (w.alloc (.cells #[.int .u8 0,.int .i64 0,.int .i64 0,.int .i64 0,.bool false,.int .u32 0,.slice none 0 0] 98))).drew).trans hb1;have q1:=(hb1'.cell (p:=⟨q,0,none⟩) hql).trans q0;have hE1:=hE0.below hb1') | (go_at_call 33;refine (hP _ hb1').mono ?_;rintro e w2 ⟨rfl,hb2⟩;have hb2':=hb1'.trans (hb2.mono hb1'.size);have q2:=(hb2'.cell (p:=⟨q,0,none⟩) hql).trans q0;have hE2:=hE0.below hb2') | (with_reducible refine stopS 98 ?_))
   refine wpList_storeE rfl (.tmp 4) (.tmp 29) rfl w.heap.size _ _ rfl rfl hE2 (IsE.entry _ _ _ _ _ _ _ _ _) ?_
   intro w5 hE5 hg5 hs5
   clear hE2
   go_wp2_with fail
   try simp only [Exit.inBlock,Exit.then]
   refine bodyPost_ret (res_entry Tryz.results99 _ _ _ _ _ rfl rfl hE5) rfl ?_
   exact⟨_,rfl,EntV.nothing _ _,below_store (HBX.out.trans (hb2'.mono HBX.out.size)) (Nat.le_refl _) hg5⟩
  | true =>
   rw [if_neg (by simp)]
   rw [hp] at hP
   clear hp
   cases hall:(ids.drop 1).all (handT t) with
   | false =>
    rw [if_pos rfl]
    rw [hall] at hA
    clear hall
    go_enter Tryz.func99,Tryz.ntmps99
    go_wp2_with fail
    go_region_with (fail)
    generalize hAA:(if c=1 then some (⟨b,off,none⟩:Addr) else some ⟨b,off+1,none⟩)=AA at *
    clear hAA
    go_wp2_with (first | (go_at_call 29;refine (hK _ (Below.refl _ _).drew).mono ?_;rintro e w1 ⟨rfl,hb1⟩;have hb1':=((Below.refl _ (w.alloc (.cells #[.int .u8 0,.int .i64 0,.int .i64 0,.int .i64 0,.bool false,.int .u32 0,.slice none 0 0] 98))).drew).trans hb1;have q1:=(hb1'.cell (p:=⟨q,0,none⟩) hql).trans q0;have hE1:=hE0.below hb1') | (go_at_call 33;refine (hP _ hb1').mono ?_;rintro e w2 ⟨rfl,hb2⟩;have hb2':=hb1'.trans (hb2.mono hb1'.size);have q2:=(hb2'.cell (p:=⟨q,0,none⟩) hql).trans q0;have hE2:=hE0.below hb2') | (go_at_call 120;refine (hA _ hb2').mono ?_;rintro e w3 ⟨rfl,hb3⟩;have hb3':=hb2'.trans (hb3.mono hb2'.size);have hE3:=hE0.below hb3') | (with_reducible refine stopS 98 ?_))
    refine wpList_storeE rfl (.tmp 4) (.tmp 35) rfl w.heap.size _ _ rfl rfl hE3 (IsE.entry _ _ _ _ _ _ _ _ _) ?_
    intro w5 hE5 hg5 hs5
    clear hE3
    go_wp2_with fail
    try simp only [Exit.inBlock,Exit.then]
    refine bodyPost_ret (res_entry Tryz.results99 _ _ _ _ _ rfl rfl hE5) rfl ?_
    exact⟨_,rfl,EntV.nothing _ _,below_store (HBX.out.trans (hb3'.mono HBX.out.size)) (Nat.le_refl _) hg5⟩
   | true =>
    rw [if_neg (by simp)]
    rw [hall] at hA
    clear hall
    go_enter Tryz.func99,Tryz.ntmps99
    go_wp2_with fail
    go_region_with (fail)
    generalize hAA:(if c=1 then some (⟨b,off,none⟩:Addr) else some ⟨b,off+1,none⟩)=AA at *
    clear hAA
    go_wp2_with (first | (go_at_call 29;refine (hK _ (Below.refl _ _).drew).mono ?_;rintro e w1 ⟨rfl,hb1⟩;have hb1':=((Below.refl _ (w.alloc (.cells #[.int .u8 0,.int .i64 0,.int .i64 0,.int .i64 0,.bool false,.int .u32 0,.slice none 0 0] 98))).drew).trans hb1;have q1:=(hb1'.cell (p:=⟨q,0,none⟩) hql).trans q0;have hE1:=hE0.below hb1') | (go_at_call 33;refine (hP _ hb1').mono ?_;rintro e w2 ⟨rfl,hb2⟩;have hb2':=hb1'.trans (hb2.mono hb1'.size);have q2:=(hb2'.cell (p:=⟨q,0,none⟩) hql).trans q0;have hE2:=hE0.below hb2') | (go_at_call 120;refine (hA _ hb2').mono ?_;rintro e w3 ⟨rfl,hb3⟩;have hb3':=hb2'.trans (hb3.mono hb2'.size);have hE3:=hE0.below hb3') | (go_at_call 121;refine (listed_any _ _ _ _ _).mono ?_;rintro e w4 ⟨rfl,hb4⟩;have hb4':=hb3'.trans (hb4.mono hb3'.size);have hE4:=hE0.below hb4') | (with_reducible refine stopS 98 ?_))
    refine wpList_storeE rfl (.tmp 4) (.tmp 37) rfl w.heap.size _ _ rfl rfl hE4 (IsE.entry _ _ _ _ _ _ _ _ _) ?_
    intro w5 hE5 hg5 hs5
    clear hE4
    go_wp2_with fail
    try simp only [Exit.inBlock,Exit.then]
    refine bodyPost_ret (res_entry Tryz.results99 _ _ _ _ _ rfl rfl hE5) rfl ?_
    exact⟨_,rfl,entv_list 8 (HV.out.below (HBX.out.trans (hb4'.mono HBX.out.size))) HM.out.1 HM.out.2.1 (fun g o e=>by cases e;exact HN.out.1) (fun g o e=>by cases e;have h1:=HN.out.2;have h2:=hb4'.size;have h3:=HBX.out.size;omega) hg5,below_store (HBX.out.trans (hb4'.mono HBX.out.size)) (Nat.le_refl _) hg5⟩
end Go.Proofs.YtoebhgpciinkgaaGreatDoor
