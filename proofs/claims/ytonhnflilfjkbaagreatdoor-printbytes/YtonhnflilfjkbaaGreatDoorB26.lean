/-
  Texts in one: Ref08Text, Ref02ReadN, Ref01Text2, Ref04Heads, Ref04Argument.
-/
import Derived.Test.YtonhnflilfjkbaaGreatDoorB25
import Derived.Test.YtonhnflilfjkbaaGreatDoorB20
namespace Go.Proofs.YtonhnflilfjkbaaGreatDoor
open Go.RowKit
set_option maxRecDepth 10000
set_option linter.unusedVariables false
set_option linter.unusedSimpArgs false
structure T9 (W1 wr : World) (v : Value) (zs : List Int) : Prop where
  bel : Below W1.heap.size W1 wr
  own : RowB W1.heap.size v zs wr
theorem T9.below {W1 wr w':World} {v:Value} {zs:List Int} (h:T9 W1 wr v zs) (hb:Below wr.heap.size wr w'):T9 W1 w' v zs:=⟨h.bel.trans (hb.mono h.bel.size),own_below h.own hb⟩
theorem t9_str {W1 wr:World} {v:Value} {zs:List Int} (h:T9 W1 wr v zs) {ops:Array Oper} {rest:List Oper} {o:Oper} {a:Act} {Q:Exit→Act→World→Prop} (hgd:o.guard=none) (s x:Operand) (ho:o.op=.call { callee:=.builtin .append,args:=#[s,x],argTypes:=#[44,9] })
  (hs:a.eval s=v) (t:ByteArray) (hx:a.eval x=.string t) (hn:zs.length+t.size≤140737488355328)
  (hK:∀ v' w',T9 W1 w' v' (zs++strI t)→wpList Tryz.prog ops Q rest (a.put o.dst v') w'):wpList Tryz.prog ops Q (o :: rest) a wr:=by
 obtain⟨i0,hi,hz0,hz1,hz2⟩:=info_parts Bld.info
 refine Lib.wpList_append_own_string wr hgd s x 44 9 ho W1.heap.size 5 i0 Tryz.underlying44 Tryz.underlying9 hi hz0 hz1 hz2 v zs.length (zs.map (Value.int .u8)) hs h.own t hx (by unfold maxLen;omega) hn h.bel.size ?_
 intro v' w' h1 h2 _
 refine hK v' w' ⟨h.bel.grown h2 h.bel.size (fun j e=>(World.ownsRow.lt h.own j e).1),?_⟩
 have e:Lib.strCells t=(strI t).map (Value.int .u8):=by simp [Lib.strCells,strI]
 rw [e,← strI_len t] at h1
 exact rowB_push h1
theorem t9_byte {W1 wr:World} {v:Value} {zs:List Int} (h:T9 W1 wr v zs) {ops:Array Oper} {rest:List Oper} {o:Oper} {a:Act} {Q:Exit→Act→World→Prop} (hgd:o.guard=none) (s x:Operand) (ho:o.op=.call { callee:=.builtin .append,args:=#[s,x],argTypes:=#[44,44] })
  (hs:a.eval s=v) (c:Int) (hx:a.eval x=.slice (some ⟨wr.heap.size,0,none⟩) 1 1) (hn:zs.length+1≤140737488355328)
  (hK:∀ v' w',T9 W1 w' v' (zs++[c])→wpList Tryz.prog ops Q rest (a.put o.dst v') w'):wpList Tryz.prog ops Q (o :: rest) a (wr.alloc (.cells #[.int .u8 c] 5)):=by
 obtain⟨i0,hi,hz0,hz1,hz2⟩:=info_parts Bld.info
 have hb:=(Below.refl _ wr).alloc (Nat.le_refl _) (.cells #[.int .u8 c] 5)
 have h':=h.below hb
 refine wpList_append_own _ hgd s x 44 ho W1.heap.size 5 i0 (.int .u8 0) 1 1 Tryz.underlying44 hi hz0 hz1 hz2 rfl (by decide) v zs.length (zs.map (Value.int .u8)) hs h'.own ⟨wr.heap.size,0,none⟩ 1 1 ([c].map (Value.int .u8)) hx rfl (one_cells [c]) (oneC_all _) (by unfold maxLen;omega) (by omega) h'.bel.size ?_
 intro v' w' h1 h2 _
 exact hK v' w' ⟨h'.bel.grown h2 h'.bel.size (fun j e=>(World.ownsRow.lt h'.own j e).1),rowB_push h1⟩
theorem range8 {w:World} {b t:Nat} {cs:List Value} {fr:Nat×Nat} (h:w.heap[b]?=some (.cells cs.toArray t fr)):w.rangeAt b 0 cs:=fun j v hv=>by
 rw [Nat.zero_add]
 simp [World.cell?,h,hv]
theorem tx8Ret {Q:Ending→World→Prop} {a':Act} {Z:World} {B:Nat} {S:ByteArray} {e k:Int} (h2:slot a'.tmps 2=.string S) (h3:slot a'.tmps 3=.pointer (some ⟨B,0,none⟩)) (hd:a'.defers=[]) (hZ:Z.heap[B]?=some (.cells #[.int .i64 e,.int .i64 k] 28 (0,0)))
  (hq:Q (.returned (.tuple #[.string S,.agg #[.int .i64 e,.int .i64 k]])) Z):bodyPost Tryz.prog Tryz.f6 Q .ret a' Z:=by
 have r6:=run_loadVar_mid (P:=Tryz.prog) Z B 0 28 [.int .i64 e,.int .i64 k] _ (range8 hZ) Tryz.underlying28 rfl (by kernel_rfl)
 refine bodyPost_ret (v:=.tuple #[.string S,.agg #[.int .i64 e,.int .i64 k]]) ?_ hd hq
 have g2:a'.tmps.getD 2 undef=.string S:=h2
 have g3:a'.tmps.getD 3 undef=.pointer (some ⟨B,0,none⟩):=h3
 simp only [results,Tryz.results6,List.mapM_toArray,List.mapM_cons,List.mapM_nil,g2,g3,asAddr,Sem.run_bind,Sem.run_pure,Result.andThen_ok,bind_assoc,pure_bind,Sem.run_map,map_pure,r6]
 rfl
theorem spotLd8 {W:World} {b T:Nat} {x0 x1:Value} (h:W.heap[b]?=some (.cells #[x0,x1] T (0,0))) (u0 u1:Value) :
  ((W.setCell ⟨b,0,none⟩ u0).setCell ⟨b,1,none⟩ u1).heap[b]?=some (.cells #[u0,u1] T (0,0)):=by
 simp [World.setCell,Array.getElem?_modify,h]
theorem oth8 {W:World} {b k:Nat} {o:Obj} (h:W.heap[k]?=some o) (hne:k≠b) (u v:Value):((W.setCell ⟨b,0,none⟩ u).setCell ⟨b,1,none⟩ v).heap[k]?=some o:=by
 simp [World.setCell,Array.getElem?_modify,h,Ne.symm hne]
theorem twoF8 {w:World} {p T:Nat} {a b:Value} (h:w.heap[p]?=some (.cells #[a,b] T (0,0))):w.frozen? ⟨p,0,none⟩=false∧w.frozen? ⟨p,1,none⟩=false:=by
 refine⟨?_,?_⟩ <;> simp [World.frozen?,h]
theorem then_normal8 {K:Act→World→Prop} {Q:Exit→Act→World→Prop} {a:Act} {w:World}:Exit.then K Q .normal a w=K a w:=rfl
theorem wrap8 {k n:Nat} (h:k<n) (hn:40 * n≤140737488351232):wrap64 ((k:Int)+1)=(k:Int)+1:=by unfold wrap64;omega
set_option maxHeartbeats 8000000 in
theorem refText8_any (g:Int) (N:Nat) (a:Option Addr) (n c:Nat) (l:List InstT) (w:World) (hv:InstsV w a l) (hok:InstsOk l) (hl:l.length=n) (hn:40 * n≤140737488351232) (g0:0≤g) (g1:g<4294967296) (hN:(N:Int)<4294967296) (ht:Pow10 w) :
  Calls Tryz.prog 6 #[.agg #[.int .u32 g,.int .u32 (N:Int),.slice a n c]] w fun e w'=>e=.returned (.tuple #[.string (txtP g (N:Int) l),.agg #[.int .i64 (shapeE (N:Int) l).1,.int .i64 ((shapeE (N:Int) l).2:Int)]])∧Below w.heap.size w w':=by
 obtain⟨X,hX⟩:∃ X,(w.alloc (.cells #[.int .u32 g,.int .u32 (N:Int),.slice a n c] 25)).alloc (.cells #[.int .i64 0,.int .i64 0] 28)=X:=⟨_,rfl⟩
 have hbX:Below w.heap.size w X:=by rw [← hX];exact ((Below.refl _ w).alloc (Nat.le_refl _) _).alloc (by simp) _
 have k0:X.heap[w.heap.size]?=some (.cells #[.int .u32 g,.int .u32 (N:Int),.slice a n c] 25 (0,0)):=by rw [← hX];exact allocOld (allocNew w _ rfl) _
 have k1:X.heap[w.heap.size+1]?=some (.cells #[.int .i64 0,.int .i64 0] 28 (0,0)):=by rw [← hX];exact allocNew _ _ (by simp)
 have hsh:=refShape4_any g (N:Int) a n c l X (hv.below hbX) hok hl hn (by omega) hN
 have HBX:=hide hbX
 have K0:=hide k0
 have K1:=hide k1
 have HV:=hide hv
 have HOK:=hide hok
 have HL:=hide hl
 have HN:=hide hn
 have HT:=hide ht
 have HHD:=hide fun wx (h:Pow10 wx)=>refHead8_any g (N:Int) a n c wx g0 g1 (by omega) hN h
 obtain⟨S,hS⟩:∃ S,S=txtP g (N:Int) l:=⟨_,rfl⟩
 have HS:Hid ((shapeE (N:Int) l).1=0→S=strOfNums (textP g (N:Int) l)):=fun h=>by rw [hS];exact if_pos h
 have HS0:Hid ((shapeE (N:Int) l).1≠0→S=⟨#[]⟩):=fun h=>by rw [hS];exact if_neg h
 rw [← hS]
 have HZ:Hid ((shapeE (N:Int) l).1=0→(shapeE (N:Int) l).2=0):=shape_none
 have HEA:Hid ((shapeE (N:Int) l).1=0→∀ i,i<l.length→rawE (nthI l i) (N:Int)=0):=fun h=>shape_each h
 have HN3:=hide hN
 have HWT0:Hid ((shapeE (N:Int) l).1=0→∀ k,k≤n→Within 256 (textTo g (N:Int) l k)):=fun h k hk=>by
  have h1:=textP_ok g1 hok h
  refine joinLs_within fun q hq=>h1 q ?_
  rcases List.mem_cons.1 hq with rfl | hq
  ·exact List.mem_cons_self ..
  ·obtain⟨y,hy,rfl⟩:=List.mem_map.1 hq
   exact List.mem_cons_of_mem _ (List.mem_map.2 ⟨y,List.mem_of_mem_take hy,rfl⟩)
 have HFEW:Hid ((shapeE (N:Int) l).1=0→∀ k,k≤n→(textTo g (N:Int) l k).length≤16777216):=fun h k hk=>Nat.le_trans (textTo_len g (N:Int) l k (by omega)) (textP_few g1 hok h)
 obtain⟨m0,m1,m2⟩:X.cell? ⟨w.heap.size,0,none⟩=some (.int .u32 g)∧X.cell? ⟨w.heap.size,1,none⟩=some (.int .u32 (N:Int))∧X.cell? ⟨w.heap.size,2,none⟩=some (.slice a n c):=⟨(one_block k0).1 0,(one_block k0).1 1,(one_block k0).1 2⟩
 generalize hE1:(shapeE (N:Int) l).1=E1 at *
 generalize hE2:(shapeE (N:Int) l).2=E2 at *
 generalize hE3:((E2:Nat):Int)=E3 at *
 have HE3:Hid (E2=0→E3=0):=fun h=>by rw [← hE3,h];rfl
 subst hX
 unfold modV at hsh
 clear hv hok hl hn ht k0 k1 hbX hS hE1 hE2 hE3
 go_enter Tryz.func6,Tryz.ntmps6
 go_wp2_with fail
 generalize World.alloc (World.alloc w _) _=X at *
 have HB12:Hid (w.heap.size<w.heap.size+1):=Nat.lt_succ_self _
 generalize w.heap.size+1=B1 at *
 refine hsh.mono ?_
 rintro e w1 ⟨rfl,hb1⟩
 have ha1:Below w1.heap.size w1 (w1.alloc (.cells #[.int .i64 E1,.int .i64 E3] 28)):=(Below.refl _ w1).alloc (Nat.le_refl _) _
 have hb11:=hb1.trans (ha1.mono hb1.size)
 have HB1:=hide (HBX.out.trans (hb11.mono HBX.out.size))
 have k0:=(hb11.block _ (Array.getElem?_eq_some_iff.1 K0.out).1).trans K0.out
 have k1:=(hb11.block _ (Array.getElem?_eq_some_iff.1 K1.out).1).trans K1.out
 have k4:=allocNew w1 (.cells #[.int .i64 E1,.int .i64 E3] 28) rfl
 have L0:=hide k0
 have L1:=hide k1
 have L4:=hide k4
 have HB1L:Hid (B1<w1.heap.size):=Nat.lt_of_lt_of_le (Array.getElem?_eq_some_iff.1 K1.out).1 hb1.size
 clear hsh hb1 ha1 hb11 m0 m1 m2 K0 K1
 have s0:=(one_block k4).1 0
 have s1:=(one_block k4).1 1
 by_cases hz:E1=0
 ·have e2:=HZ.out hz
  have e3:=HE3.out e2
  subst hz
  subst e3
  have HSS:=hide (HS.out rfl)
  have HEC:=hide (HEA.out rfl)
  have HFE:=hide (HFEW.out rfl)
  have HWT:=hide (HWT0.out rfl)
  have m0:=(one_block k0).1 0
  have m1:=(one_block k0).1 1
  have m2:=(one_block k0).1 2
  have hhd:=HHD.out _ (HT.out.below HB1.out)
  clear HS HS0 HZ HEA HFEW HWT0 HE3 HHD k0 k1 k4 e2
  go_wp2_with fail
  generalize hW1:World.alloc w1 _=W1 at *
  clear hW1 s0 s1 m0 m1 m2
  refine hhd.mono ?_
  rintro e w2 ⟨rfl,hb2⟩
  have T1:Hid (T9 W1 w2 (.slice none 0 0) []):=⟨hb2,World.ownsRow_nil _ _ _ _⟩
  have hhl:=HFE.out 0 (Nat.zero_le _)
  rw [textTo_zero] at hhl
  have hin:strI (strOfNums (headL g (N:Int)++[10]))=textTo g (N:Int) l 0:=by
   rw [← textTo_zero (l:=l)]
   exact strI_of (HWT.out 0 (Nat.zero_le _))
  have HIN:=hide hin
  generalize headL g (N:Int)++[10]=hl0 at *
  have hsz:(strOfNums hl0).size≤16777216:=by rw [strOfNums_size];exact hhl
  clear hhd hb2 hhl hin
  generalize strOfNums hl0=H0 at *
  go_wp2_with (at_builtin;refine t9_str T1.out rfl (.tmp 15) (.tmp 17) rfl rfl H0 rfl (by simp;omega) ?_)
  intro v3 w3 h3
  have T3:Hid (T9 W1 w3 v3 (textTo g (N:Int) l 0)):=by
   show T9 _ _ _ _
   first | rw [List.nil_append,HIN.out] at h3 | rw [HIN.out] at h3
   exact h3
  clear h3 T1 hsz HIN
  go_wp2_with fail
  go_loopw [5,6] (fun v i wr=>∃ k:Nat,k≤n∧i=.int .i64 k∧T9 W1 wr v (textTo g (N:Int) l k)) (fun _ i _=>n - (intOf i).toNat)
  case atStart=>exact⟨0,Nat.zero_le _,rfl,T3.out⟩
  case round =>
   obtain⟨k,hk,rfl,hT⟩:=hrel
   clear T3
   have hbw:=HB1.out.trans (hT.bel.mono HB1.out.size)
   have HBW:=hide hbw
   have HTT:=hide hT
   have k0:=(hT.bel.block _ (Array.getElem?_eq_some_iff.1 L0.out).1).trans L0.out
   have k1:=(hT.bel.block _ (Array.getElem?_eq_some_iff.1 L1.out).1).trans L1.out
   have M0:=hide k0
   have M1:=hide k1
   have m2:=(one_block k0).1 2
   by_cases hlt:k<n
   ·obtain⟨b,off,aj,cj,nj,rfl,hbi,r1,r2,r3,r4,r5,r6,r7⟩:=(HV.out.below hbw) k (by rw [HL.out];exact hlt)
    have hki:(k:Int)<(n:Int):=by omega
    have hk0:(0:Int)≤(k:Int):=by omega
    have HLT:=hide hlt
    have hw:=wrap8 hlt HN.out
    have HW:=hide hw
    have LC:Hid (∀ w':World,Below wr.heap.size wr w'→w'.cell? ⟨w.heap.size,1,none⟩=some (.int .u32 (N:Int))∧w'.cell? ⟨w.heap.size,2,none⟩=some (.slice (some ⟨b,off,none⟩) n c)∧w'.cell? ⟨b,off+k * 4,none⟩=some (.int .u16 (nthI l k).1)∧w'.cell? ⟨b,off+k * 4+1,none⟩=some (.int .u32 (nthI l k).2.1)∧w'.cell? ⟨b,off+k * 4+2,none⟩=some (.int .u32 (nthI l k).2.2.1)∧w'.cell? ⟨b,off+k * 4+3,none⟩=some (.slice aj nj cj)):=fun w' h=>by
     have q:=(one_block ((h.block _ (Array.getElem?_eq_some_iff.1 M0.out).1).trans M0.out)).1
     exact⟨q 1,q 2,(h.cell (p:=⟨b,off+k * 4,none⟩) hbi).trans r1,(h.cell (p:=⟨b,off+k * 4+1,none⟩) hbi).trans r2,(h.cell (p:=⟨b,off+k * 4+2,none⟩) hbi).trans r3,(h.cell (p:=⟨b,off+k * 4+3,none⟩) hbi).trans r4⟩
    have hln:=fun wx (h:Below wr.heap.size wr wx)=>refLine8_any (nthI l k) (N:Int) aj nj cj wx (r6.below h) (HOK.out k (by rw [HL.out];exact hlt)) r5 (by omega) HN3.out (HT.out.below (hbw.trans (h.mono hbw.size)))
    have hre:=HEC.out k (by rw [HL.out];exact hlt)
    have hli:linP (nthI l k) (N:Int)=strOfNums (prI (nthI l k)):=if_pos hre
    rw [hre,hli] at hln
    unfold instV at hln
    have HLN:=hide hln
    have HNX:Hid (textTo g (N:Int) l (k+1)=textTo g (N:Int) l k++prI (nthI l k)++[10]):=textTo_next g (N:Int) l k (by rw [HL.out];exact hlt)
    have HPI:Hid (strI (strOfNums (prI (nthI l k)))=prI (nthI l k)):=strI_of (prI_within _)
    have hfk:=HFE.out (k+1) hlt
    rw [HNX.out] at hfk
    simp only [List.length_append,List.length_singleton] at hfk
    have hps:(strOfNums (prI (nthI l k))).size=(prI (nthI l k)).length:=strOfNums_size _
    have HFK:=hide (And.intro hfk hps)
    generalize prI (nthI l k)=P at *
    generalize strOfNums P=PS at *
    generalize nthI l k=x at *
    obtain⟨x0,x1,x2,x3⟩:=x
    simp only at LC HLN r1 r2 r3
    clear hT hbw k0 k1 hlt hk hbi r1 r2 r3 r4 r5 r6 r7 hln hre hli hfk hps
    go_wp2_with fail
    have hC0:Below wr.heap.size wr wr.drew:=(Below.refl _ wr).drew
    have hmix:Tryz.prog.follows .mixedOrders=true:=by kernel_rfl
    refine (wpIn_wide (n:=0)).1 ?_
    refine wpIn_normal (wpIn_region_any hmix (wpAnyE_sound (C:=Below wr.heap.size wr) (E:=fun _=>false) _ _ _ _ ?_))
    change wpAnyE _ _ _ _ _ _ _ _ _ _ _ (World.drew _)
    refine wpAnyE_takeD (i:=0) (some 27) (v:=(.pointer (some ⟨w.heap.size,2,none⟩))) (fun _=>trivial) (by kernel_rfl) rfl rfl (by kernel_rfl) (by kernel_rfl) (by kernel_rfl) (by kernel_rfl) (fun _ _ _ h=>by cases h.1) hC0 (Or.inl ⟨by kernel_rfl,fun w' hC=>by obtain⟨e1,e2,e3,e4,e5,e6⟩:=LC.out w' hC;clear hC;go_simp⟩) ?_
    simp only [Act.put,ap1,ap2,ap3]
    refine wpAnyE_takeD (i:=1) (some 28) (v:=(.slice (some ⟨b,off,none⟩) n c)) (fun _=>trivial) (by kernel_rfl) rfl rfl (by kernel_rfl) (by kernel_rfl) (by kernel_rfl) (by kernel_rfl) (fun _ _ _ h=>by cases h.1) hC0 (Or.inl ⟨by kernel_rfl,fun w' hC=>by obtain⟨e1,e2,e3,e4,e5,e6⟩:=LC.out w' hC;clear hC;go_simp⟩) ?_
    simp only [Act.put,ap1,ap2,ap3]
    refine wpAnyE_takeD (i:=2) (some 29) (v:=(.int .i64 (k:Int))) (fun _=>trivial) (by kernel_rfl) rfl rfl (by kernel_rfl) (by kernel_rfl) (by kernel_rfl) (by kernel_rfl) (fun _ _ _ h=>by cases h.1) hC0 (Or.inl ⟨by kernel_rfl,fun w' hC=>by obtain⟨e1,e2,e3,e4,e5,e6⟩:=LC.out w' hC;clear hC;go_simp⟩) ?_
    simp only [Act.put,ap1,ap2,ap3]
    refine wpAnyE_takeD (i:=3) (some 30) (v:=(.pointer (some ⟨b,off+k * 4,none⟩))) (fun _=>trivial) (by kernel_rfl) rfl rfl (by kernel_rfl) (by kernel_rfl) (by kernel_rfl) (by kernel_rfl) (fun _ _ _ h=>by cases h.1) hC0 (Or.inl ⟨by kernel_rfl,fun w' hC=>by obtain⟨e1,e2,e3,e4,e5,e6⟩:=LC.out w' hC;clear hC;go_simp⟩) ?_
    simp only [Act.put,ap1,ap2,ap3]
    refine wpAnyE_takeD (i:=4) (some 31) (v:=(.agg #[.int .u16 x0,.int .u32 x1,.int .u32 x2,.slice aj nj cj])) (fun _=>trivial) (by kernel_rfl) rfl rfl (by kernel_rfl) (by kernel_rfl) (by kernel_rfl) (by kernel_rfl) (fun _ _ _ h=>by cases h.1) hC0 (Or.inl ⟨by kernel_rfl,fun w' hC=>by obtain⟨e1,e2,e3,e4,e5,e6⟩:=LC.out w' hC;clear hC;go_simp⟩) ?_
    simp only [Act.put,ap1,ap2,ap3]
    refine wpAnyE_takeD (i:=5) (some 32) (v:=(.pointer (some ⟨w.heap.size,1,none⟩))) (fun _=>trivial) (by kernel_rfl) rfl rfl (by kernel_rfl) (by kernel_rfl) (by kernel_rfl) (by kernel_rfl) (fun _ _ _ h=>by cases h.1) hC0 (Or.inl ⟨by kernel_rfl,fun w' hC=>by obtain⟨e1,e2,e3,e4,e5,e6⟩:=LC.out w' hC;clear hC;go_simp⟩) ?_
    simp only [Act.put,ap1,ap2,ap3]
    refine wpAnyE_takeD (i:=6) (some 33) (v:=(.int .u32 (N:Int))) (fun _=>trivial) (by kernel_rfl) rfl rfl (by kernel_rfl) (by kernel_rfl) (by kernel_rfl) (by kernel_rfl) (fun _ _ _ h=>by cases h.1) hC0 (Or.inl ⟨by kernel_rfl,fun w' hC=>by obtain⟨e1,e2,e3,e4,e5,e6⟩:=LC.out w' hC;clear hC;go_simp⟩) ?_
    simp only [Act.put,ap1,ap2,ap3]
    clear LC
    refine wpAnyE_ready (rs:=[7]) (by kernel_rfl) (by simp) ?_
    refine AllE.cons rfl (fun Kk hK=>?_) AllE.nil
    go_simp
    refine⟨trivial,rfl,(callsIn_wide.2 (HLN.out _ hC0)).mono ?_⟩
    rintro e w5 ⟨rfl,hb5⟩
    dsimp only
    have hC5:=hC0.trans (show Below wr.heap.size wr.drew w5 from hb5)
    refine hK _ _ (.inr hC5) ?_
    clear hK Kk hb5
    refine wpAnyE_takeD (i:=8) (some 26) (v:=(.tuple #[.string PS,.int .i64 0])) (fun _=>trivial) (by kernel_rfl) rfl rfl (by kernel_rfl) (by kernel_rfl) (by kernel_rfl) (by kernel_rfl) (fun _ _ _ h=>by cases h.1) hC5 (Or.inl ⟨by kernel_rfl,fun w' hC=>by clear hC;go_simp⟩) ?_
    simp only [Act.put,ap1,ap2,ap3]
    refine wpAnyE_takeD (i:=9) (some 35) (v:=(.string PS)) (fun _=>trivial) (by kernel_rfl) rfl rfl (by kernel_rfl) (by kernel_rfl) (by kernel_rfl) (by kernel_rfl) (fun _ _ _ h=>by cases h.1) hC5 (Or.inl ⟨by kernel_rfl,fun w' hC=>by clear hC;go_simp⟩) ?_
    simp only [Act.put,ap1,ap2,ap3]
    refine wpAnyE_takeD (i:=10) (some 36) (v:=(.int .i64 0)) (fun _=>trivial) (by kernel_rfl) rfl rfl (by kernel_rfl) (by kernel_rfl) (by kernel_rfl) (by kernel_rfl) (fun _ _ _ h=>by cases h.1) hC5 (Or.inl ⟨by kernel_rfl,fun w' hC=>by clear hC;go_simp⟩) ?_
    simp only [Act.put,ap1,ap2,ap3]
    refine wpAnyE_takeD (i:=11) (some 7) (v:=(.string PS)) (fun _=>trivial) (by kernel_rfl) rfl rfl (by kernel_rfl) (by kernel_rfl) (by kernel_rfl) (by kernel_rfl) (fun _ _ _ h=>by cases h.1) hC5 (Or.inl ⟨by kernel_rfl,fun w' hC=>by clear hC;go_simp⟩) ?_
    simp only [Act.put,ap1,ap2,ap3]
    refine wpAnyE_takeD (i:=12) (some 8) (v:=(.int .i64 0)) (fun _=>trivial) (by kernel_rfl) rfl rfl (by kernel_rfl) (by kernel_rfl) (by kernel_rfl) (by kernel_rfl) (fun _ _ _ h=>by cases h.1) hC5 (Or.inl ⟨by kernel_rfl,fun w' hC=>by clear hC;go_simp⟩) ?_
    simp only [Act.put,ap1,ap2,ap3]
    refine wpAnyE_done (by kernel_rfl) ⟨rfl,?_⟩ _
    first | rw [then_normal8] | skip
    have T5:=hide (HTT.out.below hC5)
    clear hC0 hC5 hmix HLN
    go_wp2_with (at_builtin;refine t9_str T5.out rfl (.tmp 37) (.tmp 38) rfl rfl PS rfl (by have:=HFK.out;omega) ?_)
    intro v6 w6 h6
    have T6:=hide h6
    clear h6
    go_wp2_with (at_builtin;refine t9_byte T6.out rfl (.tmp 40) (.tmp 41) rfl rfl 10 rfl (by have:=HFK.out;rw [HPI.out,List.length_append];omega) ?_)
    intro v7 w7 h7
    have T7:Hid (T9 W1 w7 v7 (textTo g (N:Int) l (k+1))):=by
     show T9 _ _ _ _
     rw [HNX.out]
     rw [HPI.out] at h7
     simpa only [List.append_assoc] using h7
    clear h7 T6 T5
    go_wp2_with fail
    exact⟨⟨k+1,HLT.out,by first | (rw [hw];simp) | simp,T7.out⟩,by first | (rw [hw];exact measY HLT.out) | exact measY HLT.out⟩
   ·have e:k=n:=by omega
    subst e
    have hcv:=rowB_convert hT.own
    have HSE:Hid (S=strOfNums (textTo g (N:Int) l k)):=by
     show _=_
     rw [HSS.out,← textTo_all,HL.out]
    generalize strOfNums (textTo g (N:Int) l k)=TX at *
    obtain⟨z0,z1⟩:=twoF8 k1
    have x0:=(one_block k1).1 0
    have x1:=(one_block k1).1 1
    clear hT hbw k0 k1 hlt hk
    go_wp2_with fail
    refine tx8Ret (B:=B1) rfl rfl rfl (spotLd8 M1.out _ _) ⟨by rw [HSE.out],?_⟩
    first | exact ((HBW.out.setCell (Nat.le_of_lt HB12.out) _).setCell (Nat.le_of_lt HB12.out) _) | exact ((HBW.out.setCell (Nat.le_of_lt HB12.out) _).setCell (Nat.le_of_lt HB12.out) _).drew
 ·have HS9:=hide (HS0.out hz)
  have hb0:(E1==0)=false:=by simpa using hz
  have hbn:(E1 != 0)=true:=by simpa using hz
  obtain⟨z0,z1⟩:=twoF8 k1
  have x0:=(one_block k1).1 0
  have x1:=(one_block k1).1 1
  clear HS HS0 HZ HEA HFEW HWT0 HE3 HHD k0 k1 k4 hz
  go_wp2_with fail
  generalize World.alloc w1 _=W1 at *
  have hC0:W1.drew.heap[w1.heap.size]?=some (.cells #[.int .i64 E1,.int .i64 E3] 28 (0,0)):=L4.out
  have hmix:Tryz.prog.follows .mixedOrders=true:=by kernel_rfl
  have hkb:w1.heap.size≠B1:=by have:=HB1L.out;omega
  have LC:Hid (∀ w':World,w'.heap[w1.heap.size]?=some (.cells #[.int .i64 E1,.int .i64 E3] 28 (0,0))→w'.cell? ⟨w1.heap.size,0,none⟩=some (.int .i64 E1)∧w'.cell? ⟨w1.heap.size,1,none⟩=some (.int .i64 E3)):=fun w' h=>⟨(one_block h).1 0,(one_block h).1 1⟩
  refine (wpIn_wide (n:=0)).1 ?_
  refine wpIn_normal (wpIn_region_any hmix (wpAnyE_sound (C:=fun w'=>w'.heap[w1.heap.size]?=some (.cells #[.int .i64 E1,.int .i64 E3] 28 (0,0))) (E:=fun _=>false) _ _ _ _ ?_))
  change wpAnyE _ _ _ _ _ _ _ _ _ _ _ (World.drew _)
  refine wpAnyE_takeD (i:=0) (some 14) (v:=(.agg #[.int .i64 E1,.int .i64 E3])) (fun _=>trivial) (by kernel_rfl) rfl rfl (by kernel_rfl) (by kernel_rfl) (by kernel_rfl) (by kernel_rfl) (fun _ _ _ h=>by cases h.1) hC0 (Or.inl ⟨by kernel_rfl,fun w' hC=>by obtain⟨e1,e2⟩:=LC.out w' hC;clear hC;go_simp⟩) ?_
  simp only [Act.put,ap1,ap2,ap3]
  refine wpAnyE_takeD (i:=1) (some 2) (v:=(.string ⟨#[]⟩)) (fun _=>trivial) (by kernel_rfl) rfl rfl (by kernel_rfl) (by kernel_rfl) (by kernel_rfl) (by kernel_rfl) (fun _ _ _ h=>by cases h.1) hC0 (Or.inl ⟨by kernel_rfl,fun w' hC=>by obtain⟨e1,e2⟩:=LC.out w' hC;clear hC;go_simp⟩) ?_
  simp only [Act.put,ap1,ap2,ap3]
  clear LC
  refine wpAnyE_ready (rs:=[2]) (by kernel_rfl) (by simp) ?_
  refine AllE.cons rfl (fun Kk hK=>?_) AllE.nil
  go_simp
  refine hK _ _ (.inr (oth8 L4.out hkb _ _)) ?_
  clear hK Kk
  refine wpAnyE_done (by kernel_rfl) ⟨rfl,?_⟩ _
  first | rw [then_normal8] | skip
  go_wp2_with fail
  refine tx8Ret (B:=B1) rfl rfl rfl (spotLd8 L1.out _ _) ⟨by rw [HS9.out],?_⟩
  first | exact ((HB1.out.setCell (Nat.le_of_lt HB12.out) _).setCell (Nat.le_of_lt HB12.out) _).drew | exact ((HB1.out.drew.setCell (Nat.le_of_lt HB12.out) _).setCell (Nat.le_of_lt HB12.out) _)
def NilV:Value→Prop
 | .slice none _ c=>c=0
 | _=>True
def NilW (w:World) (a:Option Addr) (m:Nat):Prop:=∀ b off j n c,a=some ⟨b,off,none⟩→j<m→w.cell? ⟨b,off+j * 2+1,none⟩=some (.slice none n c)→c=0
theorem nilV_own {w:World} {lo e size n m c:Nat} {a:Option Addr} {xs:List Value} (h:w.ownsRow lo e size (.slice a n c) m xs):NilV (.slice a n c):=by
 rcases h.2 with ⟨h1,_⟩ | ⟨g,c',cur,h1,_⟩
 ·cases h1;rfl
 ·cases h1;trivial
theorem nilW_own {w:World} {lo e n c:Nat} {a:Option Addr} {cs:List Value} (h:w.ownsRow lo e 2 (.slice a n c) n cs) (hn:∀ u∈cs,NilV u):NilW w a n:=by
 intro b off j n' c' ha hj hc
 rcases h.2 with ⟨h1,h2⟩ | ⟨g,cap',cur,hv,_⟩
 ·omega
 ·cases hv
  simp only [Option.some.injEq,Addr.mk.injEq] at ha
  obtain⟨rfl,rfl,_⟩:=ha
  have c2:=h.cellAt (j * 2+1) (by omega)
  rw [Nat.zero_add] at hc
  rw [hc] at c2
  exact hn _ (List.mem_of_getElem? c2.symm)
set_option maxHeartbeats 4000000 in
theorem refRead_bodyN (a : Option Addr) (n cap : Nat) (zs : List Int) (w : World) (ha : View .u32 w a zs) (hl : zs.length = n) (hw : Within 4294967296 zs) (hn : n ≤ 1048576) (he : (headE zs 0).1 = 0) :
    Calls Tryz.prog 59 #[.slice a n cap] w fun e w' => Below w.heap.size w w' ∧
      ((stop zs 5 < n ∧ e = .returned (.tuple #[.agg #[.int .u32 0, .int .u32 0], .slice none 0 0, .agg #[.int .i64 25, .int .i64 (stop zs 5)]])) ∨
       (¬ stop zs 5 < n ∧ ∃ ax cx m, e = .returned (.tuple #[.agg #[.int .u32 (nth zs 2), .int .u32 (nth zs 3)], .slice ax m cx, .agg #[.int .i64 0, .int .i64 0]]) ∧ (readR zs).length = m ∧ RawsV w' ax (readR zs) ∧ NilW w' ax (readR zs).length)) := by
  have b1 : decide ((1048576 : Int) < (n : Int)) = false := decide_eq_false (by omega)
  obtain ⟨i0, hi, hz0, hz1, hz2⟩ := info_parts RefRead.info
  have HL : Hid (zs.length = n) := hl
  obtain ⟨h5, hwr⟩ := head_ok zs he
  rw [hl] at h5
  have HW : Hid (∀ k, k < 5 → wrongE k (nth zs k) = 0) := hwr
  have hav := ha.below (((Below.refl _ w).alloc (Nat.le_refl _) (.cells #[.int .u32 0, .int .u32 0] 106)).alloc (by simp) (.cells #[.int .i64 0, .int .i64 0] 28))
  clear hl he hwr
  go_enter Tryz.func59, Tryz.ntmps59
  go_wp2
  go_loop [5] (fun i => ∃ k : Nat, k ≤ 5 ∧ i = .int .i64 k) (fun i => 5 - (intOf i).toNat)
  case atStart => exact ⟨0, by omega, rfl⟩
  case round =>
    obtain ⟨k, hk, rfl⟩ := hrel
    by_cases hk5 : k < 5
    · obtain ⟨b, off, rfl, _, hc⟩ := hav k (by rw [HL.out]; omega)
      have hW := fun wx => refWrong_any k (nth zs k) wx hk5
      have hki : (k : Int) < (n : Int) := by omega
      rw [HW.out k hk5] at hW
      clear hav ha
      generalize nth zs k = x at hc hW
      go_wp2_with (go_at_call 94; refine (hW _).mono ?_; rintro e w' ⟨rfl, rfl⟩)
      go_round
      case rel => exact ⟨k + 1, by omega, by go_num⟩
      case measure => simp [intOf]; omega
    · obtain rfl : k = 5 := by omega
      clear hav
      go_wp2
      go_loopw [7, 8] (fun v i wr => ∃ (p : Nat) (out : List Nat) (cs : List Value), p ≤ n ∧ i = .int .i64 p ∧ out ++ rest zs p = rest zs 5 ∧ stop zs p = stop zs 5 ∧ wr.ownsRow (w.heap.size + 2) 54 2 v out.length cs ∧ RowR wr (w.heap.size + 2) v.ownBlock (out.map (rawAt zs)) cs ∧ (∀ u ∈ cs, NilV u) ∧
          wr.heap[w.heap.size]? = some (.cells #[.int .u32 0, .int .u32 0] 106 (0, 0)) ∧ wr.heap[w.heap.size + 1]? = some (.cells #[.int .i64 0, .int .i64 0] 28 (0, 0)) ∧ Below w.heap.size w wr)
        (fun _ i _ => n - (intOf i).toNat)
      case atStart =>
        refine ⟨5, [], [], h5, rfl, rfl, rfl, World.ownsRow_nil _ _ _ _, rowR_nil, (fun u hu => by simp at hu), ?_, ?_, ((Below.refl _ _).alloc (Nat.le_refl _) _).alloc (by simp) _⟩
        · rw [Below.heap_alloc _ _ _ (by simp)]
          exact heap_alloc_new w _
        · have := heap_alloc_new (w.alloc (.cells #[.int .u32 0, .int .u32 0] 106)) (.cells #[.int .i64 0, .int .i64 0] 28)
          simpa using this
      case round =>
        obtain ⟨p, out, cs, hp, rfl, hout, hst, hown, hrow, hnil, hb0, hb1, hnx⟩ := hrel
        obtain ⟨ax, cx, rfl⟩ := own_shape2 hown
        have HO : Hid (out ++ rest zs p = rest zs 5) := hout
        have HST : Hid (stop zs p = stop zs 5) := hst
        have hol : out.length ≤ n := by
          have h1 := rest_len zs 5
          have h2 : out.length ≤ (rest zs 5).length := by rw [← hout]; simp
          rw [HL.out] at h1; omega
        have hsz := hnx.size
        have hs1 : w.heap.size + 1 < wr.heap.size := (Array.getElem?_eq_some_iff.1 hb1).1
        clear hout hst
        by_cases hlt : p < n
        · cases hb : badB zs p with
          | false =>
            have hE := refEnds_yes a n cap zs wr p (ha.below hnx) HL.out hw (by omega) hlt hb
            have HG : Hid (rest zs p = p :: rest zs (p + cntN zs p)) := rest_go zs p (by rw [HL.out]; exact hlt) hb
            have HG2 : Hid (stop zs p = stop zs (p + cntN zs p)) := stop_go zs p (by rw [HL.out]; exact hlt) hb
            have hcp := cnt_pos hb
            have hcf := cnt_fits hb
            rw [HL.out] at hcf
            have hA := fun wx hb' => refAt_any a n cap zs wx p (p + cntN zs p) (ha.below hb') HL.out hw (by omega) (by omega) (by omega)
            have e3 : p + cntN zs p - p - 1 = cntN zs p - 1 := by omega
            rw [e3] at hA
            have HRA : Hid (rawAt zs p = (opI zs p, midL zs (p + 1) (cntN zs p - 1))) := rfl
            have HML : Hid ((midL zs (p + 1) (cntN zs p - 1)).length = cntN zs p - 1) := midL_len zs (p + 1) _ (by rw [HL.out]; omega)
            have hAw := hA wr hnx
            clear hb hA e3 ha
            generalize cntN zs p = c at *
            generalize midL zs (p + 1) (c - 1) = ms at *
            generalize opI zs p = op at *
            go_wp2_with (go_at_call 95; refine hE.mono ?_; rintro e w' ⟨rfl, rfl⟩)
            refine hAw.mono ?_
            rintro e w1 ⟨a1, c1, rfl, hown1, hbA⟩
            have s1 := hbA.size
            have hown' := own_below hown hbA
            have hrow1 := hrow.below hbA
            have hb0' := (hbA.block _ (by omega)).trans hb0
            have hb1' := (hbA.block _ hs1).trans hb1
            have hvA := View.ofOwn hown1 HML.out
            have hc1 : c - 1 ≤ c1 := by
              rcases hown1.2 with ⟨h1, h2⟩ | ⟨g, c', cur, h1, _, _, h4, _⟩
              · omega
              · cases h1; exact h4
            have hvo : ∀ b, Value.ownBlock (.slice ax out.length cx) = some b → w.heap.size + 2 ≤ b ∧ b < wr.heap.size := fun b hb => by
              rcases hown.2 with ⟨h1, _⟩ | ⟨g, c', cur, h1, h2, h3, _⟩
              · rw [h1] at hb; simp [Value.ownBlock] at hb
              · rw [h1] at hb; simp [Value.ownBlock] at hb; subst hb; exact ⟨h2, (Array.getElem?_eq_some_iff.1 h3).1⟩
            have ha1 : ∀ b off s, a1 = some ⟨b, off, s⟩ → Value.ownBlock (.slice ax out.length cx) ≠ some b ∧ b < w1.heap.size + 1 ∧ w.heap.size + 2 ≤ b := fun b off s e => by
              rcases hown1.2 with ⟨h1, _⟩ | ⟨g, c', cur, h1, h2, h3, _⟩
              · cases e; simp at h1
              · cases e
                simp at h1
                obtain ⟨⟨rfl, _⟩, _⟩ := h1
                have := (Array.getElem?_eq_some_iff.1 h3).1
                exact ⟨fun e2 => by have := (hvo _ e2).2; omega, by omega, by omega⟩
            have HNA : Hid (NilV (.slice a1 (c - 1) c1)) := nilV_own hown1
            have HNL : Hid (∀ u ∈ cs, NilV u) := hnil
            have hbw1 : Below w.heap.size w w1 := hnx.trans (hbA.mono hsz)
            clear hown hrow hb0 hb1 hown1 hAw hE hnil
            go_wp2_with (at_builtin; refine wpList_append_lies _ rfl (.tmp 54) (.tmp 59) 71 rfl (w.heap.size + 2) 54 i0 (.agg #[.int .u16 0, .slice none 0 0]) 2 32 Tryz.underlying71 hi hz0 hz1 hz2 rfl (by omega) (.slice ax out.length cx) out.length cs rfl (hown'.alloc _) ⟨w1.heap.size, 0, none⟩ 1 1 [.int .u16 op, .slice a1 (c - 1) c1] rfl rfl (World.news_of_block (cs := #[.int .u16 op, .slice a1 (c - 1) c1]) (t := 54) (fr := (0, 0)) (heap_alloc_new w1 _)) (by simp [Value.oneCell']) (by omega) (by unfold maxLen; omega) (by omega) (by simp; omega) (w1.heap.size + 1) (by simp) ?_)
            intro g2 cap2 w2 hown2 hgrow2 hat2 hlt2
            have hrow2 := RowR.push (r := (op, ms)) (hrow1.below ((Below.refl _ w1).alloc (Nat.le_refl _) _)) (hvA.below ((Below.refl _ w1).alloc (Nat.le_refl _) _)) HML.out hc1 ha1 (by simp) hgrow2 hat2
            have hb02 := (hgrow2.block w.heap.size (by simp; omega) (fun e => by have := (hvo _ e.symm).1; omega)).trans ((Below.heap_alloc w1 _ _ (by omega)).trans hb0')
            have hb12 := (hgrow2.block (w.heap.size + 1) (by simp; omega) (fun e => by have := (hvo _ e.symm).1; omega)).trans ((Below.heap_alloc w1 _ _ (by omega)).trans hb1')
            have hbw2 : Below w.heap.size w w2 := (hbw1.alloc (by omega) _).grown hgrow2 (by simp; omega) (fun k hk => by have := (hvo k hk).1; omega)
            clear hown' hrow1 hvA hgrow2 hat2 ha1 hbw1 hb0' hb1' hvo
            go_wp2
            go_roundw
            case rel =>
              refine ⟨p + c, out ++ [p], cs ++ [.int .u16 op, .slice a1 (c - 1) c1], by omega, by go_num, ?_, ?_, ?_, ?_, ?_, hb02, hb12, hbw2⟩
              · rw [List.append_assoc, List.singleton_append, ← HG.out]; exact HO.out
              · rw [← HG2.out]; exact HST.out
              · rw [List.length_append, List.length_singleton]; exact hown2
              · rw [List.map_append, List.map_singleton, HRA.out]; exact hrow2
              · intro u hu
                rcases List.mem_append.1 hu with h | h
                · exact HNL.out u h
                · simp only [List.mem_cons, List.not_mem_nil, or_false] at h
                  rcases h with rfl | rfl
                  · trivial
                  · exact HNA.out
            case measure => simp [intOf]; omega
          | true =>
            have hE := refEnds_no a n cap zs wr p (ha.below hnx) HL.out hw (by omega) hlt hb
            have HS2 : Hid (stop zs 5 = p) := by show _ = _; rw [← HST.out]; exact stop_bad zs p (by rw [HL.out]; exact hlt) hb
            obtain ⟨c0, c1, f1⟩ := cell_of_two hb0
            obtain ⟨d0, d1, g1⟩ := cell_of_two hb1
            have f0 : wr.frozen? ⟨w.heap.size, 0, none⟩ = false := by simp [World.frozen?, hb0]
            have g0 : wr.frozen? ⟨w.heap.size + 1, 0, none⟩ = false := by simp [World.frozen?, hb1]
            clear hb ha
            have hz := set_two_boxes hb0 hb1 (by omega) (.int .u32 0) (.int .u32 0) (.int .i64 25) (.int .i64 (p : Int))
            have HZ : Hid _ := hz
            clear hz
            go_wp2_with (go_at_call 95; refine hE.mono ?_; rintro e w' ⟨rfl, rfl⟩)
            refine bodyPost_ret (v := .tuple #[.agg #[.int .u32 0, .int .u32 0], .slice none 0 0, .agg #[.int .i64 25, .int .i64 p]]) (by simp [results, Tryz.results59, go_sem, HZ.out.1, HZ.out.2.1, HZ.out.2.2.1, HZ.out.2.2.2]) rfl ⟨?_, .inl ⟨by rw [HS2.out]; exact hlt, by rw [HS2.out]⟩⟩
            exact (((hnx.setCell (by simp) _).setCell (by simp) _).setCell (by simp) _).setCell (by simp) _
        · have HS2 : Hid (stop zs 5 = p) := by show _ = _; rw [← HST.out]; exact stop_end zs p (by rw [HL.out]; omega)
          obtain rfl : p = n := by omega
          have HR : Hid (readR zs = out.map (rawAt zs)) := by
            have e1 := HO.out
            rw [rest_end zs p (by rw [HL.out]; omega), List.append_nil] at e1
            show _ = _
            rw [readR, ← e1]
          obtain ⟨c0, c1, f1⟩ := cell_of_two hb0
          obtain ⟨d0, d1, g1⟩ := cell_of_two hb1
          have f0 : wr.frozen? ⟨w.heap.size, 0, none⟩ = false := by simp [World.frozen?, hb0]
          have g0 : wr.frozen? ⟨w.heap.size + 1, 0, none⟩ = false := by simp [World.frozen?, hb1]
          obtain ⟨b, off, rfl, _, w2⟩ := ha.below hnx 2 (by rw [HL.out]; omega)
          obtain ⟨b', off', e2, _, w3⟩ := ha.below hnx 3 (by rw [HL.out]; omega)
          simp at e2
          obtain ⟨rfl, rfl⟩ := e2
          have hz := set_two_boxes hb0 hb1 (by omega) (.int .u32 (nth zs 2)) (.int .u32 (nth zs 3)) (.int .i64 0) (.int .i64 0)
          have HZ : Hid _ := hz
          have h2 : (2 : Int) < (p : Int) := by omega
          have h3 : (3 : Int) < (p : Int) := by omega
          clear hz ha
          go_wp2
          go_region
          go_wp2
          refine bodyPost_ret (v := .tuple #[.agg #[.int .u32 (nth zs 2), .int .u32 (nth zs 3)], .slice ax out.length cx, .agg #[.int .i64 0, .int .i64 0]]) (by simp [results, Tryz.results59, go_sem, HZ.out.1, HZ.out.2.1, HZ.out.2.2.1, HZ.out.2.2.2]) rfl ⟨?_, .inr ⟨by rw [HS2.out]; omega, ax, cx, out.length, rfl, by rw [HR.out, List.length_map], ?_, ?_⟩⟩
          · exact ((((hnx.setCell (by simp) _).setCell (by simp) _).setCell (by simp) _).setCell (by simp) _).drew
          · rw [HR.out]
            have o1 := ownsRow_setCell_below (ownsRow_setCell_below (ownsRow_setCell_below (ownsRow_setCell_below hown (a := ⟨w.heap.size, 0, none⟩) (by simp) (.int .u32 (nth zs 2))) (a := ⟨w.heap.size, 1, none⟩) (by simp) (.int .u32 (nth zs 3))) (a := ⟨w.heap.size + 1, 0, none⟩) (by simp) (.int .i64 0)) (a := ⟨w.heap.size + 1, 1, none⟩) (by simp) (.int .i64 0)
            have r1 := (((hrow.setCell (g := w.heap.size) (j := 0) (by omega) (.int .u32 (nth zs 2))).setCell (g := w.heap.size) (j := 1) (by omega) (.int .u32 (nth zs 3))).setCell (g := w.heap.size + 1) (j := 0) (by omega) (.int .i64 0)).setCell (g := w.heap.size + 1) (j := 1) (by omega) (.int .i64 0)
            exact (r1.below (bel_drewN (Below.refl _ _) 1)).viewAny (own_below o1 (bel_drewN (Below.refl _ _) 1)) (by simp)
          · rw [HR.out, List.length_map]
            have o1 := ownsRow_setCell_below (ownsRow_setCell_below (ownsRow_setCell_below (ownsRow_setCell_below hown (a := ⟨w.heap.size, 0, none⟩) (by simp) (.int .u32 (nth zs 2))) (a := ⟨w.heap.size, 1, none⟩) (by simp) (.int .u32 (nth zs 3))) (a := ⟨w.heap.size + 1, 0, none⟩) (by simp) (.int .i64 0)) (a := ⟨w.heap.size + 1, 1, none⟩) (by simp) (.int .i64 0)
            exact nilW_own (own_below o1 (bel_drewN (Below.refl _ _) 1)) hnil
theorem refRead_anyN (a:Option Addr) (n cap:Nat) (zs:List Int) (w:World) (ha:View .u32 w a zs) (hl:zs.length=n) (hw:Within 4294967296 zs) :
  Calls Tryz.prog 59 #[.slice a n cap] w fun e w'=>Below w.heap.size w w'∧∃ ax cx m,e=.returned (.tuple #[.agg #[.int .u32 (readAt zs 2),.int .u32 (readAt zs 3)],.slice ax m cx,.agg #[.int .i64 (readE zs).1,.int .i64 (readE zs).2]])∧(readL zs).length=m∧RawsV w' ax (readL zs)∧NilW w' ax m:=by
 by_cases h0:(readE zs).1=0∧n≤1048576∧(headE zs 0).1=0
 ·obtain⟨h0,h1,h2⟩:=h0
  refine (refRead_bodyN a n cap zs w ha hl hw h1 h2).mono ?_
  rintro e w' ⟨hb,⟨h3,rfl⟩ | ⟨h3,ax,cx,m,rfl,h4,h5,h6⟩⟩
  ·exfalso
   have e1:readE zs=(25,stop zs 5):=by unfold readE;rw [if_neg (by omega),if_neg (by simp [h2]),if_pos (by omega)]
   rw [e1] at h0;cases h0
  ·have e1:readE zs=(0,0):=by unfold readE;rw [if_neg (by omega),if_neg (by simp [h2]),if_neg (by omega)]
   refine⟨hb,ax,cx,m,?_,?_,?_,?_⟩
   ·simp [readAt,e1]
   ·simp [readL,e1,h4]
   ·simp only [readL,e1];exact h5
   ·rw [← h4];exact h6
 ·refine (refRead_any a n cap zs w ha hl hw).mono ?_
  rintro e w' ⟨hb,ax,cx,m,rfl,h4,h5⟩
  have hm:m=0:=by
   by_cases e0:(readE zs).1=0
   ·exfalso
    have h1:n≤1048576:=by
     rcases Nat.lt_or_ge 1048576 n with h | h
     ·have:readE zs=(4,1048576):=by unfold readE;rw [if_pos (by omega)]
      rw [this] at e0;cases e0
     ·exact h
    have h2:(headE zs 0).1=0:=by
     by_cases e2:(headE zs 0).1=0
     ·exact e2
     ·have:readE zs=headE zs 0:=by unfold readE;rw [if_neg (by omega),if_pos e2]
      rw [this] at e0;exact absurd e0 e2
    exact h0 ⟨e0,h1,h2⟩
   ·rw [← h4];unfold readL;rw [if_neg e0];rfl
  exact⟨hb,ax,cx,m,rfl,h4,h5,fun b off j n' c' _ hj=>by omega⟩
theorem refText_any (a:Option Addr) (n cap:Nat) (zs:List Int) (w:World) (ha:View .u32 w a zs) (hl:zs.length=n) (hw:Within 4294967296 zs) (hn:4 * n≤140737488351232) :
  Calls Tryz.prog 139 #[.slice a n cap] w fun e w'=>e=.returned (.tuple #[.string (textI zs).1,.int .i64 (textI zs).2.1,.int .i64 (textI zs).2.2])∧Below w.heap.size w w':=by
 have hj:(joinL zs).length=4 * n:=by rw [joinL_len,hl]
 by_cases h:(joinL zs).length≤zeroAt (joinL zs)
 ·refine (refText_none a n cap zs w ha hl hw hn fun i hi=>zeroAt_before _ _ (by omega) (by omega)).mono ?_
  rintro e w' ⟨rfl,rfl⟩
  refine⟨?_,Below.refl _ _⟩
  rw [textI,if_pos h]
 ·have hz:zeroAt (joinL zs)<(joinL zs).length:=by omega
  have e4:4 * (zeroAt (joinL zs) / 4)+zeroAt (joinL zs) % 4=zeroAt (joinL zs):=by omega
  by_cases hp:padBad (joinL zs)=true
  ·have hp':=hp
   unfold padBad at hp'
   obtain⟨x,hx,hne⟩:=List.any_eq_true.1 hp'
   obtain⟨k,hk,rfl⟩:=List.mem_iff_getElem.1 hx
   rw [List.length_take,List.length_drop] at hk
   rw [List.getElem_take,List.getElem_drop] at hne
   refine (refText_pad a n cap zs w (zeroAt (joinL zs) / 4) (zeroAt (joinL zs) % 4) (zeroAt (joinL zs)+1+k) ha hl hw hn (by omega) (by omega) (fun i hi=>zeroAt_before _ _ (by omega) (by omega)) (by rw [e4];exact zeroAt_at _ hz) (by omega) (by omega) ?_).mono ?_
   ·rw [nth_lt _ _ (by omega)];simpa using hne
   ·rintro e w' ⟨rfl,rfl⟩
    refine⟨?_,Below.refl _ _⟩
    rw [textI,if_neg h,if_pos hp]
  ·refine (refText_ok a n cap zs w (zeroAt (joinL zs) / 4) (zeroAt (joinL zs) % 4) ha hl hw hn (by omega) (by omega) (fun i hi=>zeroAt_before _ _ (by omega) (by omega)) (by rw [e4];exact zeroAt_at _ hz) ?_).mono ?_
   ·intro i h1 h2
    have hi:i<(joinL zs).length:=by omega
    apply Classical.byContradiction
    intro hne
    apply hp
    unfold padBad
    refine List.any_eq_true.2 ⟨nth (joinL zs) i,?_,by simpa using hne⟩
    rw [nth_lt _ _ hi]
    refine List.mem_iff_getElem.2 ⟨i - zeroAt (joinL zs) - 1,?_,?_⟩
    ·rw [List.length_take,List.length_drop];omega
    ·rw [List.getElem_take,List.getElem_drop]
     congr 1;omega
   ·rintro e w' ⟨rfl,hb⟩
    refine⟨?_,hb⟩
    rw [textI,if_neg h,if_neg hp,e4]
def headR (re:Bool) (zs:List Int) (b:Int) (n:Nat):Int×Int :=
 if re then (if zs.length≤n then (0,41) else if noneB (nth zs n) b then (0,43) else ((n:Int)+1,0)) else ((n:Int),0)
def headsI (ty re:Bool) (zs:List Int) (b:Int):Int×Int :=
 if ty then (if zs.length=0 then (0,40) else if noneB (nth zs 0) b then (0,43) else headR re zs b 1) else headR re zs b 0
theorem view_two {w:World} {a:Option Addr} {x y:Int} {r:List Int} (h:View .u32 w a (x :: y :: r)):∃ g off,a=some ⟨g,off,none⟩∧g<w.heap.size∧w.cell? ⟨g,off,none⟩=some (.int .u32 x)∧w.cell? ⟨g,off+1,none⟩=some (.int .u32 y):=by
 obtain⟨g,off,rfl,hg,hc⟩:=h 0 (by simp)
 obtain⟨g',off',he,_,hc'⟩:=h 1 (by simp)
 cases he
 exact⟨g,off,rfl,hg,hc,hc'⟩
set_option maxHeartbeats 1000000 in
theorem refHeads_any (o:Int) (f:Frm) (a:Option Addr) (n cap:Nat) (zs:List Int) (b:Int) (w:World) (ha:View .u32 w a zs) (hl:zs.length=n) (hw:Within 4294967296 zs) (hn:4 * n≤140737488351232) (b0:0≤b) (b1:b<4294967296) :
  Calls Tryz.prog 97 #[formV o f,.slice a n cap,.int .u32 b] w fun e w'=>e=.returned (.tuple #[.int .i64 (headsI f.2.1 f.2.2.1 zs b).1,.int .i64 (headsI f.2.1 f.2.2.1 zs b).2])∧Below w.heap.size w w':=by
 have hN:∀ k,k<zs.length→∀ w,Calls Tryz.prog 109 #[.int .u32 (nth zs k),.int .u32 b] w fun e w'=>e=.returned (.bool (noneB (nth zs k) b))∧w=w':=fun k hk w=>none_any _ b w (hw.at hk).1 (hw.at hk).2 b0 b1
 obtain⟨nm,ty,re,fx,rs,mo,pa⟩:=f
 unfold formV
 rcases zs with _ | ⟨x,zs⟩
 ·obtain rfl:n=0:=by simpa using hl.symm
  cases ty <;> cases re
  all_goals go_enter Tryz.func97,Tryz.ntmps97
  all_goals go_wp2
  all_goals refine bodyPost_ret (v:=.tuple #[.int .i64 (headsI _ _ [] b).1,.int .i64 (headsI _ _ [] b).2]) ?_ rfl ⟨rfl,(Below.refl _ _).alloc (Nat.le_refl _) _⟩
  all_goals simp [results,Tryz.results97,go_sem,headsI,headR,nth]
 ·have hN0:=hN 0 (by simp)
  change ∀ w,Calls Tryz.prog 109 #[.int .u32 x,.int .u32 b] w fun e w'=>e=.returned (.bool (noneB x b))∧w=w' at hN0
  rcases zs with _ | ⟨y,zs⟩
  ·obtain rfl:n=1:=by simpa using hl.symm
   obtain⟨g,off,rfl,hg,hc⟩:=ha 0 (by simp)
   change w.cell? ⟨g,off,none⟩=some (.int .u32 x) at hc
   clear hw ha hl hN
   cases hx:noneB x b <;> cases ty <;> cases re
   all_goals rw [hx] at hN0
   all_goals go_enter Tryz.func97,Tryz.ntmps97
   all_goals go_wp2_with (go_at_call 109;refine (hN0 _).mono ?_;rintro e w' ⟨rfl,rfl⟩)
   all_goals refine bodyPost_ret (v:=.tuple #[.int .i64 (headsI _ _ [x] b).1,.int .i64 (headsI _ _ [x] b).2]) ?_ rfl ⟨rfl,(Below.refl _ _).alloc (Nat.le_refl _) _⟩
   all_goals simp [results,Tryz.results97,go_sem,headsI,headR,nth,hx]
  ·have hN1:=hN 1 (by simp)
   change ∀ w,Calls Tryz.prog 109 #[.int .u32 y,.int .u32 b] w fun e w'=>e=.returned (.bool (noneB y b))∧w=w' at hN1
   obtain⟨g,off,rfl,hg,hc,hc1⟩:=view_two ha
   have hn2:(2:Int)≤(n:Int):=by simp at hl;omega
   have hl2:zs.length+2=n:=by simpa using hl
   have HL:Hid (zs.length+2=n):=hl2
   clear hw ha hN hl hl2
   cases ty
   ·clear hN1 hc1
    cases re
    ·go_enter Tryz.func97,Tryz.ntmps97
     go_wp2
     refine bodyPost_ret (v:=.tuple #[.int .i64 (headsI _ _ (x :: y :: zs) b).1,.int .i64 (headsI _ _ (x :: y :: zs) b).2]) ?_ rfl ⟨rfl,(Below.refl _ _).alloc (Nat.le_refl _) _⟩
     simp [results,Tryz.results97,go_sem,headsI,headR,nth]
    ·cases hx:noneB x b
     all_goals rw [hx] at hN0
     all_goals go_enter Tryz.func97,Tryz.ntmps97
     all_goals go_wp2_with (go_at_call 109;refine (hN0 _).mono ?_;rintro e w' ⟨rfl,rfl⟩)
     all_goals refine bodyPost_ret (v:=.tuple #[.int .i64 (headsI _ _ (x :: y :: zs) b).1,.int .i64 (headsI _ _ (x :: y :: zs) b).2]) ?_ rfl ⟨rfl,(Below.refl _ _).alloc (Nat.le_refl _) _⟩
     all_goals simp [results,Tryz.results97,go_sem,headsI,headR,nth,hx]
   ·cases re
    ·clear hN1 hc1
     cases hx:noneB x b
     all_goals rw [hx] at hN0
     all_goals go_enter Tryz.func97,Tryz.ntmps97
     all_goals go_wp2_with (go_at_call 109;refine (hN0 _).mono ?_;rintro e w' ⟨rfl,rfl⟩)
     all_goals refine bodyPost_ret (v:=.tuple #[.int .i64 (headsI _ _ (x :: y :: zs) b).1,.int .i64 (headsI _ _ (x :: y :: zs) b).2]) ?_ rfl ⟨rfl,(Below.refl _ _).alloc (Nat.le_refl _) _⟩
     all_goals simp [results,Tryz.results97,go_sem,headsI,headR,nth,hx]
    ·cases hx:noneB x b <;> cases hy:noneB y b
     all_goals rw [hx] at hN0
     all_goals rw [hy] at hN1
     all_goals go_enter Tryz.func97,Tryz.ntmps97
     all_goals go_wp2_with fail
     all_goals go_at_call 109;refine (hN0 _).mono ?_;rintro e w' ⟨rfl,rfl⟩
     all_goals go_wp2_with (go_at_call 109;refine (hN1 _).mono ?_;rintro e w' ⟨rfl,rfl⟩)
     all_goals refine bodyPost_ret (v:=.tuple #[.int .i64 (headsI _ _ (x :: y :: zs) b).1,.int .i64 (headsI _ _ (x :: y :: zs) b).2]) ?_ rfl ⟨rfl,(Below.refl _ _).alloc (Nat.le_refl _) _⟩
     all_goals simp [results,Tryz.results97,go_sem,headsI,headR,nth,hx,hy]
theorem three_set {w:World} {B T:Nat} {z0 z1 z2:Value} (h:w.heap[B]?=some (.cells #[z0,z1,z2] T (0,0))) (u0 u1 u2:Value) :
  (((w.setCell ⟨B,0,none⟩ u0).setCell ⟨B,1,none⟩ u1).setCell ⟨B,2,none⟩ u2).heap[B]?=some (.cells #[u0,u1,u2] T (0,0)):=by
 simp only [World.setCell,Array.getElem?_modify,h];simp
theorem three_below (w:World) (B:Nat) (u0 u1 u2:Value):Below B w (((w.setCell ⟨B,0,none⟩ u0).setCell ⟨B,1,none⟩ u1).setCell ⟨B,2,none⟩ u2) :=
 (((Below.refl B w).setCell (Nat.le_refl _) _).setCell (Nat.le_refl _) _).setCell (Nat.le_refl _) _
set_option maxHeartbeats 4000000 in
theorem refArgument_any (c:Int) (a:Option Addr) (n cap:Nat) (zs:List Int) (b:Int) (w:World) (ha:View .u32 w a zs) (hl:zs.length=n) (hw:Within 4294967296 zs) (hn:4 * n≤140737488351232) (b0:0≤b) (b1:b<4294967296) :
  Calls Tryz.prog 98 #[.int .u8 c,.slice a n cap,.int .u32 b] w fun e w'=>e=.returned (.tuple #[argV (argI c zs b).1,.int .i64 (argI c zs b).2.1,.int .i64 (argI c zs b).2.2])∧Below w.heap.size w w':=by
 by_cases h0:c=0∨zs.length=0
 ·have he:argI c zs b=(noArg,0,42):=by rw [argI,if_pos h0]
  rw [he]
  by_cases hc0:c=0
  ·subst hc0
   go_enter Tryz.func98,Tryz.ntmps98
   go_wp2
   refine bodyPost_ret (v:=.tuple #[argV noArg,.int .i64 0,.int .i64 42]) ?_ rfl ⟨rfl,?_⟩
   ·simp [results,Tryz.results98,go_sem,argV,noArg]
   ·first | exact Below.refl _ _ | exact (Below.refl _ _).alloc (Nat.le_refl _) _
  ·obtain rfl:n=0:=by omega
   have hc0':(c==0)=false:=by simpa using hc0
   go_enter Tryz.func98,Tryz.ntmps98
   go_wp2
   refine bodyPost_ret (v:=.tuple #[argV noArg,.int .i64 0,.int .i64 42]) ?_ rfl ⟨rfl,?_⟩
   ·simp [results,Tryz.results98,go_sem,argV,noArg]
   ·first | exact Below.refl _ _ | exact (Below.refl _ _).alloc (Nat.le_refl _) _
 ·have hc0:¬ c=0:=fun h=>h0 (.inl h)
  have hz:0<zs.length:=by omega
  have hc0':(c==0)=false:=by simpa using hc0
  have hn0:(1:Int)≤(n:Int):=by omega
  have hK:=fun w=>refKind_any c w
  have hNo:=fun w=>none_any (nth zs 0) b w (hw.at hz).1 (hw.at hz).2 b0 b1
  have hE:=fun w=>refEnum_any c (nth zs 0) w
  have HV:∀ w1,Below w.heap.size w w1→Hid (Calls Tryz.prog 139 #[.slice a n cap] w1 fun e w'=>e=.returned (.tuple #[.string (textI zs).1,.int .i64 (textI zs).2.1,.int .i64 (textI zs).2.2])∧Below w1.heap.size w1 w'):=fun w1 hb=>refText_any a n cap zs w1 (ha.below hb) hl hw hn
  have HA:Hid (View .u32 w a zs):=ha
  by_cases k3:kindI c=3
  ·have he:argI c zs b=((3,0,(textI zs).1),(textI zs).2.1,(textI zs).2.2):=by rw [argI,if_neg h0,if_pos k3]
   rw [he]
   rw [k3] at hK
   clear ha hl hw hNo hE he h0 k3 hc0 hz
   go_enter Tryz.func98,Tryz.ntmps98
   go_wp2_with fail
   refine (hK _).mono ?_
   rintro e w1 ⟨rfl,hb1⟩
   have hb1':Below w.heap.size w w1:=((Below.refl _ _).alloc (Nat.le_refl _) _).trans (hb1.mono (by simp))
   have hbx:=hb1.block w.heap.size (by simp)
   rw [alloc_new] at hbx
   have HT:=HV w1 hb1'
   have hsz:w.heap.size<w1.heap.size:=by have:=hb1.size;simp at this;omega
   clear HV hK hb1
   go_wp2_with fail
   refine HT.out.mono ?_
   rintro e w2 ⟨rfl,hb2⟩
   have hb2':=hb1'.trans (hb2.mono (by omega))
   have hbx2:=(hb2.block _ hsz).trans hbx
   obtain⟨hc,hf⟩:=one_block hbx2
   have c0:=hc 0
   have c1:=hc 1
   have c2:=hc 2
   have hsz2:w.heap.size<w2.heap.size:=by have:=hb2.size;omega
   clear HT hb1' hb2 hbx hsz w1
   go_wp2
   have hB:=three_set hbx2 (.int .u8 3) (.int .u32 0) (.string (textI zs).1)
   have hW:=hb2'.trans (three_below w2 w.heap.size (.int .u8 3) (.int .u32 0) (.string (textI zs).1))
   clear hc hf c0 c1 c2 hbx2 hb2' hsz2
   generalize ((w2.setCell _ _).setCell _ _).setCell _ _=W at hB hW ⊢
   obtain⟨hd,hf⟩:=one_block hB
   have d0:=hd 0
   have d1:=hd 1
   have d2:=hd 2
   refine bodyPost_ret (v:=.tuple #[argV (3,0,(textI zs).1),.int .i64 (textI zs).2.1,.int .i64 (textI zs).2.2]) ?_ rfl ⟨rfl,hW⟩
   simp [results,Tryz.results98,go_sem,argV,d0,d1,d2]
  ·have k3':(kindI c==3)=false:=by simpa using k3
   obtain⟨g,off,rfl,hg,hcx⟩:=ha 0 hz
   have he:argI c zs b=(if kindI c=1∧noneB (nth zs 0) b=true then (noArg,0,43) else if kindI c=4∧enumB c (nth zs 0)=false then (noArg,0,31) else ((kindI c,nth zs 0,⟨#[]⟩),1,0)):=by rw [argI,if_neg h0,if_neg k3]
   rw [he]
   clear HV HA ha hl hw he h0 hz
   generalize nth zs 0=x at hNo hE hcx ⊢
   clear zs
   generalize kindI c=kd at hK k3 k3' ⊢
   generalize noneB x b=nb at hNo ⊢
   generalize enumB c x=eb at hE ⊢
   generalize enumS c x=es at hE
   change w.cell? ⟨g,off,none⟩=some (.int .u32 x) at hcx
   by_cases k1:kd=1
   ·subst k1
    cases nb
    ·rw [if_neg (by simp),if_neg (by simp)]
     go_enter Tryz.func98,Tryz.ntmps98
     go_wp2_with fail
     refine (hK _).mono ?_
     rintro e w1 ⟨rfl,hb1⟩
     have hb1':Below w.heap.size w w1:=((Below.refl _ _).alloc (Nat.le_refl _) _).trans (hb1.mono (by simp))
     have hbx:=hb1.block w.heap.size (by simp)
     rw [alloc_new] at hbx
     have hsz:w.heap.size<w1.heap.size:=by have:=hb1.size;simp at this;omega
     have hcx1:w1.cell? ⟨g,off,none⟩=some (.int .u32 x):=by rw [hb1'.cell hg];exact hcx
     clear hK hb1 hcx
     go_wp2_with fail
     refine (hNo _).mono ?_
     rintro e w2 ⟨rfl,rfl⟩
     clear hNo
     go_wp2_with fail
     refine (hE _).mono ?_
     rintro e w2 ⟨rfl,hb2⟩
     have hb2':=hb1'.trans (hb2.mono (by omega))
     have hbx2:=(hb2.block _ hsz).trans hbx
     have hcx2:w2.cell? ⟨g,off,none⟩=some (.int .u32 x):=by rw [hb2.cell (by show g<_;omega)];exact hcx1
     have hsz2:w.heap.size<w2.heap.size:=by have:=hb2.size;omega
     clear hE hb1' hb2 hbx hsz hcx1
     clear w1
     obtain⟨hc,hf⟩:=one_block hbx2
     have c0:=hc 0
     have c1:=hc 1
     have c2:=hc 2
     go_wp2
     have hB:=three_set hbx2 (.int .u8 1) (.int .u32 x) (.string ⟨#[]⟩)
     have hW:=hb2'.trans (three_below w2 w.heap.size (.int .u8 1) (.int .u32 x) (.string ⟨#[]⟩))
     clear hc hf c0 c1 c2 hbx2 hb2'
     generalize ((w2.setCell _ _).setCell _ _).setCell _ _=W at hB hW ⊢
     obtain⟨hd,hf⟩:=one_block hB
     have d0:=hd 0
     have d1:=hd 1
     have d2:=hd 2
     refine bodyPost_ret (v:=.tuple #[.agg #[.int .u8 1,.int .u32 x,.string ⟨#[]⟩],.int .i64 1,.int .i64 0]) ?_ rfl ⟨rfl,hW⟩
     simp [results,Tryz.results98,go_sem,d0,d1,d2]
    ·rw [if_pos ⟨rfl,rfl⟩]
     clear hE
     go_enter Tryz.func98,Tryz.ntmps98
     go_wp2_with fail
     refine (hK _).mono ?_
     rintro e w1 ⟨rfl,hb1⟩
     have hb1':Below w.heap.size w w1:=((Below.refl _ _).alloc (Nat.le_refl _) _).trans (hb1.mono (by simp))
     have hbx:=hb1.block w.heap.size (by simp)
     rw [alloc_new] at hbx
     have hsz:w.heap.size<w1.heap.size:=by have:=hb1.size;simp at this;omega
     have hcx1:w1.cell? ⟨g,off,none⟩=some (.int .u32 x):=by rw [hb1'.cell hg];exact hcx
     clear hK hb1 hcx
     go_wp2_with fail
     refine (hNo _).mono ?_
     rintro e w2 ⟨rfl,rfl⟩
     clear hNo
     obtain⟨hc,hf⟩:=one_block hbx
     have c0:=hc 0
     have c1:=hc 1
     have c2:=hc 2
     go_wp2
     have hB:=three_set hbx (.int .u8 0) (.int .u32 0) (.string ⟨#[]⟩)
     have hW:=hb1'.trans (three_below w1 w.heap.size (.int .u8 0) (.int .u32 0) (.string ⟨#[]⟩))
     clear hc hf c0 c1 c2 hbx hb1'
     generalize ((w1.setCell _ _).setCell _ _).setCell _ _=W at hB hW ⊢
     obtain⟨hd,hf⟩:=one_block hB
     have d0:=hd 0
     have d1:=hd 1
     have d2:=hd 2
     refine bodyPost_ret (v:=.tuple #[.agg #[.int .u8 0,.int .u32 0,.string ⟨#[]⟩],.int .i64 0,.int .i64 43]) ?_ rfl ⟨rfl,hW⟩
     simp [results,Tryz.results98,go_sem,d0,d1,d2]
   ·by_cases k4:kd=4
    ·subst k4
     cases eb
     ·rw [if_neg (by simp),if_pos ⟨rfl,rfl⟩]
      clear hNo
      go_enter Tryz.func98,Tryz.ntmps98
      go_wp2_with fail
      refine (hK _).mono ?_
      rintro e w1 ⟨rfl,hb1⟩
      have hb1':Below w.heap.size w w1:=((Below.refl _ _).alloc (Nat.le_refl _) _).trans (hb1.mono (by simp))
      have hbx:=hb1.block w.heap.size (by simp)
      rw [alloc_new] at hbx
      have hsz:w.heap.size<w1.heap.size:=by have:=hb1.size;simp at this;omega
      have hcx1:w1.cell? ⟨g,off,none⟩=some (.int .u32 x):=by rw [hb1'.cell hg];exact hcx
      clear hK hb1 hcx
      go_wp2_with fail
      refine (hE _).mono ?_
      rintro e w2 ⟨rfl,hb2⟩
      have hb2':=hb1'.trans (hb2.mono (by omega))
      have hbx2:=(hb2.block _ hsz).trans hbx
      have hcx2:w2.cell? ⟨g,off,none⟩=some (.int .u32 x):=by rw [hb2.cell (by show g<_;omega)];exact hcx1
      have hsz2:w.heap.size<w2.heap.size:=by have:=hb2.size;omega
      clear hE hb1' hb2 hbx hsz hcx1
      clear w1
      obtain⟨hc,hf⟩:=one_block hbx2
      have c0:=hc 0
      have c1:=hc 1
      have c2:=hc 2
      go_wp2
      have hB:=three_set hbx2 (.int .u8 0) (.int .u32 0) (.string ⟨#[]⟩)
      have hW:=hb2'.trans (three_below w2 w.heap.size (.int .u8 0) (.int .u32 0) (.string ⟨#[]⟩))
      clear hc hf c0 c1 c2 hbx2 hb2'
      generalize ((w2.setCell _ _).setCell _ _).setCell _ _=W at hB hW ⊢
      obtain⟨hd,hf⟩:=one_block hB
      have d0:=hd 0
      have d1:=hd 1
      have d2:=hd 2
      refine bodyPost_ret (v:=.tuple #[.agg #[.int .u8 0,.int .u32 0,.string ⟨#[]⟩],.int .i64 0,.int .i64 31]) ?_ rfl ⟨rfl,hW⟩
      simp [results,Tryz.results98,go_sem,d0,d1,d2]
     ·rw [if_neg (by simp),if_neg (by simp)]
      clear hNo
      go_enter Tryz.func98,Tryz.ntmps98
      go_wp2_with fail
      refine (hK _).mono ?_
      rintro e w1 ⟨rfl,hb1⟩
      have hb1':Below w.heap.size w w1:=((Below.refl _ _).alloc (Nat.le_refl _) _).trans (hb1.mono (by simp))
      have hbx:=hb1.block w.heap.size (by simp)
      rw [alloc_new] at hbx
      have hsz:w.heap.size<w1.heap.size:=by have:=hb1.size;simp at this;omega
      have hcx1:w1.cell? ⟨g,off,none⟩=some (.int .u32 x):=by rw [hb1'.cell hg];exact hcx
      clear hK hb1 hcx
      go_wp2_with fail
      refine (hE _).mono ?_
      rintro e w2 ⟨rfl,hb2⟩
      have hb2':=hb1'.trans (hb2.mono (by omega))
      have hbx2:=(hb2.block _ hsz).trans hbx
      have hcx2:w2.cell? ⟨g,off,none⟩=some (.int .u32 x):=by rw [hb2.cell (by show g<_;omega)];exact hcx1
      have hsz2:w.heap.size<w2.heap.size:=by have:=hb2.size;omega
      clear hE hb1' hb2 hbx hsz hcx1
      clear w1
      obtain⟨hc,hf⟩:=one_block hbx2
      have c0:=hc 0
      have c1:=hc 1
      have c2:=hc 2
      go_wp2
      have hB:=three_set hbx2 (.int .u8 4) (.int .u32 x) (.string ⟨#[]⟩)
      have hW:=hb2'.trans (three_below w2 w.heap.size (.int .u8 4) (.int .u32 x) (.string ⟨#[]⟩))
      clear hc hf c0 c1 c2 hbx2 hb2'
      generalize ((w2.setCell _ _).setCell _ _).setCell _ _=W at hB hW ⊢
      obtain⟨hd,hf⟩:=one_block hB
      have d0:=hd 0
      have d1:=hd 1
      have d2:=hd 2
      refine bodyPost_ret (v:=.tuple #[.agg #[.int .u8 4,.int .u32 x,.string ⟨#[]⟩],.int .i64 1,.int .i64 0]) ?_ rfl ⟨rfl,hW⟩
      simp [results,Tryz.results98,go_sem,d0,d1,d2]
    ·rw [if_neg (fun h=>k1 h.1),if_neg (fun h=>k4 h.1)]
     have k1':(kd==1)=false:=by simpa using k1
     have k4':(kd==4)=false:=by simpa using k4
     clear hNo k1 k4 k3
     go_enter Tryz.func98,Tryz.ntmps98
     go_wp2_with fail
     refine (hK _).mono ?_
     rintro e w1 ⟨rfl,hb1⟩
     have hb1':Below w.heap.size w w1:=((Below.refl _ _).alloc (Nat.le_refl _) _).trans (hb1.mono (by simp))
     have hbx:=hb1.block w.heap.size (by simp)
     rw [alloc_new] at hbx
     have hsz:w.heap.size<w1.heap.size:=by have:=hb1.size;simp at this;omega
     have hcx1:w1.cell? ⟨g,off,none⟩=some (.int .u32 x):=by rw [hb1'.cell hg];exact hcx
     clear hK hb1 hcx
     go_wp2_with fail
     refine (hE _).mono ?_
     rintro e w2 ⟨rfl,hb2⟩
     have hb2':=hb1'.trans (hb2.mono (by omega))
     have hbx2:=(hb2.block _ hsz).trans hbx
     have hcx2:w2.cell? ⟨g,off,none⟩=some (.int .u32 x):=by rw [hb2.cell (by show g<_;omega)];exact hcx1
     have hsz2:w.heap.size<w2.heap.size:=by have:=hb2.size;omega
     clear hE hb1' hb2 hbx hsz hcx1
     clear w1
     obtain⟨hc,hf⟩:=one_block hbx2
     have c0:=hc 0
     have c1:=hc 1
     have c2:=hc 2
     go_wp2
     have hB:=three_set hbx2 (.int .u8 kd) (.int .u32 x) (.string ⟨#[]⟩)
     have hW:=hb2'.trans (three_below w2 w.heap.size (.int .u8 kd) (.int .u32 x) (.string ⟨#[]⟩))
     clear hc hf c0 c1 c2 hbx2 hb2'
     generalize ((w2.setCell _ _).setCell _ _).setCell _ _=W at hB hW ⊢
     obtain⟨hd,hf⟩:=one_block hB
     have d0:=hd 0
     have d1:=hd 1
     have d2:=hd 2
     refine bodyPost_ret (v:=.tuple #[.agg #[.int .u8 kd,.int .u32 x,.string ⟨#[]⟩],.int .i64 1,.int .i64 0]) ?_ rfl ⟨rfl,hW⟩
     simp [results,Tryz.results98,go_sem,d0,d1,d2]
end Go.Proofs.YtonhnflilfjkbaaGreatDoor
