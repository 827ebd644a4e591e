/-
  Texts in one: LayoutKept, IdsCheckF, GraphNew, Ref04Ids.
-/
import Derived.Test.YtlcaedibmlidlaaGreatB26
namespace Go.Proofs.YtlcaedibmlidlaaGreat
open Go.RowKit
set_option linter.unusedVariables false
set_option linter.unusedSimpArgs false
set_option maxRecDepth 10000
theorem kept_parts (w1:World) (f:Nat→Int) (e1 e2:Int) :
  let W2:=(w1.alloc (.cells #[.int .i64 0,.int .i64 0,.int .i64 0,.int .i64 0,.int .i64 0,.int .i64 0,.int .i64 0,.int .i64 0,.int .i64 0,.int .i64 0,.int .i64 0,.int .i64 0,.int .i64 0,.int .i64 0,.int .i64 0,.int .i64 0,.int .i64 0,.int .i64 0,.int .i64 0,.int .i64 0] 83)).alloc (.cells #[.int .i64 0,.int .i64 0] 33)
  let X:=(W2.setCells w1.heap.size 0 [.int .i64 (f 0),.int .i64 (f 1),.int .i64 (f 2),.int .i64 (f 3),.int .i64 (f 4),.int .i64 (f 5),.int .i64 (f 6),.int .i64 (f 7),.int .i64 (f 8),.int .i64 (f 9),.int .i64 (f 10),.int .i64 (f 11),.int .i64 (f 12),.int .i64 (f 13),.int .i64 (f 14),.int .i64 (f 15),.int .i64 (f 16),.int .i64 (f 17),.int .i64 (f 18),.int .i64 (f 19)]).setCells (w1.heap.size+1) 0 [.int .i64 e1,.int .i64 e2]
  W2.there w1.heap.size 0 20∧(W2.setCells w1.heap.size 0 [.int .i64 (f 0),.int .i64 (f 1),.int .i64 (f 2),.int .i64 (f 3),.int .i64 (f 4),.int .i64 (f 5),.int .i64 (f 6),.int .i64 (f 7),.int .i64 (f 8),.int .i64 (f 9),.int .i64 (f 10),.int .i64 (f 11),.int .i64 (f 12),.int .i64 (f 13),.int .i64 (f 14),.int .i64 (f 15),.int .i64 (f 16),.int .i64 (f 17),.int .i64 (f 18),.int .i64 (f 19)]).there (w1.heap.size+1) 0 2∧X.heap[w1.heap.size]?=some (.cells #[.int .i64 (f 0),.int .i64 (f 1),.int .i64 (f 2),.int .i64 (f 3),.int .i64 (f 4),.int .i64 (f 5),.int .i64 (f 6),.int .i64 (f 7),.int .i64 (f 8),.int .i64 (f 9),.int .i64 (f 10),.int .i64 (f 11),.int .i64 (f 12),.int .i64 (f 13),.int .i64 (f 14),.int .i64 (f 15),.int .i64 (f 16),.int .i64 (f 17),.int .i64 (f 18),.int .i64 (f 19)] 83 (0,0))∧X.heap[w1.heap.size+1]?=some (.cells #[.int .i64 e1,.int .i64 e2] 33 (0,0))∧Below w1.heap.size w1 X∧w1.heap.size+1<X.heap.size:=by
 intro W2 X
 have h1:W2.heap[w1.heap.size]?=some (.cells #[.int .i64 0,.int .i64 0,.int .i64 0,.int .i64 0,.int .i64 0,.int .i64 0,.int .i64 0,.int .i64 0,.int .i64 0,.int .i64 0,.int .i64 0,.int .i64 0,.int .i64 0,.int .i64 0,.int .i64 0,.int .i64 0,.int .i64 0,.int .i64 0,.int .i64 0,.int .i64 0] 83 (0,0)):=by
  show (World.alloc _ _).heap[_]?=_
  rw [Below.heap_alloc _ _ _ (by simp)];exact heap_alloc_new w1 _
 have h2:W2.heap[w1.heap.size+1]?=some (.cells #[.int .i64 0,.int .i64 0] 33 (0,0)):=by
  have:=heap_alloc_new (w1.alloc (.cells #[.int .i64 0,.int .i64 0,.int .i64 0,.int .i64 0,.int .i64 0,.int .i64 0,.int .i64 0,.int .i64 0,.int .i64 0,.int .i64 0,.int .i64 0,.int .i64 0,.int .i64 0,.int .i64 0,.int .i64 0,.int .i64 0,.int .i64 0,.int .i64 0,.int .i64 0,.int .i64 0] 83)) (.cells #[.int .i64 0,.int .i64 0] 33)
  rw [World.size_alloc] at this
  exact this
 have hg:=setCells_grown w1.heap.size [.int .i64 (f 0),.int .i64 (f 1),.int .i64 (f 2),.int .i64 (f 3),.int .i64 (f 4),.int .i64 (f 5),.int .i64 (f 6),.int .i64 (f 7),.int .i64 (f 8),.int .i64 (f 9),.int .i64 (f 10),.int .i64 (f 11),.int .i64 (f 12),.int .i64 (f 13),.int .i64 (f 14),.int .i64 (f 15),.int .i64 (f 16),.int .i64 (f 17),.int .i64 (f 18),.int .i64 (f 19)] 0 W2
 have hs:W2.heap.size=w1.heap.size+2:=by show (World.alloc _ _).heap.size=_;simp
 have hb2:Below w1.heap.size w1 W2:=((Below.refl _ w1).alloc (Nat.le_refl _) _).alloc (by simp) _
 have k2:=(hg.block (w1.heap.size+1) (by omega) (by simp)).trans h2
 have hg2:=setCells_grown (w1.heap.size+1) [.int .i64 e1,.int .i64 e2] 0 (W2.setCells w1.heap.size 0 [.int .i64 (f 0),.int .i64 (f 1),.int .i64 (f 2),.int .i64 (f 3),.int .i64 (f 4),.int .i64 (f 5),.int .i64 (f 6),.int .i64 (f 7),.int .i64 (f 8),.int .i64 (f 9),.int .i64 (f 10),.int .i64 (f 11),.int .i64 (f 12),.int .i64 (f 13),.int .i64 (f 14),.int .i64 (f 15),.int .i64 (f 16),.int .i64 (f 17),.int .i64 (f 18),.int .i64 (f 19)])
 have hs2:w1.heap.size+1<(W2.setCells w1.heap.size 0 [.int .i64 (f 0),.int .i64 (f 1),.int .i64 (f 2),.int .i64 (f 3),.int .i64 (f 4),.int .i64 (f 5),.int .i64 (f 6),.int .i64 (f 7),.int .i64 (f 8),.int .i64 (f 9),.int .i64 (f 10),.int .i64 (f 11),.int .i64 (f 12),.int .i64 (f 13),.int .i64 (f 14),.int .i64 (f 15),.int .i64 (f 16),.int .i64 (f 17),.int .i64 (f 18),.int .i64 (f 19)]).heap.size:=Nat.lt_of_lt_of_le (show w1.heap.size+1<W2.heap.size by omega) hg.size
 refine⟨there_of_block h1 20 rfl,there_of_block k2 2 rfl,(hg2.block _ (by omega) (by simp)).trans (setCells_all [.int .i64 (f 0),.int .i64 (f 1),.int .i64 (f 2),.int .i64 (f 3),.int .i64 (f 4),.int .i64 (f 5),.int .i64 (f 6),.int .i64 (f 7),.int .i64 (f 8),.int .i64 (f 9),.int .i64 (f 10),.int .i64 (f 11),.int .i64 (f 12),.int .i64 (f 13),.int .i64 (f 14),.int .i64 (f 15),.int .i64 (f 16),.int .i64 (f 17),.int .i64 (f 18),.int .i64 (f 19)] h1 rfl),setCells_all [.int .i64 e1,.int .i64 e2] k2 rfl,below_grown (below_grown hb2 hg (fun g e=>by simp at e;omega)) hg2 (fun g e=>by simp at e;omega),Nat.lt_of_lt_of_le hs2 hg2.size⟩
set_option maxHeartbeats 8000000 in
theorem idsCheck_any (gen bnd:Int) (a:Option Addr) (n c:Nat) (l:List InstT) (w:World) (hv:InstsV w a l) (hok:InstsOk l) (hl:l.length=n) (hn:40 * n≤140737488351232) (g0:0≤gen) (g1:gen<4294967296) (b0:0≤bnd) (b1:bnd<4294967296) :
  Calls Tryz.prog 32 #[modV gen bnd a n c] w fun e w'=>e=.returned (.agg #[.int .i64 (idsE bnd l).1,.int .i64 ((idsE bnd l).2:Int)])∧Below w.heap.size w w':=by
 obtain⟨L,hL⟩:∃ L,L=idsE bnd l:=⟨_,rfl⟩
 rw [← hL]
 have hb0:Below w.heap.size w ((w.alloc (.cells #[.int .u32 gen,.int .u32 bnd,.slice a n c] 25)).alloc (.cells #[.int .i64 0,.int .i64 0] 33)):=((Below.refl _ w).alloc (Nat.le_refl _) _).alloc (by simp) _
 have hPp:=layParts_any gen bnd a n c l _ (hv.below hb0) hok hl hn g0 g1 b0 b1
 have HFF:=hide fun wx (h:InstsV wx a l) (h2:n≤1048576) (h3:okTo l n)=>firstFault_any a n c l wx h hok hl h2 h3
 have HE1:Hid ((layE bnd l).1≠0→L=layE bnd l):=fun h=>by rw [hL];unfold idsE;rw [if_pos h]
 have HE0:Hid ((layE bnd l).1=0→L=idsF l n 0∧n≤1048576∧okTo l n∧partsF bnd l 14=((cntP l 7 n:Nat):Int)∧partsF bnd l 15=((cntP l 8 n:Nat):Int)):=fun h=>by
  obtain⟨q1,q2,q3⟩:=layE_ok h
  rw [hl] at q1
  refine⟨by rw [hL];unfold idsE;rw [if_neg (by simpa using h),hl],by rw [← hl];exact (shape_few q2).1,q1,?_,?_⟩
  ·unfold partsF;rw [if_neg (by simpa using h),hl]
  ·unfold partsF;rw [if_neg (by simpa using h),hl]
 have HMB:Hid (((w.alloc (.cells #[.int .u32 gen,.int .u32 bnd,.slice a n c] 25)).alloc (.cells #[.int .i64 0,.int .i64 0] 33)).heap[w.heap.size]?=some (.cells #[.int .u32 gen,.int .u32 bnd,.slice a n c] 25 (0,0))):=by
  show _=_
  rw [Below.heap_alloc _ _ _ (by simp)];exact heap_alloc_new w _
 have HRB:Hid (SpotB ((w.alloc (.cells #[.int .u32 gen,.int .u32 bnd,.slice a n c] 25)).alloc (.cells #[.int .i64 0,.int .i64 0] 33)) (w.heap.size+1) 0 0):=by
  have:=heap_alloc_new (w.alloc (.cells #[.int .u32 gen,.int .u32 bnd,.slice a n c] 25)) (.cells #[.int .i64 0,.int .i64 0] 33)
  rw [World.size_alloc] at this
  exact this
 have HLT:Hid (w.heap.size+1<((w.alloc (.cells #[.int .u32 gen,.int .u32 bnd,.slice a n c] 25)).alloc (.cells #[.int .i64 0,.int .i64 0] 33)).heap.size):=by show _<_;simp
 have HB0:=hide hb0
 have HV:=hide hv
 have HRET:Hid (∀ (a':Act) (Z:World),slot a'.tmps 2=.pointer (some ⟨w.heap.size+1,0,none⟩)→a'.defers=[]→SpotB Z (w.heap.size+1) L.1 (L.2:Int)→Below w.heap.size w Z→bodyPost Tryz.prog Tryz.f32 (fun e w'=>e=.returned (.agg #[.int .i64 L.1,.int .i64 (L.2:Int)])∧Below w.heap.size w w') .ret a' Z):=by
  intro a' Z q2 q3 q4 q5
  have r6:=run_loadVar_mid (P:=Tryz.prog) Z (w.heap.size+1) 0 33 [.int .i64 L.1,.int .i64 (L.2:Int)] _ (range_of_block q4) Tryz.underlying33 rfl (by kernel_rfl)
  refine bodyPost_ret (v:=.agg #[.int .i64 L.1,.int .i64 (L.2:Int)]) ?_ q3 ⟨rfl,q5⟩
  have hG2:a'.tmps.getD 2 undef=.pointer (some ⟨w.heap.size+1,0,none⟩):=q2
  simp only [results,Tryz.results32,List.mapM_toArray,List.mapM_cons,List.mapM_nil,hG2,asAddr,Sem.run_bind,Sem.run_pure,Result.andThen_ok,bind_assoc,pure_bind,Sem.run_map,map_pure,r6]
  rfl
 generalize partsF bnd l=f at *
 generalize layE bnd l=E at *
 obtain⟨e1,e2⟩:=E
 unfold modV partsV at *
 simp only at *
 clear hb0 hv hok hl hL
 go_enter Tryz.func32,Tryz.ntmps32
 go_wp2_with fail
 generalize (w.alloc (.cells #[.int .u32 gen,.int .u32 bnd,.slice a n c] 25)).alloc (.cells #[.int .i64 0,.int .i64 0] 33)=W0 at *
 refine hPp.mono ?_
 rintro e w1 ⟨rfl,hb1⟩
 obtain⟨k1,k2,k3,k4,k5,k6⟩:=kept_parts w1 f e1 e2
 have HK1:=hide k1
 have HK2:=hide k2
 have HK3:=hide k3
 have HK4:=hide k4
 have HK5:=hide (hb1.trans (k5.mono hb1.size))
 have HK6:=hide k6
 have HS1:Hid (W0.heap.size≤w1.heap.size):=hb1.size
 clear k1 k2 k3 k4 k5 k6 hPp hb1
 go_wp2_with (with_reducible refine stopS 83 ?_)
 refine wpList_store_mid rfl 83 (.tmp 3) (.tmp 8) rfl w1.heap.size 0 #[.int .i64 (f 0),.int .i64 (f 1),.int .i64 (f 2),.int .i64 (f 3),.int .i64 (f 4),.int .i64 (f 5),.int .i64 (f 6),.int .i64 (f 7),.int .i64 (f 8),.int .i64 (f 9),.int .i64 (f 10),.int .i64 (f 11),.int .i64 (f 12),.int .i64 (f 13),.int .i64 (f 14),.int .i64 (f 15),.int .i64 (f 16),.int .i64 (f 17),.int .i64 (f 18),.int .i64 (f 19)] rfl rfl HK1.out (by kernel_rfl) (by simp [Value.oneCell']) ?_
 simp only [Act.put]
 refine wpList_store_mid rfl 33 (.tmp 4) (.tmp 9) rfl (w1.heap.size+1) 0 #[.int .i64 e1,.int .i64 (e2:Nat)] rfl rfl HK2.out (by kernel_rfl) (by simp [Value.oneCell']) ?_
 simp only [Act.put]
 generalize (((w1.alloc (.cells #[.int .i64 0,.int .i64 0,.int .i64 0,.int .i64 0,.int .i64 0,.int .i64 0,.int .i64 0,.int .i64 0,.int .i64 0,.int .i64 0,.int .i64 0,.int .i64 0,.int .i64 0,.int .i64 0,.int .i64 0,.int .i64 0,.int .i64 0,.int .i64 0,.int .i64 0,.int .i64 0] 83)).alloc (.cells #[.int .i64 0,.int .i64 0] 33)).setCells w1.heap.size 0 [.int .i64 (f 0),.int .i64 (f 1),.int .i64 (f 2),.int .i64 (f 3),.int .i64 (f 4),.int .i64 (f 5),.int .i64 (f 6),.int .i64 (f 7),.int .i64 (f 8),.int .i64 (f 9),.int .i64 (f 10),.int .i64 (f 11),.int .i64 (f 12),.int .i64 (f 13),.int .i64 (f 14),.int .i64 (f 15),.int .i64 (f 16),.int .i64 (f 17),.int .i64 (f 18),.int .i64 (f 19)]).setCells (w1.heap.size+1) 0 [.int .i64 e1,.int .i64 (e2:Nat)]=X at *
 clear HK1 HK2
 have hl0:=HLT.out
 have hs1:=HS1.out
 have hlx:=HK6.out
 have HBX:=hide (HB0.out.trans (HK5.out.mono HB0.out.size))
 have hwX:w.heap.size+1<X.heap.size:=by omega
 obtain⟨cm,_⟩:=one_block ((HK5.out.block w.heap.size (by omega)).trans HMB.out)
 have m2:=cm 2
 have hr:SpotB X (w.heap.size+1) 0 0:=(HK5.out.block _ hl0).trans HRB.out
 obtain⟨cr,fr⟩:=one_block hr
 have u0:=cr 0
 have u1:=cr 1
 obtain⟨c4,_⟩:=one_block HK4.out
 have x0:=c4 0
 have x1:=c4 1
 obtain⟨c3,_⟩:=one_block HK3.out
 have y14:=c3 14
 have y15:=c3 15
 have HR:=hide hr
 have FINE:Hid (∀ (Z:World) (x y:Int),Below X.heap.size X Z→SpotB ((Z.setCell ⟨w.heap.size+1,0,none⟩ (.int .i64 x)).setCell ⟨w.heap.size+1,1,none⟩ (.int .i64 y)) (w.heap.size+1) x y∧Below w.heap.size w ((Z.setCell ⟨w.heap.size+1,0,none⟩ (.int .i64 x)).setCell ⟨w.heap.size+1,1,none⟩ (.int .i64 y))):=fun Z x y hZ =>
  ⟨SpotB.put (e:=0) (p:=0) ((hZ.block _ hwX).trans HR.out) x y,below_grown (HBX.out.trans (hZ.mono HBX.out.size)) (setCells_grown (w.heap.size+1) [.int .i64 x,.int .i64 y] 0 Z) (fun g e=>by simp at e;omega)⟩
 clear cm cr c4 c3 hr
 by_cases he:e1=0
 ·subst he
  obtain⟨hLf,hnn,hto,hp7,hp8⟩:=HE0.out rfl
  have hF:=HFF.out X (HV.out.below HBX.out) hnn hto
  rw [← hp7,← hp8] at hF
  rw [← hLf] at hF
  clear HE1 HE0 HFF hLf hnn hto hp7 hp8
  go_wp2_with fail
  refine hF.mono ?_
  rintro e w3 ⟨rfl,hb3⟩
  obtain⟨f1,f2⟩:=FINE.out w3 L.1 (L.2:Int) hb3
  have F1:=hide f1
  have F2:=hide f2
  obtain⟨cr3,fr3⟩:=one_block ((hb3.block (w.heap.size+1) hwX).trans HR.out)
  have v0:=cr3 0
  have v1:=cr3 1
  have hw3:w.heap.size+1<w3.heap.size:=Nat.lt_of_lt_of_le hwX hb3.size
  clear hF f1 f2 hb3 cr3 u0 u1 fr
  go_wp2_with fail
  exact HRET.out _ _ rfl rfl F1.out F2.out
 ·have he1:(e1 != 0)=true:=by simpa using he
  have HLE:=hide (HE1.out he)
  obtain⟨f1,f2⟩:=FINE.out X e1 e2 (Below.refl _ _)
  have F1:=hide f1
  have F2:=hide f2
  clear he HE0 HE1 f1 f2
  go_wp2_with fail
  refine HRET.out _ _ rfl rfl ?_ F2.out
  rw [HLE.out]
  exact F1.out
theorem LeadR.lv {w:World} {lo:Nat} {hv mv:Value} {N:List (List Int)} {ms:List (Int×Int×Int)} (h:LeadR w lo hv N mv ms):∃ a c,hv=.slice a N.length c∧LV w a N:=by
 obtain⟨a,c,e,hv⟩:=h.lists.head
 exact⟨a,c,e,hv.2.1⟩
def NewQ (w w' : World) (b : Int) (l : List InstT) (f : FuncT) (e : Ending) : Prop :=
  Below w.heap.size w w' ∧ ∃ gv mv, e = .returned (.tuple #[gv, mv, .agg #[.int .i64 (newE b l f).1, .int .i64 (newE b l f).2]]) ∧
  (((newE b l f).1 ≠ 0 ∧ gv = .pointer none ∧ mv = .slice none 0 0) ∨
   ((newE b l f).1 = 0 ∧ (newE b l f).2 = 0 ∧ ∃ p, gv = .pointer (some ⟨p, 0, none⟩) ∧ GrV w' w.heap.size p ((newN l f).map onceF) ∧ w'.ownsRow w.heap.size 96 3 mv (newM l f).length ((newM l f).flatMap mgC)))
theorem newRet {Q:Ending→World→Prop} {a':Act} {Z:World} {B:Nat} {hv mv:Value} {e k:Int} (h4:slot a'.tmps 4=hv) (h5:slot a'.tmps 5=mv) (h6:slot a'.tmps 6=.pointer (some ⟨B,0,none⟩)) (hd:a'.defers=[]) (hZ:Z.heap[B]?=some (.cells #[.int .i64 e,.int .i64 k] 33 (0,0)))
  (hq:Q (.returned (.tuple #[hv,mv,.agg #[.int .i64 e,.int .i64 k]])) Z):bodyPost Tryz.prog Tryz.f13 Q .ret a' Z:=by
 have r6:=run_loadVar_mid (P:=Tryz.prog) Z B 0 33 [.int .i64 e,.int .i64 k] _ (range_of_block hZ) Tryz.underlying33 rfl (by kernel_rfl)
 refine bodyPost_ret (v:=.tuple #[hv,mv,.agg #[.int .i64 e,.int .i64 k]]) ?_ hd hq
 have g4:a'.tmps.getD 4 undef=hv:=h4
 have g5:a'.tmps.getD 5 undef=mv:=h5
 have g6:a'.tmps.getD 6 undef=.pointer (some ⟨B,0,none⟩):=h6
 simp only [results,Tryz.results13,List.mapM_toArray,List.mapM_cons,List.mapM_nil,g4,g5,g6,asAddr,Sem.run_bind,Sem.run_pure,Result.andThen_ok,bind_assoc,pure_bind,Sem.run_map,map_pure,r6]
 rfl
theorem newErr {w w':World} {b:Int} {l:List InstT} {f:FuncT} {E1 E2:Int} (h:newE b l f=(E1,E2)) (h0:E1≠0) (hb:Below w.heap.size w w'):NewQ w w' b l f (.returned (.tuple #[.pointer none,.slice none 0 0,.agg #[.int .i64 E1,.int .i64 E2]])):=by
 refine⟨hb,_,_,?_,.inl ⟨?_,rfl,rfl⟩⟩
 ·rw [h]
 ·rw [h];exact h0
theorem spotKeep {W:World} {b k T S:Nat} {x0 x1 y0 y1:Value} (h:W.heap[k]?=some (.cells #[x0,x1] T (0,0))) (hne:k≠b) (u v:Value):((W.setCell ⟨b,0,none⟩ u).setCell ⟨b,1,none⟩ v).heap[k]?=some (.cells #[x0,x1] T (0,0)):=by
 simp [World.setCell,Array.getElem?_modify,h,Ne.symm hne]
theorem inBlockNew_then {K:Act→World→Prop} {Q:Exit→Act→World→Prop} {a:Act} {w:World}:Exit.then K Q .normal a w=K a w:=rfl
theorem lead_new (gen bnd:Int) (a xp xq:Option Addr) (n c cp cq:Nat) (l:List InstT) (f:FuncT) (w:World) (hv:InstsV w a l) (hok:InstsOk l) (hl:l.length=n) (hn:40 * n≤140737488351232) (hq:BlkV w xq f.2.2.2.1) (h0:(idsE bnd l).1=0) (hf:f∈cutTo l l.length) :
  Calls Tryz.prog 40 #[modV gen bnd a n c,.agg #[.int .u32 f.1,.int .i64 f.2.1,.slice xp f.2.2.1.length cp,.slice xq f.2.2.2.1.length cq,.int .i64 f.2.2.2.2]] w fun e w'=>Below w.heap.size w w'∧∃ hv mv,e=.returned (.tuple #[hv,mv,.agg #[.int .i64 (newE bnd l f).1,.int .i64 (newE bnd l f).2]])∧((newE bnd l f).1≠0∨((newE bnd l f).1=0∧(newE bnd l f).2=0∧0<f.2.2.2.1.length∧f.2.2.2.1.length≤4096∧(∀ j x,x∈rowN (newN l f) j→0<x∧x<(f.2.2.2.1.length:Int))∧LeadR w' w.heap.size hv (newN l f) mv (newM l f))):=by
 have hlay:=(ids_sound h0).1
 obtain⟨p1,p2,p3,p4⟩:=lead_prem hlay hok hf
 rw [hl] at p4
 have hE:newE bnd l f=if 4096<f.2.2.2.1.length then (4,f.2.1) else ldE (numT f.2.2.2.1 f.2.2.2.1.length) l f.2.2.2.1:=by
  unfold newE
  rw [if_neg (by simpa using h0),if_neg (by simpa using hf)]
 refine (lead2_any gen bnd f.1 f.2.1 f.2.2.2.2 a xp xq n c f.2.2.1.length cp f.2.2.2.1.length cq l f.2.2.2.1 w hv hok hl hn hq rfl p2 p4 (by have:=merge_args hlay;rwa [hl] at this)).mono ?_
 rintro e w' (⟨h4,rfl,hb⟩ | ⟨h4,hQ⟩)
 ·rw [if_pos h4] at hE
  rw [hE]
  exact⟨hb,_,_,rfl,.inl (fun h=>by cases h)⟩
 ·rw [if_neg (by omega)] at hE
  obtain⟨hb,hv,mv,rfl,h⟩:=leadQ_E hQ
  rw [hE]
  refine⟨hb,hv,mv,rfl,?_⟩
  rcases h with ⟨q1,q2,hL⟩ | h
  ·refine .inr ⟨q1,q2,?_,h4,lead_edges (ldE_zero q1),hL⟩
   exact List.length_pos_iff.2 p1
  ·exact .inl (fun e=>by rw [h] at e;cases e)
set_option maxHeartbeats 8000000 in
theorem graphNew_any (gen bnd:Int) (a:Option Addr) (n c:Nat) (l:List InstT) (fv:Value) (f:FuncT) (w:World) (hv:InstsV w a l) (hok:InstsOk l) (hl:l.length=n) (hn:40 * n≤140737488351232) (g0:0≤gen) (g1:gen<4294967296) (b0:0≤bnd) (b1:bnd<4294967296) (hf:FnR w fv f) :
  Calls Tryz.prog 13 #[modV gen bnd a n c,fv] w fun e w'=>NewQ w w' bnd l f e:=by
 obtain⟨xp,cp,xq,cq,rfl,hf1,hf2⟩:=hf.form
 have HFF:=hide hf
 obtain⟨sz0,bl0,km0,kf0,ks0⟩:=leadBoxes w #[.int .u32 gen,.int .u32 bnd,.slice a n c] #[.int .u32 f.1,.int .i64 f.2.1,.slice xp f.2.2.1.length cp,.slice xq f.2.2.2.1.length cq,.int .i64 f.2.2.2.2]
 have HV:=hide hv
 have HOK:=hide hok
 have HL:=hide hl
 have HN:=hide hn
 have HID:=hide (fun (wx:World) (hx:Below w.heap.size w wx)=>idsCheck_any gen bnd a n c l wx (hv.below hx) hok hl hn g0 g1 b0 b1)
 have HCU:=hide (fun (wx:World) (hx:Below w.heap.size w wx)=>layCut_any gen bnd a n c l wx (hv.below hx) hok hl hn g0 g1 b0 b1)
 have hid:=HID.out _ bl0
 have HFA:Hid (∀ wx,Below w.heap.size w wx→wx.heap[w.heap.size+1]?=some (.cells #[.int .u32 f.1,.int .i64 f.2.1,.slice xp f.2.2.1.length cp,.slice xq f.2.2.2.1.length cq,.int .i64 f.2.2.2.2] 29 (0,0))→FnAt wx (w.heap.size+1) f):=fun wx hx h=>⟨xp,cp,xq,cq,h,hf1.below hx,hf2.below hx⟩
 have HF2:=hide hf2
 have m0:=(one_block km0).1 0
 have m1:=(one_block km0).1 1
 have m2:=(one_block km0).1 2
 have HBL:=hide bl0
 have HKM:=hide km0
 have HKF:=hide kf0
 have HKS:=hide ks0
 have HSZ:=hide sz0
 obtain⟨E1,hE1v⟩:∃ E1,E1=(idsE bnd l).1:=⟨_,rfl⟩
 obtain⟨e2,he2v⟩:∃ e2:Int,e2=((idsE bnd l).2:Int):=⟨_,rfl⟩
 have HEE:Hid (E1≠0→newE bnd l f=(E1,e2)):=fun h=>by rw [hE1v] at h;unfold newE;rw [if_pos h,hE1v,he2v]
 have HIS:Hid (E1=0→(layE bnd l).1=0∧(idsE bnd l).1=0∧e2=0):=fun h=>by rw [hE1v] at h;exact⟨(ids_sound h).1,h,by rw [he2v,(ids_sound h).2.1];rfl⟩
 rw [← hE1v,← he2v] at hid
 clear hE1v he2v
 unfold modV at *
 clear hv hok hl hn hf hf1 hf2 km0 kf0 ks0 sz0 bl0
 obtain⟨fi,fa,fp,fb,fe⟩:=f
 simp only at *
 go_enter Tryz.func13,Tryz.ntmps13
 go_wp2_with fail
 generalize World.alloc (World.alloc (World.alloc w _) _) _=W0 at *
 refine hid.mono ?_
 rintro e w1 ⟨rfl,hb1⟩
 have hbw1:=HBL.out.trans (hb1.mono HBL.out.size)
 have hle:w.heap.size+3≤w1.heap.size:=HSZ.out ▸ hb1.size
 have hkm1:=(hb1.block _ (Array.getElem?_eq_some_iff.1 HKM.out).1).trans HKM.out
 have hkf1:=(hb1.block _ (Array.getElem?_eq_some_iff.1 HKF.out).1).trans HKF.out
 have hks1:=(hb1.block _ (Array.getElem?_eq_some_iff.1 HKS.out).1).trans HKS.out
 have HB1:=hide (hbw1.trans (((Below.refl _ w1).alloc (Nat.le_refl _) (.cells #[.int .i64 E1,.int .i64 e2] 33)).mono hbw1.size))
 have HKM1:=hide (allocOld hkm1 (.cells #[.int .i64 E1,.int .i64 e2] 33))
 have HKF1:=hide (allocOld hkf1 (.cells #[.int .i64 E1,.int .i64 e2] 33))
 have HKS1:=hide (allocOld hks1 (.cells #[.int .i64 E1,.int .i64 e2] 33))
 have hk7:=allocNew w1 (.cells #[.int .i64 E1,.int .i64 e2] 33) rfl
 clear hid hb1 hbw1 hkm1 hkf1 hks1 HKM HKF HKS HBL m0 m1 m2
 have s0:=(one_block hk7).1 0
 have s1:=(one_block hk7).1 1
 by_cases hE1:E1=0
 ·obtain⟨hlay,hid0,hz2⟩:=HIS.out hE1
  subst hE1;subst hz2
  have HIE:=hide hid0
  clear hid0
  have HLY:=hide hlay
  have hcu:=HCU.out _ HB1.out
  unfold CutQ at hcu
  have m0:=(one_block HKM1.out).1 0
  have m1:=(one_block HKM1.out).1 1
  have m2:=(one_block HKM1.out).1 2
  have HSL:=hide (Nat.lt_of_lt_of_le (Nat.lt_of_lt_of_le (Nat.lt_add_of_pos_right (n:=w.heap.size) (k:=3) (by decide)) hle) (Nat.le_refl _))
  clear HCU HIS hk7 HEE
  go_wp2_with fail
  generalize World.alloc w1 _=W1 at *
  refine hcu.mono ?_
  rintro e w2 ⟨cv,rfl,hb2,hcut⟩
  have hcut:=(hcut.resolve_left (fun h=>h.1 HLY.out)).2
  have hlz:layE bnd l=(0,0):=(layE_ok HLY.out).2.2
  rw [hlz]
  simp only
  have HCR:=hide (FuncsAt.readV (hcut.below ((Below.refl _ w2).alloc (Nat.le_refl _) (.cells #[.int .i64 0,.int .i64 0] 33))))
  have hbw2:=HB1.out.trans (hb2.mono HB1.out.size)
  have HB2:=hide (hbw2.trans (((Below.refl _ w2).alloc (Nat.le_refl _) (.cells #[.int .i64 0,.int .i64 0] 33)).mono hbw2.size))
  have HKM2:=hide (allocOld ((hb2.block _ (Array.getElem?_eq_some_iff.1 HKM1.out).1).trans HKM1.out) (.cells #[.int .i64 0,.int .i64 0] 33))
  have HKF2:=hide (allocOld ((hb2.block _ (Array.getElem?_eq_some_iff.1 HKF1.out).1).trans HKF1.out) (.cells #[.int .i64 0,.int .i64 0] 33))
  have HKS2:=hide (allocOld ((hb2.block _ (Array.getElem?_eq_some_iff.1 HKS1.out).1).trans HKS1.out) (.cells #[.int .i64 0,.int .i64 0] 33))
  have hco:=containsNew_any cv (cutTo l l.length) (fi,fa,fp,fb,fe) (w.heap.size+1) _ HCR.out (few_cut HLY.out) (HFA.out _ HB2.out HKF2.out) HFF.out.few
  have HEE:Hid ((fi,fa,fp,fb,fe) ∉ cutTo l l.length→newE bnd l (fi,fa,fp,fb,fe)=(2,0)):=fun h=>by
   unfold newE;rw [if_neg (by rw [HIE.out];simp),if_pos h]
  clear hcu hcut hlz hb2 hbw2 m0 m1 m2 HKM1 HKF1 HKS1 HB1 s0 s1
  go_wp2_with fail
  generalize World.alloc w2 _=W2 at *
  refine hco.mono ?_
  rintro e w3 ⟨⟨r,rfl,hr⟩,hb3⟩
  have HB3:=hide (HB2.out.trans (hb3.mono HB2.out.size))
  have HKM3:=hide ((hb3.block _ (Array.getElem?_eq_some_iff.1 HKM2.out).1).trans HKM2.out)
  have HKF3:=hide ((hb3.block _ (Array.getElem?_eq_some_iff.1 HKF2.out).1).trans HKF2.out)
  have HKS3:=hide ((hb3.block _ (Array.getElem?_eq_some_iff.1 HKS2.out).1).trans HKS2.out)
  clear hco hb3 HKM2 HKF2 HKS2 HB2 HCR HFA
  cases r with
  | false =>
   have HNE:=hide (HEE.out (fun h=>by have:=hr.2 h;cases this))
   obtain⟨z0,z1,_,_⟩:=twoF HKS3.out
   have x0:=(one_block HKS3.out).1 0
   have x1:=(one_block HKS3.out).1 1
   clear hr HKM3 HKF3
   go_wp2_with fail
   exact newRet (B:=w.heap.size+2) (hv:=.pointer none) (mv:=.slice none 0 0) rfl rfl rfl rfl (spotLd HKS3.out _ _) (newErr HNE.out (by decide) ((HB3.out.setCell (le2 _) _).setCell (le2 _) _))
  | true =>
   have hmem:(fi,fa,fp,fb,fe)∈cutTo l l.length:=hr.1 rfl
   have hle2:=lead_new gen bnd a xp xq n c cp cq l (fi,fa,fp,fb,fe) w3 (HV.out.below HB3.out) HOK.out HL.out HN.out (HF2.out.below HB3.out) HIE.out hmem
   have m0:=(one_block HKM3.out).1 0
   have m1:=(one_block HKM3.out).1 1
   have m2:=(one_block HKM3.out).1 2
   obtain⟨n0,n1,n2,n3,n4⟩:=fiveCells HKF3.out
   have HMEM:=hide hmem
   unfold modV at hle2
   clear hmem hr HEE
   go_wp2_with fail
   refine hle2.mono ?_
   rintro e w4 ⟨hb4,hv4,mv4,rfl,hq4⟩
   obtain⟨NE,hNE⟩:∃ N,N=newE bnd l (fi,fa,fp,fb,fe):=⟨_,rfl⟩
   have HNE:=hide hNE
   rw [← hNE] at hq4
   rw [← hNE]
   clear hNE hle2 m0 m1 m2 n0 n1 n2 n3 n4
   obtain⟨N1,N2⟩:=NE
   simp only at *
   have hbw4:=HB3.out.trans (hb4.mono HB3.out.size)
   have HB4:=hide (hbw4.trans (((Below.refl _ w4).alloc (Nat.le_refl _) (.cells #[.int .i64 N1,.int .i64 N2] 33)).mono hbw4.size))
   have HKS4:=hide (allocOld ((hb4.block _ (Array.getElem?_eq_some_iff.1 HKS3.out).1).trans HKS3.out) (.cells #[.int .i64 N1,.int .i64 N2] 33))
   have hk12:=allocNew w4 (.cells #[.int .i64 N1,.int .i64 N2] 33) rfl
   have s0:=(one_block hk12).1 0
   have s1:=(one_block hk12).1 1
   have hz:=twoF HKS4.out
   have z0:=hz.1
   have z1:=hz.2.1
   have x0:=(one_block HKS4.out).1 0
   have x1:=(one_block HKS4.out).1 1
   have HKB:=hide (Array.getElem?_eq_some_iff.1 HKS3.out).1
   rcases hq4 with hN | ⟨rfl,rfl,hpos,h4,hed,hL⟩
   ·have hb0:(N1==0)=false:=by simpa using hN
    have hbn:(N1 != 0)=true:=by simpa using hN
    have HN1:=hide hN
    have HK9:=hide hk12
    have HK8:Hid (w4.heap.size≠w.heap.size+1+1):=by have:=hb4.size;have:=HKB.out;show _≠_;omega
    clear hN hb4 hbw4 hk12 hz HKM3 HKF3 HKS3
    go_wp2_with fail
    generalize World.alloc w4 _=W4 at *
    have hC0:W4.drew.heap[w4.heap.size]?=some (.cells #[.int .i64 N1,.int .i64 N2] 33 (0,0)):=HK9.out
    have hmix:Tryz.prog.follows .mixedOrders=true:=by kernel_rfl
    have LC:Hid (∀ w':World,w'.heap[w4.heap.size]?=some (.cells #[.int .i64 N1,.int .i64 N2] 33 (0,0))→w'.cell? ⟨w4.heap.size,0,none⟩=some (.int .i64 N1)∧w'.cell? ⟨w4.heap.size,1,none⟩=some (.int .i64 N2)):=fun w' h=>⟨(one_block h).1 0,(one_block h).1 1⟩
    refine (wpIn_wide (n:=0)).1 ?_
    refine wpIn_normal (wpIn_region_any hmix (wpAnyE_sound (C:=fun w'=>w'.heap[w4.heap.size]?=some (.cells #[.int .i64 N1,.int .i64 N2] 33 (0,0))) (E:=fun _=>false) _ _ _ _ ?_))
    change wpAnyE _ _ _ _ _ _ _ _ _ _ _ (World.drew _)
    refine wpAnyE_takeD (i:=0) (some 39) (v:=(.agg #[.int .i64 N1,.int .i64 N2])) (fun _=>trivial) (by kernel_rfl) rfl rfl (by kernel_rfl) (by kernel_rfl) (by kernel_rfl) (by kernel_rfl) (fun _ _ _ h=>by cases h.1) hC0 (Or.inl ⟨by rfl,fun w' hC=>by obtain⟨e1,e2⟩:=LC.out w' hC;clear hC;go_simp⟩) ?_
    simp only [Act.put,ap1,ap2,ap3]
    refine wpAnyE_takeD (i:=1) (some 4) (v:=(.pointer none)) (fun _=>trivial) (by kernel_rfl) rfl rfl (by kernel_rfl) (by kernel_rfl) (by kernel_rfl) (by kernel_rfl) (fun _ _ _ h=>by cases h.1) hC0 (Or.inl ⟨by rfl,fun w' hC=>by obtain⟨e1,e2⟩:=LC.out w' hC;clear hC;go_simp⟩) ?_
    simp only [Act.put,ap1,ap2,ap3]
    refine wpAnyE_takeD (i:=2) (some 5) (v:=(.slice none 0 0)) (fun _=>trivial) (by kernel_rfl) rfl rfl (by kernel_rfl) (by kernel_rfl) (by kernel_rfl) (by kernel_rfl) (fun _ _ _ h=>by cases h.1) hC0 (Or.inl ⟨by rfl,fun w' hC=>by obtain⟨e1,e2⟩:=LC.out w' hC;clear hC;go_simp⟩) ?_
    simp only [Act.put,ap1,ap2,ap3]
    refine wpAnyE_ready (rs:=[3]) (by kernel_rfl) (by simp) ?_
    refine AllE.cons rfl (fun Kk hK=>?_) AllE.nil
    clear LC
    go_simp
    refine hK _ _ (.inr (spotKeep (S:=0) (y0:=undef) (y1:=undef) HK9.out HK8.out _ _)) ?_
    clear hK Kk
    refine wpAnyE_done (by kernel_rfl) ⟨rfl,?_⟩ _
    rw [inBlockNew_then]
    go_wp2_with fail
    refine newRet (B:=w.heap.size+2) (hv:=.pointer none) (mv:=.slice none 0 0) rfl rfl rfl rfl (spotLd HKS4.out _ _) (newErr HNE.out.symm HN1.out ?_)
    first | exact ((HB4.out.setCell (le2 _) _).setCell (le2 _) _).drew | exact ((HB4.out.drew.setCell (le2 _) _).setCell (le2 _) _) | exact ((HB4.out.setCell (le2 _) _).setCell (le2 _) _)
   ·have hL2:=hL.below ((Below.refl _ w4).alloc (Nat.le_refl _) (.cells #[.int .i64 0,.int .i64 0] 33))
    have hlen:(newN l (fi,fa,fp,fb,fe)).length=fb.length:=List.length_map _
    obtain⟨a9,c9,rfl,hlv⟩:=hL2.lv
    have hma:=made_any a9 _ c9 (newN l (fi,fa,fp,fb,fe)) _ hlv rfl (by rw [hlen];exact hpos) (by rw [hlen];exact h4) (fun j x hx=>by have:=hed j x hx;rw [hlen];exact⟨Int.le_of_lt this.1,this.2⟩) (lead_few HOK.out _)
    have HMM:=hide hL2.merges
    generalize hNN:newN l (fi,fa,fp,fb,fe)=NN at *
    generalize hMM:newM l (fi,fa,fp,fb,fe)=MM at *
    have HNN:=hide hNN
    have HMN:=hide hMM
    clear hNN hMM
    have hle4:=hide hb4.size
    clear hL hL2 hlv hlen hed hpos h4 hb4 hbw4 hk12 hz HKM3 HKF3 HKS3
    go_wp2_with fail
    generalize World.alloc w4 _=W4 at *
    refine hma.mono ?_
    rintro e w5 ⟨p,rfl,hG,hb5⟩
    have hks5:=(hb5.block _ (Array.getElem?_eq_some_iff.1 HKS4.out).1).trans HKS4.out
    have HKS5:=hide hks5
    have HB5:=hide (HB4.out.trans (hb5.mono HB4.out.size))
    have HG:=hide hG
    have HM5:=hide (own_below HMM.out hb5)
    have hz5:=twoF hks5
    have v0:=hz5.1
    have v1:=hz5.2.1
    have y0:=(one_block hks5).1 0
    have y1:=(one_block hks5).1 1
    have HSS:=hide (Nat.le_trans HB3.out.size hle4.out)
    clear hma hG hb5 hks5 hz5 s0 s1 z0 z1 x0 x1
    go_wp2_with fail
    refine newRet (B:=w.heap.size+2) (hv:=.pointer (some ⟨p,0,none⟩)) (mv:=mv4) rfl rfl rfl rfl (spotLd HKS5.out _ _) ⟨((HB5.out.setCell (le2 _) _).setCell (le2 _) _),_,_,by rw [← HNE.out],.inr ⟨by rw [← HNE.out],by rw [← HNE.out],p,rfl,?_,?_⟩⟩
    ·rw [HNN.out]
     have hlt:=(Array.getElem?_eq_some_iff.1 HKS4.out).1
     exact ((HG.out.kept (grown_setCell w5 (w.heap.size+2) 0 _) (fun g e=>by cases e;exact hlt)).kept (grown_setCell _ (w.heap.size+2) 1 _) (fun g e=>by cases e;exact hlt)).mono HB4.out.size
    ·rw [HMN.out]
     exact own_mono (own_kept (own_kept HM5.out (grown_setCell w5 (w.heap.size+2) 0 _) (fun g e=>by cases e;exact HKB.out)) (grown_setCell _ (w.heap.size+2) 1 _) (fun g e=>by cases e;exact HKB.out)) HB3.out.size
 ·have hb0:(E1==0)=false:=by simpa using hE1
  have hbn:(E1 != 0)=true:=by simpa using hE1
  have HE1:=hide hE1
  obtain⟨z0,z1,_,_⟩:=twoF HKS1.out
  have x0:=(one_block HKS1.out).1 0
  have x1:=(one_block HKS1.out).1 1
  have HK9:=hide hk7
  have HK8:Hid (w1.heap.size≠w.heap.size+1+1):=by show _≠_;omega
  clear hE1 hk7 HCU HID HFA HF2 HFF HKM1 HKF1 HIS
  go_wp2_with fail
  generalize World.alloc w1 _=W1 at *
  have hC0:W1.drew.heap[w1.heap.size]?=some (.cells #[.int .i64 E1,.int .i64 e2] 33 (0,0)):=HK9.out
  have hmix:Tryz.prog.follows .mixedOrders=true:=by kernel_rfl
  have LC:Hid (∀ w':World,w'.heap[w1.heap.size]?=some (.cells #[.int .i64 E1,.int .i64 e2] 33 (0,0))→w'.cell? ⟨w1.heap.size,0,none⟩=some (.int .i64 E1)∧w'.cell? ⟨w1.heap.size,1,none⟩=some (.int .i64 e2)):=fun w' h=>⟨(one_block h).1 0,(one_block h).1 1⟩
  refine (wpIn_wide (n:=0)).1 ?_
  refine wpIn_normal (wpIn_region_any hmix (wpAnyE_sound (C:=fun w'=>w'.heap[w1.heap.size]?=some (.cells #[.int .i64 E1,.int .i64 e2] 33 (0,0))) (E:=fun _=>false) _ _ _ _ ?_))
  change wpAnyE _ _ _ _ _ _ _ _ _ _ _ (World.drew _)
  refine wpAnyE_takeD (i:=0) (some 18) (v:=(.agg #[.int .i64 E1,.int .i64 e2])) (fun _=>trivial) (by kernel_rfl) rfl rfl (by kernel_rfl) (by kernel_rfl) (by kernel_rfl) (by kernel_rfl) (fun _ _ _ h=>by cases h.1) hC0 (Or.inl ⟨by rfl,fun w' hC=>by obtain⟨e1,e2⟩:=LC.out w' hC;clear hC;go_simp⟩) ?_
  simp only [Act.put,ap1,ap2,ap3]
  refine wpAnyE_takeD (i:=1) (some 4) (v:=(.pointer none)) (fun _=>trivial) (by kernel_rfl) rfl rfl (by kernel_rfl) (by kernel_rfl) (by kernel_rfl) (by kernel_rfl) (fun _ _ _ h=>by cases h.1) hC0 (Or.inl ⟨by rfl,fun w' hC=>by obtain⟨e1,e2⟩:=LC.out w' hC;clear hC;go_simp⟩) ?_
  simp only [Act.put,ap1,ap2,ap3]
  refine wpAnyE_takeD (i:=2) (some 5) (v:=(.slice none 0 0)) (fun _=>trivial) (by kernel_rfl) rfl rfl (by kernel_rfl) (by kernel_rfl) (by kernel_rfl) (by kernel_rfl) (fun _ _ _ h=>by cases h.1) hC0 (Or.inl ⟨by rfl,fun w' hC=>by obtain⟨e1,e2⟩:=LC.out w' hC;clear hC;go_simp⟩) ?_
  simp only [Act.put,ap1,ap2,ap3]
  refine wpAnyE_ready (rs:=[3]) (by kernel_rfl) (by simp) ?_
  refine AllE.cons rfl (fun Kk hK=>?_) AllE.nil
  clear LC
  go_simp
  refine hK _ _ (.inr (spotKeep (S:=0) (y0:=undef) (y1:=undef) HK9.out HK8.out _ _)) ?_
  clear hK Kk
  refine wpAnyE_done (by kernel_rfl) ⟨rfl,?_⟩ _
  rw [inBlockNew_then]
  go_wp2_with fail
  refine newRet (B:=w.heap.size+2) (hv:=.pointer none) (mv:=.slice none 0 0) rfl rfl rfl rfl (spotLd HKS1.out _ _) (newErr (HEE.out HE1.out) HE1.out ?_)
  first | exact ((HB1.out.setCell (le2 _) _).setCell (le2 _) _).drew | exact ((HB1.out.drew.setCell (le2 _) _).setCell (le2 _) _) | exact ((HB1.out.setCell (le2 _) _).setCell (le2 _) _)
set_option maxHeartbeats 2000000 in
theorem refIds_any (x:InstT) (ax:Option Addr) (n cx:Nat) (w:World) (hv:ArgsV w ax x.2.2.2) (hl:x.2.2.2.length=n) (hn:24 * n≤140737488351232) :
  Calls Tryz.prog 145 #[instV x ax n cx] w fun e w'=>Below w.heap.size w w'∧∃ a m c,e=.returned (.slice a m c)∧(idsI x).length=m∧w'.ownsRow w.heap.size 22 1 (.slice a m c) m ((idsI x).map (Value.int .u32)):=by
 obtain⟨i0,hi,hz0,hz1,hz2⟩:=info_parts Ids.info
 have HI:Hid (Tryz.prog.info? 22=some i0∧i0.zero=some (.int .u32 0)∧i0.size=1∧i0.bytes=4):=⟨hi,hz0,hz1,hz2⟩
 clear hi hz0 hz1 hz2
 obtain⟨xo,xt,xr,xl⟩:=x
 unfold instV
 simp only at *
 have HL:Hid (xl.length=n):=hl
 have eI:idsI (xo,xt,xr,xl)=idsTo xt xl n:=by unfold idsI;simp only;rw [hl]
 rw [eI]
 clear eI hl
 have hS0:IdsS w (w.alloc (.cells #[.int .u16 xo,.int .u32 xt,.int .u32 xr,.slice ax n cx] 63)) xo xt xr ax n cx (.slice none 0 0) []:=⟨World.ownsRow_nil _ _ _ _,alloc_new w _ _,(Below.refl _ w).alloc (Nat.le_refl _) _⟩
 by_cases ht:xt=0
 ·subst ht
  have HS0:Hid (IdsS w (w.alloc (.cells #[.int .u16 xo,.int .u32 0,.int .u32 xr,.slice ax n cx] 63)) xo 0 xr ax n cx (.slice none 0 0) []):=hS0
  clear hS0
  go_enter Tryz.func145,Tryz.ntmps145
  go_wp2
  go_loopw [3,4] (fun v i wr=>∃ k:Nat,k≤n∧i=.int .i64 k∧IdsS w wr xo 0 xr ax n cx v (idsTo 0 xl k)) (fun _ i _=>n - (intOf i).toNat)
  case atStart=>exact⟨0,Nat.zero_le _,rfl,by rw [idsTo_zero,if_pos rfl];exact HS0.out⟩
  case round =>
   obtain⟨k,hk,rfl,hS⟩:=hrel
   clear HS0
   have hA:=hv.below hS.bel
   obtain⟨a',cap',rfl⟩:∃ a cap,u3=.slice a (idsTo 0 xl k).length cap:=by
    rcases hS.own.2 with ⟨rfl,h0⟩ | ⟨g,cap,cur,rfl,_⟩
    ·exact⟨none,0,by rw [h0]⟩
    ·exact⟨_,_,rfl⟩
   by_cases hlt:k<n
   ·have hkl:k<xl.length:=by rw [HL.out];exact hlt
    obtain⟨b1,o1,rfl,hb1,p1,p2,p3⟩:=hA k hkl
    have hsu:=idsTo_succ 0 xl k hkl
    have hln:=idsTo_len 0 xl k
    have HSU:Hid _:=hsu
    generalize idsTo 0 xl k=zs at *
    have HS2:Hid (idsTo 0 xl (k+1)=zs++idsA (nthA xl k)):=HSU.out
    clear hsu HSU
    generalize nthA xl k=z at *
    obtain⟨z1,z2,z3⟩:=z
    simp only at *
    have hki:(k:Int)<(n:Int):=by omega
    have hk0:(0:Int)≤(k:Int):=by omega
    have hS4:=hS
    have c3:=(one_block hS.box).1 3
    clear hA
    by_cases h1:z1=1
    ·subst h1
     have hA1:idsA (1,z2,z3)=[z2]:=by simp [idsA]
     have N1:Hid ((wr.alloc (.cells #[.int .u32 z2] 22)).ownsRow (w.heap.size+1) 22 1 (.slice a' zs.length cap') zs.length ((zs).map (Value.int .u32))):=own_below hS4.own ((Below.refl _ _).alloc (Nat.le_refl _) _)
     have N2:Hid (∀ (j:Nat) (u:Value),[Value.int .u32 z2][j]?=some u→(wr.alloc (.cells #[.int .u32 z2] 22)).cell? ((⟨wr.heap.size,0,none⟩:Addr).add j)=some u):=World.news_of_block (cs:=#[.int .u32 z2]) (t:=22) (fr:=(0,0)) (by first | exact alloc_new _ _ _ | simpa using alloc_new (wr) #[.int .u32 z2] 22)
     have N3:Hid (∀ u:Value,u∈[Value.int .u32 z2]→u.oneCell'=true):=by intro u hu;simp at hu;subst hu;rfl
     have N4:zs.length+1≤maxLen:=by unfold maxLen;omega
     have N5:(zs.length+1) * 4≤140737488355328:=by omega
     have N6:Hid (w.heap.size+1≤(wr.alloc (.cells #[.int .u32 z2] 22)).heap.size):=by show _≤_;rw [World.size_alloc];have:=(Array.getElem?_eq_some_iff.1 hS4.box).1;omega
     have HS:Hid (IdsS w (wr.alloc (.cells #[.int .u32 z2] 22)) xo 0 xr (some ⟨b1,o1,none⟩) n cx (.slice a' zs.length cap') zs):=hS4.below ((Below.refl _ _).alloc (Nat.le_refl _) _)
     go_wp2_with (at_builtin;refine wpList_append_own _ rfl (.tmp 27) (.tmp 34) 126 rfl (w.heap.size+1) 22 i0 (.int .u32 0) 1 4 Tryz.underlying126 HI.out.1 HI.out.2.1 HI.out.2.2.1 HI.out.2.2.2 rfl (by decide) _ zs.length (zs.map (Value.int .u32)) rfl N1.out ⟨wr.heap.size,0,none⟩ 1 1 [.int .u32 z2] rfl rfl N2.out N3.out N4 N5 N6.out ?_)
     intro v5 w5 hown5 hgr5 _
     have hS5:=HS.out.push hgr5 hown5
     obtain⟨a6,cap6,rfl⟩:∃ a cap,v5=.slice a (zs.length+1) cap:=by
      rcases hown5.2 with ⟨_,h0⟩ | ⟨g,cap,cur,rfl,_⟩
      ·omega
      ·exact⟨_,_,rfl⟩
     clear hown5 hgr5 N1 N2 N3 N6 HS hS4 hS
     go_wp2
     go_roundw
     case rel=>exact⟨k+1,by omega,by go_num,by rw [HS2.out,hA1];exact hS5⟩
     case measure=>simp [intOf];omega
    ·have hA1:idsA (z1,z2,z3)=[]:=by simp [idsA,h1]
     have HS4:Hid (IdsS w wr xo 0 xr (some ⟨b1,o1,none⟩) n cx (.slice a' zs.length cap') zs):=hS4
     clear hS4
     go_wp2
     go_roundw
     case rel=>exact⟨k+1,by omega,by go_num,by rw [HS2.out,hA1,List.append_nil];exact HS4.out⟩
     case measure=>simp [intOf];omega
   ·obtain rfl:k=n:=by omega
    have hfin:=hS.bel
    have hown:=hS.own
    have c3:=(one_block hS.box).1 3
    clear hS hA
    go_wp2
    go_ret
    refine⟨hfin,a',_,cap',rfl,rfl,?_⟩
    refine⟨hown.1,?_⟩
    rcases hown.2 with hn0 | ⟨g,cap,cur,e1,hb,rest⟩
    ·exact .inl hn0
    ·exact .inr ⟨g,cap,cur,e1,by omega,rest⟩
 ·have ht':=ht
  have N1:Hid (((w.alloc (.cells #[.int .u16 xo,.int .u32 xt,.int .u32 xr,.slice ax n cx] 63)).alloc (.cells #[.int .u32 xt] 22)).ownsRow (w.heap.size+1) 22 1 (.slice none 0 0) ([]:List Int).length ((([]:List Int)).map (Value.int .u32))):=own_below hS0.own ((Below.refl _ _).alloc (Nat.le_refl _) _)
  have N2:Hid (∀ (j:Nat) (u:Value),[Value.int .u32 xt][j]?=some u→((w.alloc (.cells #[.int .u16 xo,.int .u32 xt,.int .u32 xr,.slice ax n cx] 63)).alloc (.cells #[.int .u32 xt] 22)).cell? ((⟨w.heap.size+1,0,none⟩:Addr).add j)=some u):=World.news_of_block (cs:=#[.int .u32 xt]) (t:=22) (fr:=(0,0)) (by first | exact alloc_new _ _ _ | simpa using alloc_new ((w.alloc (.cells #[.int .u16 xo,.int .u32 xt,.int .u32 xr,.slice ax n cx] 63))) #[.int .u32 xt] 22)
  have N3:Hid (∀ u:Value,u∈[Value.int .u32 xt]→u.oneCell'=true):=by intro u hu;simp at hu;subst hu;rfl
  have N4:([]:List Int).length+1≤maxLen:=by unfold maxLen;simp
  have N5:(([]:List Int).length+1) * 4≤140737488355328:=by simp
  have N6:Hid (w.heap.size+1≤((w.alloc (.cells #[.int .u16 xo,.int .u32 xt,.int .u32 xr,.slice ax n cx] 63)).alloc (.cells #[.int .u32 xt] 22)).heap.size):=by show _≤_;rw [World.size_alloc];have:=(Array.getElem?_eq_some_iff.1 hS0.box).1;omega
  have HS:Hid (IdsS w ((w.alloc (.cells #[.int .u16 xo,.int .u32 xt,.int .u32 xr,.slice ax n cx] 63)).alloc (.cells #[.int .u32 xt] 22)) xo xt xr ax n cx (.slice none 0 0) ([]:List Int)):=hS0.below ((Below.refl _ _).alloc (Nat.le_refl _) _)
  clear hS0
  go_enter Tryz.func145,Tryz.ntmps145
  go_wp2_with (at_builtin;refine wpList_append_own _ rfl (.tmp 8) (.tmp 11) 126 rfl (w.heap.size+1) 22 i0 (.int .u32 0) 1 4 Tryz.underlying126 HI.out.1 HI.out.2.1 HI.out.2.2.1 HI.out.2.2.2 rfl (by decide) _ 0 [] rfl N1.out ⟨w.heap.size+1,0,none⟩ 1 1 [.int .u32 xt] rfl rfl N2.out N3.out N4 N5 N6.out ?_)
  intro v5 w5 hown5 hgr5 _
  have hS5:=HS.out.push hgr5 hown5
  obtain⟨a5,cap5,rfl⟩:∃ a cap,v5=.slice a 1 cap:=by
   rcases hown5.2 with ⟨_,h0⟩ | ⟨g,cap,cur,rfl,_⟩
   ·cases h0
   ·exact⟨_,_,rfl⟩
  have b3:=(one_block hS5.box).1 3
  have HS5:Hid (IdsS w w5 xo xt xr ax n cx (.slice a5 1 cap5) [xt]):=hS5
  clear hown5 hgr5 N1 N2 N3 N6 HS N4 N5 hS5
  go_wp2
  go_loopw [3,4] (fun v i wr=>∃ k:Nat,k≤n∧i=.int .i64 k∧IdsS w wr xo xt xr ax n cx v (idsTo xt xl k)) (fun _ i _=>n - (intOf i).toNat)
  case atStart=>exact⟨0,Nat.zero_le _,rfl,by rw [idsTo_zero,if_neg ht'];exact HS5.out⟩
  case round =>
   obtain⟨k,hk,rfl,hS⟩:=hrel
   clear HS5
   have hA:=hv.below hS.bel
   obtain⟨a',cap',rfl⟩:∃ a cap,u3=.slice a (idsTo xt xl k).length cap:=by
    rcases hS.own.2 with ⟨rfl,h0⟩ | ⟨g,cap,cur,rfl,_⟩
    ·exact⟨none,0,by rw [h0]⟩
    ·exact⟨_,_,rfl⟩
   by_cases hlt:k<n
   ·have hkl:k<xl.length:=by rw [HL.out];exact hlt
    obtain⟨b1,o1,rfl,hb1,p1,p2,p3⟩:=hA k hkl
    have hsu:=idsTo_succ xt xl k hkl
    have hln:=idsTo_len xt xl k
    have HSU:Hid _:=hsu
    generalize idsTo xt xl k=zs at *
    have HS2:Hid (idsTo xt xl (k+1)=zs++idsA (nthA xl k)):=HSU.out
    clear hsu HSU
    generalize nthA xl k=z at *
    obtain⟨z1,z2,z3⟩:=z
    simp only at *
    have hki:(k:Int)<(n:Int):=by omega
    have hk0:(0:Int)≤(k:Int):=by omega
    have hS4:=hS
    have c3:=(one_block hS.box).1 3
    clear hA
    by_cases h1:z1=1
    ·subst h1
     have hA1:idsA (1,z2,z3)=[z2]:=by simp [idsA]
     have N1:Hid ((wr.alloc (.cells #[.int .u32 z2] 22)).ownsRow (w.heap.size+1) 22 1 (.slice a' zs.length cap') zs.length ((zs).map (Value.int .u32))):=own_below hS4.own ((Below.refl _ _).alloc (Nat.le_refl _) _)
     have N2:Hid (∀ (j:Nat) (u:Value),[Value.int .u32 z2][j]?=some u→(wr.alloc (.cells #[.int .u32 z2] 22)).cell? ((⟨wr.heap.size,0,none⟩:Addr).add j)=some u):=World.news_of_block (cs:=#[.int .u32 z2]) (t:=22) (fr:=(0,0)) (by first | exact alloc_new _ _ _ | simpa using alloc_new (wr) #[.int .u32 z2] 22)
     have N3:Hid (∀ u:Value,u∈[Value.int .u32 z2]→u.oneCell'=true):=by intro u hu;simp at hu;subst hu;rfl
     have N4:zs.length+1≤maxLen:=by unfold maxLen;omega
     have N5:(zs.length+1) * 4≤140737488355328:=by omega
     have N6:Hid (w.heap.size+1≤(wr.alloc (.cells #[.int .u32 z2] 22)).heap.size):=by show _≤_;rw [World.size_alloc];have:=(Array.getElem?_eq_some_iff.1 hS4.box).1;omega
     have HS:Hid (IdsS w (wr.alloc (.cells #[.int .u32 z2] 22)) xo xt xr (some ⟨b1,o1,none⟩) n cx (.slice a' zs.length cap') zs):=hS4.below ((Below.refl _ _).alloc (Nat.le_refl _) _)
     go_wp2_with (at_builtin;refine wpList_append_own _ rfl (.tmp 27) (.tmp 34) 126 rfl (w.heap.size+1) 22 i0 (.int .u32 0) 1 4 Tryz.underlying126 HI.out.1 HI.out.2.1 HI.out.2.2.1 HI.out.2.2.2 rfl (by decide) _ zs.length (zs.map (Value.int .u32)) rfl N1.out ⟨wr.heap.size,0,none⟩ 1 1 [.int .u32 z2] rfl rfl N2.out N3.out N4 N5 N6.out ?_)
     intro v5 w5 hown5 hgr5 _
     have hS5:=HS.out.push hgr5 hown5
     obtain⟨a6,cap6,rfl⟩:∃ a cap,v5=.slice a (zs.length+1) cap:=by
      rcases hown5.2 with ⟨_,h0⟩ | ⟨g,cap,cur,rfl,_⟩
      ·omega
      ·exact⟨_,_,rfl⟩
     clear hown5 hgr5 N1 N2 N3 N6 HS hS4 hS
     go_wp2
     go_roundw
     case rel=>exact⟨k+1,by omega,by go_num,by rw [HS2.out,hA1];exact hS5⟩
     case measure=>simp [intOf];omega
    ·have hA1:idsA (z1,z2,z3)=[]:=by simp [idsA,h1]
     have HS4:Hid (IdsS w wr xo xt xr (some ⟨b1,o1,none⟩) n cx (.slice a' zs.length cap') zs):=hS4
     clear hS4
     go_wp2
     go_roundw
     case rel=>exact⟨k+1,by omega,by go_num,by rw [HS2.out,hA1,List.append_nil];exact HS4.out⟩
     case measure=>simp [intOf];omega
   ·obtain rfl:k=n:=by omega
    have hfin:=hS.bel
    have hown:=hS.own
    have c3:=(one_block hS.box).1 3
    clear hS hA
    go_wp2
    go_ret
    refine⟨hfin,a',_,cap',rfl,rfl,?_⟩
    refine⟨hown.1,?_⟩
    rcases hown.2 with hn0 | ⟨g,cap,cur,e1,hb,rest⟩
    ·exact .inl hn0
    ·exact .inr ⟨g,cap,cur,e1,by omega,rest⟩
end Go.Proofs.YtlcaedibmlidlaaGreat
