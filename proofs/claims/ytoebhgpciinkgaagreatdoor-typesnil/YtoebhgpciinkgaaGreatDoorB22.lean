/-
  Texts in one: LayoutKept, IdsCheckF, TypesNew, TypesAsks, TypesAsks2, StrconvItoa, StringsJoin.
-/
import Derived.Test.YtoebhgpciinkgaaGreatDoorB21
import Derived.Test.YtoebhgpciinkgaaGreatDoorB20
import Derived.Shelf.Strconv.Itoa3
import Derived.OwnWalk
import Derived.Shelf.Lays
import Derived.Shelf.Strings.OnBuilder
namespace Go.Proofs.YtoebhgpciinkgaaGreatDoor
open Go.RowKit
set_option linter.unusedVariables false
set_option linter.unusedSimpArgs false
set_option maxRecDepth 10000
theorem kept_parts (w1:World) (f:Nat→Int) (e1 e2:Int) :
  let W2:=(w1.alloc (.cells #[.int .i64 0,.int .i64 0,.int .i64 0,.int .i64 0,.int .i64 0,.int .i64 0,.int .i64 0,.int .i64 0,.int .i64 0,.int .i64 0,.int .i64 0,.int .i64 0,.int .i64 0,.int .i64 0,.int .i64 0,.int .i64 0,.int .i64 0,.int .i64 0,.int .i64 0,.int .i64 0] 108)).alloc (.cells #[.int .i64 0,.int .i64 0] 30)
  let X:=(W2.setCells w1.heap.size 0 [.int .i64 (f 0),.int .i64 (f 1),.int .i64 (f 2),.int .i64 (f 3),.int .i64 (f 4),.int .i64 (f 5),.int .i64 (f 6),.int .i64 (f 7),.int .i64 (f 8),.int .i64 (f 9),.int .i64 (f 10),.int .i64 (f 11),.int .i64 (f 12),.int .i64 (f 13),.int .i64 (f 14),.int .i64 (f 15),.int .i64 (f 16),.int .i64 (f 17),.int .i64 (f 18),.int .i64 (f 19)]).setCells (w1.heap.size+1) 0 [.int .i64 e1,.int .i64 e2]
  W2.there w1.heap.size 0 20∧(W2.setCells w1.heap.size 0 [.int .i64 (f 0),.int .i64 (f 1),.int .i64 (f 2),.int .i64 (f 3),.int .i64 (f 4),.int .i64 (f 5),.int .i64 (f 6),.int .i64 (f 7),.int .i64 (f 8),.int .i64 (f 9),.int .i64 (f 10),.int .i64 (f 11),.int .i64 (f 12),.int .i64 (f 13),.int .i64 (f 14),.int .i64 (f 15),.int .i64 (f 16),.int .i64 (f 17),.int .i64 (f 18),.int .i64 (f 19)]).there (w1.heap.size+1) 0 2∧X.heap[w1.heap.size]?=some (.cells #[.int .i64 (f 0),.int .i64 (f 1),.int .i64 (f 2),.int .i64 (f 3),.int .i64 (f 4),.int .i64 (f 5),.int .i64 (f 6),.int .i64 (f 7),.int .i64 (f 8),.int .i64 (f 9),.int .i64 (f 10),.int .i64 (f 11),.int .i64 (f 12),.int .i64 (f 13),.int .i64 (f 14),.int .i64 (f 15),.int .i64 (f 16),.int .i64 (f 17),.int .i64 (f 18),.int .i64 (f 19)] 108 (0,0))∧X.heap[w1.heap.size+1]?=some (.cells #[.int .i64 e1,.int .i64 e2] 30 (0,0))∧Below w1.heap.size w1 X∧w1.heap.size+1<X.heap.size:=by
 intro W2 X
 have h1:W2.heap[w1.heap.size]?=some (.cells #[.int .i64 0,.int .i64 0,.int .i64 0,.int .i64 0,.int .i64 0,.int .i64 0,.int .i64 0,.int .i64 0,.int .i64 0,.int .i64 0,.int .i64 0,.int .i64 0,.int .i64 0,.int .i64 0,.int .i64 0,.int .i64 0,.int .i64 0,.int .i64 0,.int .i64 0,.int .i64 0] 108 (0,0)):=by
  show (World.alloc _ _).heap[_]?=_
  rw [Below.heap_alloc _ _ _ (by simp)];exact heap_alloc_new w1 _
 have h2:W2.heap[w1.heap.size+1]?=some (.cells #[.int .i64 0,.int .i64 0] 30 (0,0)):=by
  have:=heap_alloc_new (w1.alloc (.cells #[.int .i64 0,.int .i64 0,.int .i64 0,.int .i64 0,.int .i64 0,.int .i64 0,.int .i64 0,.int .i64 0,.int .i64 0,.int .i64 0,.int .i64 0,.int .i64 0,.int .i64 0,.int .i64 0,.int .i64 0,.int .i64 0,.int .i64 0,.int .i64 0,.int .i64 0,.int .i64 0] 108)) (.cells #[.int .i64 0,.int .i64 0] 30)
  rw [World.size_alloc] at this
  exact this
 have hg:=setCells_grown w1.heap.size [.int .i64 (f 0),.int .i64 (f 1),.int .i64 (f 2),.int .i64 (f 3),.int .i64 (f 4),.int .i64 (f 5),.int .i64 (f 6),.int .i64 (f 7),.int .i64 (f 8),.int .i64 (f 9),.int .i64 (f 10),.int .i64 (f 11),.int .i64 (f 12),.int .i64 (f 13),.int .i64 (f 14),.int .i64 (f 15),.int .i64 (f 16),.int .i64 (f 17),.int .i64 (f 18),.int .i64 (f 19)] 0 W2
 have hs:W2.heap.size=w1.heap.size+2:=by show (World.alloc _ _).heap.size=_;simp
 have hb2:Below w1.heap.size w1 W2:=((Below.refl _ w1).alloc (Nat.le_refl _) _).alloc (by simp) _
 have k2:=(hg.block (w1.heap.size+1) (by omega) (by simp)).trans h2
 have hg2:=setCells_grown (w1.heap.size+1) [.int .i64 e1,.int .i64 e2] 0 (W2.setCells w1.heap.size 0 [.int .i64 (f 0),.int .i64 (f 1),.int .i64 (f 2),.int .i64 (f 3),.int .i64 (f 4),.int .i64 (f 5),.int .i64 (f 6),.int .i64 (f 7),.int .i64 (f 8),.int .i64 (f 9),.int .i64 (f 10),.int .i64 (f 11),.int .i64 (f 12),.int .i64 (f 13),.int .i64 (f 14),.int .i64 (f 15),.int .i64 (f 16),.int .i64 (f 17),.int .i64 (f 18),.int .i64 (f 19)])
 have hs2:w1.heap.size+1<(W2.setCells w1.heap.size 0 [.int .i64 (f 0),.int .i64 (f 1),.int .i64 (f 2),.int .i64 (f 3),.int .i64 (f 4),.int .i64 (f 5),.int .i64 (f 6),.int .i64 (f 7),.int .i64 (f 8),.int .i64 (f 9),.int .i64 (f 10),.int .i64 (f 11),.int .i64 (f 12),.int .i64 (f 13),.int .i64 (f 14),.int .i64 (f 15),.int .i64 (f 16),.int .i64 (f 17),.int .i64 (f 18),.int .i64 (f 19)]).heap.size:=Nat.lt_of_lt_of_le (show w1.heap.size+1<W2.heap.size by omega) hg.size
 refine⟨there_of_block h1 20 rfl,there_of_block k2 2 rfl,(hg2.block _ (by omega) (by simp)).trans (setCells_all [.int .i64 (f 0),.int .i64 (f 1),.int .i64 (f 2),.int .i64 (f 3),.int .i64 (f 4),.int .i64 (f 5),.int .i64 (f 6),.int .i64 (f 7),.int .i64 (f 8),.int .i64 (f 9),.int .i64 (f 10),.int .i64 (f 11),.int .i64 (f 12),.int .i64 (f 13),.int .i64 (f 14),.int .i64 (f 15),.int .i64 (f 16),.int .i64 (f 17),.int .i64 (f 18),.int .i64 (f 19)] h1 rfl),setCells_all [.int .i64 e1,.int .i64 e2] k2 rfl,below_grown (below_grown hb2 hg (fun g e=>by simp at e;omega)) hg2 (fun g e=>by simp at e;omega),Nat.lt_of_lt_of_le hs2 hg2.size⟩
set_option maxHeartbeats 8000000 in
theorem idsCheck_any (gen bnd:Int) (a:Option Addr) (n c:Nat) (l:List InstT) (w:World) (hv:InstsV w a l) (hok:InstsOk l) (hl:l.length=n) (hn:40 * n≤140737488351232) (g0:0≤gen) (g1:gen<4294967296) (b0:0≤bnd) (b1:bnd<4294967296) :
  Calls Tryz.prog 40 #[modV gen bnd a n c] w fun e w'=>e=.returned (.agg #[.int .i64 (idsE bnd l).1,.int .i64 ((idsE bnd l).2:Int)])∧Below w.heap.size w w':=by
 obtain⟨L,hL⟩:∃ L,L=idsE bnd l:=⟨_,rfl⟩
 rw [← hL]
 have hb0:Below w.heap.size w ((w.alloc (.cells #[.int .u32 gen,.int .u32 bnd,.slice a n c] 25)).alloc (.cells #[.int .i64 0,.int .i64 0] 30)):=((Below.refl _ w).alloc (Nat.le_refl _) _).alloc (by simp) _
 have hPp:=layParts_any gen bnd a n c l _ (hv.below hb0) hok hl hn g0 g1 b0 b1
 have HFF:=hide fun wx (h:InstsV wx a l) (h2:n≤1048576) (h3:okTo l n)=>firstFault_any a n c l wx h hok hl h2 h3
 have HE1:Hid ((layE bnd l).1≠0→L=layE bnd l):=fun h=>by rw [hL];unfold idsE;rw [if_pos h]
 have HE0:Hid ((layE bnd l).1=0→L=idsF l n 0∧n≤1048576∧okTo l n∧partsF bnd l 14=((cntP l 7 n:Nat):Int)∧partsF bnd l 15=((cntP l 8 n:Nat):Int)):=fun h=>by
  obtain⟨q1,q2,q3⟩:=layE_ok h
  rw [hl] at q1
  refine⟨by rw [hL];unfold idsE;rw [if_neg (by simpa using h),hl],by rw [← hl];exact (shape_few q2).1,q1,?_,?_⟩
  ·unfold partsF;rw [if_neg (by simpa using h),hl]
  ·unfold partsF;rw [if_neg (by simpa using h),hl]
 have HMB:Hid (((w.alloc (.cells #[.int .u32 gen,.int .u32 bnd,.slice a n c] 25)).alloc (.cells #[.int .i64 0,.int .i64 0] 30)).heap[w.heap.size]?=some (.cells #[.int .u32 gen,.int .u32 bnd,.slice a n c] 25 (0,0))):=by
  show _=_
  rw [Below.heap_alloc _ _ _ (by simp)];exact heap_alloc_new w _
 have HRB:Hid (SpotB ((w.alloc (.cells #[.int .u32 gen,.int .u32 bnd,.slice a n c] 25)).alloc (.cells #[.int .i64 0,.int .i64 0] 30)) (w.heap.size+1) 0 0):=by
  have:=heap_alloc_new (w.alloc (.cells #[.int .u32 gen,.int .u32 bnd,.slice a n c] 25)) (.cells #[.int .i64 0,.int .i64 0] 30)
  rw [World.size_alloc] at this
  exact this
 have HLT:Hid (w.heap.size+1<((w.alloc (.cells #[.int .u32 gen,.int .u32 bnd,.slice a n c] 25)).alloc (.cells #[.int .i64 0,.int .i64 0] 30)).heap.size):=by show _<_;simp
 have HB0:=hide hb0
 have HV:=hide hv
 have HRET:Hid (∀ (a':Act) (Z:World),slot a'.tmps 2=.pointer (some ⟨w.heap.size+1,0,none⟩)→a'.defers=[]→SpotB Z (w.heap.size+1) L.1 (L.2:Int)→Below w.heap.size w Z→bodyPost Tryz.prog Tryz.f40 (fun e w'=>e=.returned (.agg #[.int .i64 L.1,.int .i64 (L.2:Int)])∧Below w.heap.size w w') .ret a' Z):=by
  intro a' Z q2 q3 q4 q5
  have r6:=run_loadVar_mid (P:=Tryz.prog) Z (w.heap.size+1) 0 30 [.int .i64 L.1,.int .i64 (L.2:Int)] _ (range_of_block q4) Tryz.underlying30 rfl (by kernel_rfl)
  refine bodyPost_ret (v:=.agg #[.int .i64 L.1,.int .i64 (L.2:Int)]) ?_ q3 ⟨rfl,q5⟩
  have hG2:a'.tmps.getD 2 undef=.pointer (some ⟨w.heap.size+1,0,none⟩):=q2
  simp only [results,Tryz.results40,List.mapM_toArray,List.mapM_cons,List.mapM_nil,hG2,asAddr,Sem.run_bind,Sem.run_pure,Result.andThen_ok,bind_assoc,pure_bind,Sem.run_map,map_pure,r6]
  rfl
 generalize partsF bnd l=f at *
 generalize layE bnd l=E at *
 obtain⟨e1,e2⟩:=E
 unfold modV partsV at *
 simp only at *
 clear hb0 hv hok hl hL
 go_enter Tryz.func40,Tryz.ntmps40
 go_wp2_with fail
 generalize (w.alloc (.cells #[.int .u32 gen,.int .u32 bnd,.slice a n c] 25)).alloc (.cells #[.int .i64 0,.int .i64 0] 30)=W0 at *
 refine hPp.mono ?_
 rintro e w1 ⟨rfl,hb1⟩
 obtain⟨k1,k2,k3,k4,k5,k6⟩:=kept_parts w1 f e1 e2
 have HK1:=hide k1
 have HK2:=hide k2
 have HK3:=hide k3
 have HK4:=hide k4
 have HK5:=hide (hb1.trans (k5.mono hb1.size))
 have HK6:=hide k6
 have HS1:Hid (W0.heap.size≤w1.heap.size):=hb1.size
 clear k1 k2 k3 k4 k5 k6 hPp hb1
 go_wp2_with (with_reducible refine stopS 108 ?_)
 refine wpList_store_mid rfl 108 (.tmp 3) (.tmp 8) rfl w1.heap.size 0 #[.int .i64 (f 0),.int .i64 (f 1),.int .i64 (f 2),.int .i64 (f 3),.int .i64 (f 4),.int .i64 (f 5),.int .i64 (f 6),.int .i64 (f 7),.int .i64 (f 8),.int .i64 (f 9),.int .i64 (f 10),.int .i64 (f 11),.int .i64 (f 12),.int .i64 (f 13),.int .i64 (f 14),.int .i64 (f 15),.int .i64 (f 16),.int .i64 (f 17),.int .i64 (f 18),.int .i64 (f 19)] rfl rfl HK1.out (by kernel_rfl) (by simp [Value.oneCell']) ?_
 simp only [Act.put]
 refine wpList_store_mid rfl 30 (.tmp 4) (.tmp 9) rfl (w1.heap.size+1) 0 #[.int .i64 e1,.int .i64 (e2:Nat)] rfl rfl HK2.out (by kernel_rfl) (by simp [Value.oneCell']) ?_
 simp only [Act.put]
 generalize (((w1.alloc (.cells #[.int .i64 0,.int .i64 0,.int .i64 0,.int .i64 0,.int .i64 0,.int .i64 0,.int .i64 0,.int .i64 0,.int .i64 0,.int .i64 0,.int .i64 0,.int .i64 0,.int .i64 0,.int .i64 0,.int .i64 0,.int .i64 0,.int .i64 0,.int .i64 0,.int .i64 0,.int .i64 0] 108)).alloc (.cells #[.int .i64 0,.int .i64 0] 30)).setCells w1.heap.size 0 [.int .i64 (f 0),.int .i64 (f 1),.int .i64 (f 2),.int .i64 (f 3),.int .i64 (f 4),.int .i64 (f 5),.int .i64 (f 6),.int .i64 (f 7),.int .i64 (f 8),.int .i64 (f 9),.int .i64 (f 10),.int .i64 (f 11),.int .i64 (f 12),.int .i64 (f 13),.int .i64 (f 14),.int .i64 (f 15),.int .i64 (f 16),.int .i64 (f 17),.int .i64 (f 18),.int .i64 (f 19)]).setCells (w1.heap.size+1) 0 [.int .i64 e1,.int .i64 (e2:Nat)]=X at *
 clear HK1 HK2
 have hl0:=HLT.out
 have hs1:=HS1.out
 have hlx:=HK6.out
 have HBX:=hide (HB0.out.trans (HK5.out.mono HB0.out.size))
 have hwX:w.heap.size+1<X.heap.size:=by omega
 obtain⟨cm,_⟩:=one_block ((HK5.out.block w.heap.size (by omega)).trans HMB.out)
 have m2:=cm 2
 have hr:SpotB X (w.heap.size+1) 0 0:=(HK5.out.block _ hl0).trans HRB.out
 obtain⟨cr,fr⟩:=one_block hr
 have u0:=cr 0
 have u1:=cr 1
 obtain⟨c4,_⟩:=one_block HK4.out
 have x0:=c4 0
 have x1:=c4 1
 obtain⟨c3,_⟩:=one_block HK3.out
 have y14:=c3 14
 have y15:=c3 15
 have HR:=hide hr
 have FINE:Hid (∀ (Z:World) (x y:Int),Below X.heap.size X Z→SpotB ((Z.setCell ⟨w.heap.size+1,0,none⟩ (.int .i64 x)).setCell ⟨w.heap.size+1,1,none⟩ (.int .i64 y)) (w.heap.size+1) x y∧Below w.heap.size w ((Z.setCell ⟨w.heap.size+1,0,none⟩ (.int .i64 x)).setCell ⟨w.heap.size+1,1,none⟩ (.int .i64 y))):=fun Z x y hZ =>
  ⟨SpotB.put (e:=0) (p:=0) ((hZ.block _ hwX).trans HR.out) x y,below_grown (HBX.out.trans (hZ.mono HBX.out.size)) (setCells_grown (w.heap.size+1) [.int .i64 x,.int .i64 y] 0 Z) (fun g e=>by simp at e;omega)⟩
 clear cm cr c4 c3 hr
 by_cases he:e1=0
 ·subst he
  obtain⟨hLf,hnn,hto,hp7,hp8⟩:=HE0.out rfl
  have hF:=HFF.out X (HV.out.below HBX.out) hnn hto
  rw [← hp7,← hp8] at hF
  rw [← hLf] at hF
  clear HE1 HE0 HFF hLf hnn hto hp7 hp8
  go_wp2_with fail
  refine hF.mono ?_
  rintro e w3 ⟨rfl,hb3⟩
  obtain⟨f1,f2⟩:=FINE.out w3 L.1 (L.2:Int) hb3
  have F1:=hide f1
  have F2:=hide f2
  obtain⟨cr3,fr3⟩:=one_block ((hb3.block (w.heap.size+1) hwX).trans HR.out)
  have v0:=cr3 0
  have v1:=cr3 1
  have hw3:w.heap.size+1<w3.heap.size:=Nat.lt_of_lt_of_le hwX hb3.size
  clear hF f1 f2 hb3 cr3 u0 u1 fr
  go_wp2_with fail
  exact HRET.out _ _ rfl rfl F1.out F2.out
 ·have he1:(e1 != 0)=true:=by simpa using he
  have HLE:=hide (HE1.out he)
  obtain⟨f1,f2⟩:=FINE.out X e1 e2 (Below.refl _ _)
  have F1:=hide f1
  have F2:=hide f2
  clear he HE0 HE1 f1 f2
  go_wp2_with fail
  refine HRET.out _ _ rfl rfl ?_ F2.out
  rw [HLE.out]
  exact F1.out
end Go.Proofs.YtoebhgpciinkgaaGreatDoor
namespace Go.Proofs.YtoebhgpciinkgaaGreatDoor
open Go.RowKit Go.Maps
set_option linter.unusedVariables false
set_option linter.unusedSimpArgs false
set_option maxRecDepth 10000
theorem take_any {b:Int} (l:List InstT) (hI:(idsE b l).1=0) (hoks:InstsOk l) (hfew:l.length≤1048576) (k:Nat) (hk:k<l.length) (hE:∀ i,i<k→tyErr l i=0) {B q p mb nb kb:Nat} {ov:Value} {f:Int→Value} (ax:Option Addr) (na cx:Nat) (w:World) (hB:BdB w B q p mb nb kb (2 * k) (tySt l k).1 (tySt l k).2 (keyB l k) ov f) (hv:ArgsV w ax (nthI l k).2.2.2) (hl:(nthI l k).2.2.2.length=na) (hBw:B≤w.heap.size) (htn:TenP w) :
  Calls Tryz.prog 42 #[.pointer (some ⟨q,0,none⟩),instV (nthI l k) ax na cx] w fun e w'=>e=.returned (.int .i64 (tyErr l k))∧Below B w w'∧(tyErr l k=0→∃ ov f,BdB w' B q p mb nb kb (2 * (k+1)) (tySt l (k+1)).1 (tySt l (k+1)).2 (keyB l (k+1)) ov f):=by
 obtain⟨hR,hb⟩:=ops_all hoks hI
 have hok:=hoks k hk
 have hO:=hR k hk
 have ht:=tab_fits hb hoks hI hR k (by omega) hE
 have hnew:=tab_new hoks hI hR hk
 have htl:(tySt l k).1.length≤k:=by
  have:∀ j,(tySt l j).1.length≤j:=by
   intro j
   induction j with
   | zero=>simp [tySt]
   | succ j ih =>
    rw [tySt]
    split
    ·simp only;omega
    ·split
     ·omega
     ·simp only [List.length_append,List.length_singleton];omega
  exact this k
 by_cases h43:(nthI l k).1=43
 ·have hz:tyErr l k=0:=by unfold tyErr;rw [if_pos h43]
  have hst:tySt l (k+1)=((tySt l k).1,tyNum (tySt l k).1 (tySt l k).2 (nthI l k)):=by rw [tySt,if_pos h43]
  have hkb:∀ s,keyB l k s=keyB l (k+1) s:=fun s=>by rw [keyB_succ hk,h43];simp [isMak]
  have h1:=(hO.o43 h43).1
  have hb1:Below w.heap.size w (w.alloc (.cells #[.int .u16 (nthI l k).1,.int .u32 (nthI l k).2.1,.int .u32 (nthI l k).2.2.1,.slice ax na cx] 71)):=(Below.refl _ w).alloc (Nat.le_refl _) _
  have hA:=addNumber_any (nthI l k) ax na cx _ (hB.below hb1) (hv.below hb1) hl hok (by omega) (by omega) (Nat.le_trans hBw hb1.size)
  rw [hz,hst]
  simp only
  generalize tyNum (tySt l k).1 (tySt l k).2 (nthI l k)=nf' at *
  generalize hx:nthI l k=x at *
  obtain⟨op,ty,res,xs⟩:=x
  simp only at h43 hb1 hA
  subst h43
  unfold instV at *
  simp only at hA ⊢
  have HB1:=hide hb1
  have HBW:=hide hBw
  have HKB:=hide hkb
  clear hx hB hv hl hb1 hBw hkb hok hO hst hz
  go_enter Tryz.func42,Tryz.ntmps42
  go_wp2_with (go_at_call 69;refine hA.mono ?_;rintro e w5 ⟨rfl,hbd5,hb5⟩)
  go_ret
  refine⟨rfl,(HB1.out.mono HBW.out).trans hb5,fun _=>⟨ov,f,?_⟩⟩
  have h:=hbd5.mono (show 2 * k+1≤2 * (k+1) by omega)
  exact⟨h.tab,h.blk,h.nums,h.keys.congr HKB.out,h.apart,h.low⟩
 ·have hag:isMak (nthI l k).1=true→keyB l k (keyL (nthI l k))=tyAgain l k:=keyB_again hoks hk
  have hkb:∀ s,(keyB l k s || (isMak (nthI l k).1 && decide (s=keyL (nthI l k))))=keyB l (k+1) s:=fun s=>by
   rw [keyB_succ hk]
   congr 2
   exact decide_eq_decide.2 ⟨fun h=>h.symm,fun h=>h.symm⟩
  have hnf:∀ id,0≤tyNumD (tySt l k).2 id∧tyNumD (tySt l k).2 id<4294967296:=fun id=>by
   unfold tyNumD
   cases e:(tySt l k).2 id with
   | none=>exact⟨Int.le_refl 0,by decide⟩
   | some v=>exact num_range hoks (fun j hj h=>((hR j hj).o43 h).1) k (by omega) id v e
  have hz:tyErr l k=(tyTake l k (tySt l k).1 (tySt l k).2).1:=by unfold tyErr;rw [if_neg h43]
  have hst:tySt l (k+1)=if (tyTake l k (tySt l k).1 (tySt l k).2).2.kind=0 then tySt l k else ((tySt l k).1++[(tyTake l k (tySt l k).1 (tySt l k).2).2],(tySt l k).2):=by rw [tySt,if_neg h43]
  rcases hx:nthI l k with ⟨op,ty,res,xs⟩
  rw [hx] at hv hl hok hO hnew h43 hag hkb
  refine (take_go l k op ty res xs hx ax na cx w hB hv hl hok hO hb ht hnf (by omega) hBw htn h43 hnew (by omega) hag).mono ?_
  rintro e w' ⟨rfl,hbw,hfin⟩
  refine⟨by rw [hz],hbw,fun h0=>?_⟩
  obtain⟨ov',f',h⟩:=hfin (by rw [← hz];exact h0)
  refine⟨ov',f',?_⟩
  rw [hst,← show 2 * k+2=2 * (k+1) by omega]
  by_cases hkk:(tyTake l k (tySt l k).1 (tySt l k).2).2.kind=0
  ·rw [if_pos hkk] at h ⊢
   exact⟨h.tab,h.blk,h.nums,h.keys.congr hkb,h.apart,h.low⟩
  ·rw [if_neg hkk] at h ⊢
   exact⟨h.tab,h.blk,h.nums,h.keys.congr hkb,h.apart,h.low⟩
def TypesQ (w w':World) (b:Int) (l:List InstT) (e:Ending):Prop :=
 ∃ pv,e=.returned (.tuple #[pv,.agg #[.int .i64 (tyE b l).1,.int .i64 ((tyE b l).2:Int)]])∧Below w.heap.size w w'∧((tyE b l).1≠0∧pv=.pointer none∨(tyE b l).1=0∧∃ p,pv=.pointer (some ⟨p,0,none⟩)∧TabV w' w.heap.size p (tyTab l))
theorem heap_five (w:World) (o0 o1 o2 o3 o4:Obj):(((((w.alloc o0).alloc o1).alloc o2).alloc o3).alloc o4).heap[w.heap.size]?=some o0∧(((((w.alloc o0).alloc o1).alloc o2).alloc o3).alloc o4).heap[w.heap.size+1]?=some o1∧(((((w.alloc o0).alloc o1).alloc o2).alloc o3).alloc o4).heap[w.heap.size+2]?=some o2∧(((((w.alloc o0).alloc o1).alloc o2).alloc o3).alloc o4).heap[w.heap.size+3]?=some o3∧(((((w.alloc o0).alloc o1).alloc o2).alloc o3).alloc o4).heap[w.heap.size+4]?=some o4:=by
 refine⟨?_,?_,?_,?_,?_⟩
 all_goals
  simp only [allocAt,World.size_alloc]
  repeat (first | rw [if_neg (by omega)] | rw [if_pos (by omega)])
  try rfl
theorem TabB.lower {w:World} {B B' p mb n:Nat} {t:List TyR} {ov:Value} {f:Int→Value} (h:TabB w B p mb n t ov f) (hB:B'≤B):TabB w B' p mb n t ov f:=by
 refine⟨h.blk,h.map,fun id=>(h.ents id).mono hB,?_,Nat.le_trans hB h.pB,Nat.le_trans hB h.mB,h.apart⟩
 obtain⟨h1,h2⟩:=h.order
 refine⟨h1,?_⟩
 rcases h2 with h2 | ⟨g,cap,cur,e1,e2,e3⟩
 ·exact .inl h2
 ·exact .inr ⟨g,cap,cur,e1,Nat.le_trans hB e2,e3⟩
theorem newBuilder_any (w:World) :
  Calls Tryz.prog 41 #[] w fun e w'=>(∃ q p mb nb kb,e=.returned (.pointer (some ⟨q,0,none⟩))∧BdB w' w.heap.size q p mb nb kb 0 [] (fun _=>none) (fun _=>false) (.slice none 0 0) (fun _=>zeroE))∧Below w.heap.size w w':=by
 have hmm:=@run_makeMap Tryz.prog
 go_enter Tryz.func41,Tryz.ntmps41
 go_wp2_with fail
 go_ret
 have hs:∀ (o0 o1 o2 o3 o4:Obj),Below w.heap.size w (((((w.alloc o0).alloc o1).alloc o2).alloc o3).alloc o4):=fun o0 o1 o2 o3 o4 =>
  (((((Below.refl w.heap.size w).alloc (Nat.le_refl _) o0).alloc (by simp only [World.size_alloc];omega) o1).alloc (by simp only [World.size_alloc];omega) o2).alloc (by simp only [World.size_alloc];omega) o3).alloc (by simp only [World.size_alloc];omega) o4
 have hh:=heap_five w (.map #[] 0) (.cells #[.map (some w.heap.size),.slice none 0 0] 91) (.map #[] 0) (.map #[] 0) (.cells #[.pointer (some ⟨w.heap.size+1,0,none⟩),.map (some (w.heap.size+2)),.map (some (w.heap.size+3))] 84)
 refine⟨⟨w.heap.size+4,w.heap.size+1,w.heap.size,w.heap.size+2,w.heap.size+3,rfl,?_⟩,hs _ _ _ _ _⟩
 obtain⟨h0,h1,h2,h3,h4⟩:=hh
 refine⟨⟨h1,?_,fun id=>?_,?_,Nat.le_succ _,Nat.le_refl _,fun id b o m c e hne=>?_⟩,h4,?_,?_,⟨by omega,by omega,by omega⟩,⟨by omega,by omega,by omega⟩⟩
 ·exact (MapV.made w zeroE).block (h0.trans (heap_alloc_new w _).symm)
 ·exact EntV.nothing _ _
 ·exact World.ownsRow_nil _ _ _ _
 ·exact absurd rfl hne
 ·have h:=MapU.made ((w.alloc (.map #[] 0)).alloc (.cells #[.map (some w.heap.size),.slice none 0 0] 91)) 22 .u32
  simp only [World.size_alloc] at h
  refine h.block (h2.trans ?_)
  have:=heap_alloc_new ((w.alloc (.map #[] 0)).alloc (.cells #[.map (some w.heap.size),.slice none 0 0] 91)) (.map #[] 0)
  simp only [World.size_alloc] at this
  exact this.symm
 ·have h:=MapS.made (((w.alloc (.map #[] 0)).alloc (.cells #[.map (some w.heap.size),.slice none 0 0] 91)).alloc (.map #[] 0))
  simp only [World.size_alloc] at h
  refine h.block (h3.trans ?_)
  have:=heap_alloc_new (((w.alloc (.map #[] 0)).alloc (.cells #[.map (some w.heap.size),.slice none 0 0] 91)).alloc (.map #[] 0)) (.map #[] 0)
  simp only [World.size_alloc] at this
  exact this.symm
theorem res_spot {fn:Func} {x y:Tmp} (hr:fn.results=#[.tmp x,.cell y 30]) (tmps:Array Value) (w:World) (b:Nat) (pv:Value) (e k:Int) (hx:tmps.getD x undef=pv) (hy:tmps.getD y undef=.pointer (some ⟨b,0,none⟩)) (hE:w.heap[b]?=some (.cells #[.int .i64 e,.int .i64 k] 30 (0,0))):(results fn tmps).run Tryz.prog w=.ok (.tuple #[pv,.agg #[.int .i64 e,.int .i64 k]]) w:=by
 have hl:=run_loadVar_mid (P:=Tryz.prog) w b 0 30 [.int .i64 e,.int .i64 k] _ (fun j v hv=>by rw [Nat.zero_add];simp [World.cell?,hE,hv]) Tryz.underlying30 rfl (by kernel_rfl)
 simp only [results,hr,List.mapM_toArray,List.mapM_cons,List.mapM_nil,hx,hy,asAddr,Sem.run_bind,Sem.run_pure,Result.andThen_ok,bind_assoc,pure_bind,Sem.run_map,map_pure,hl]
 rfl
theorem spot_put {W:World} {g T:Nat} {x0 x1:Value} (k:W.heap[g]?=some (.cells #[x0,x1] T (0,0))) (u0 u1:Value):((W.setCell ⟨g,0,none⟩ u0).setCell ⟨g,1,none⟩ u1).heap[g]?=some (.cells #[u0,u1] T (0,0)):=by
 simp [World.setCell,Array.getElem?_modify,k]
set_option maxHeartbeats 8000000 in
theorem typesNew_any (gen bnd:Int) (a:Option Addr) (n c:Nat) (l:List InstT) (w:World) (hv:InstsV w a l) (hok:InstsOk l) (hl:l.length=n) (hn:40 * n≤140737488351232) (g0:0≤gen) (g1:gen<4294967296) (b0:0≤bnd) (b1:bnd<4294967296) (ht:TenP w) :
  Calls Tryz.prog 11 #[modV gen bnd a n c] w fun e w'=>TypesQ w w' bnd l e:=by
 have hb0:Below w.heap.size w ((w.alloc (.cells #[.int .u32 gen,.int .u32 bnd,.slice a n c] 25)).alloc (.cells #[.int .i64 0,.int .i64 0] 30)):=((Below.refl _ w).alloc (Nat.le_refl _) _).alloc (by simp) _
 have hCk:=idsCheck_any gen bnd a n c l _ (hv.below hb0) hok hl hn g0 g1 b0 b1
 have k0:((w.alloc (.cells #[.int .u32 gen,.int .u32 bnd,.slice a n c] 25)).alloc (.cells #[.int .i64 0,.int .i64 0] 30)).heap[w.heap.size]?=some (.cells #[.int .u32 gen,.int .u32 bnd,.slice a n c] 25 (0,0)):=by rw [Below.heap_alloc _ _ _ (by simp)];exact heap_alloc_new _ _
 have k1:((w.alloc (.cells #[.int .u32 gen,.int .u32 bnd,.slice a n c] 25)).alloc (.cells #[.int .i64 0,.int .i64 0] 30)).heap[w.heap.size+1]?=some (.cells #[.int .i64 0,.int .i64 0] 30 (0,0)):=by have:=heap_alloc_new (w.alloc (.cells #[.int .u32 gen,.int .u32 bnd,.slice a n c] 25)) (.cells #[.int .i64 0,.int .i64 0] 30);simpa using this
 have HK:=hide (And.intro k0 k1)
 have HB0:=hide hb0
 have HV:=hide hv
 have HOK:=hide hok
 have HL:=hide hl
 have HT:=hide ht
 have hsz:((w.alloc (.cells #[.int .u32 gen,.int .u32 bnd,.slice a n c] 25)).alloc (.cells #[.int .i64 0,.int .i64 0] 30)).heap.size=w.heap.size+2:=by simp
 have HSZ:=hide hsz
 have hte:tyE bnd l=if (idsE bnd l).1≠0 then idsE bnd l else tyNew l l.length 0:=rfl
 have HTE:=hide hte
 unfold modV at *
 clear hb0 hv hok hl ht k0 k1 hsz hte
 generalize hID:idsE bnd l=ID at *
 have HID:=hide hID
 obtain⟨e1,e2⟩:=ID
 simp only at hCk
 clear hID
 by_cases hz:e1=0
 ·subst hz
  have hI0:(idsE bnd l).1=0:=by rw [HID.out]
  have HI0:=hide hI0
  have HTE2:Hid (tyE bnd l=tyNew l l.length 0):=by show _=_;rw [HTE.out,if_neg (by simp)]
  have HFW:Hid (n≤1048576):=by
   show _≤_
   have hL:(layE bnd l).1=0:=by
    unfold idsE at hI0
    split at hI0
    ·rename_i hn;exact absurd hI0 hn
    ·rename_i hn;simpa using hn
   have:=(shape_few (layE_ok hL).2.1).1
   rw [HL.out] at this;exact this
  clear hI0 HTE
  go_enter Tryz.func11,Tryz.ntmps11
  go_wp2_with fail
  generalize ((w.alloc (.cells #[.int .u32 gen,.int .u32 bnd,.slice a n c] 25)).alloc (.cells #[.int .i64 0,.int .i64 0] 30))=W at *
  refine hCk.mono ?_
  rintro e w1 ⟨rfl,hb1⟩
  have hbS:=hb1.alloc hb1.size (.cells #[.int .i64 0,.int .i64 (e2:Int)] 30)
  have q1:=(hbS.block _ (Array.getElem?_eq_some_iff.1 HK.out.2).1).trans HK.out.2
  have q0:=(hbS.block _ (Array.getElem?_eq_some_iff.1 HK.out.1).1).trans HK.out.1
  have m2:=(one_block q0).1 2
  have HBS:=hide hbS
  clear hCk hb1 q0 q1
  go_wp2_with fail
  generalize w1.alloc (.cells #[.int .i64 0,.int .i64 (e2:Int)] 30)=W1 at *
  refine (newBuilder_any _).mono ?_
  rintro e w2 ⟨⟨q,p,mb,nb,kb,rfl,hbd⟩,hb2⟩
  have HBD:=hide hbd
  have HB2:=hide hb2
  have m2':=(hb2.cell (p:=⟨w.heap.size,2,none⟩) (by have:=HBS.out.size;have h2:=(Array.getElem?_eq_some_iff.1 HK.out.1).1;show w.heap.size<_;omega)).trans m2
  clear hbd hb2 m2
  go_wp2_with fail
  clear m2'
  go_loopw [19] (fun i wr=>∃ k:Nat,k≤n∧i=.int .i64 k∧(∀ j,j<k→tyErr l j=0)∧(∃ ov f,BdB wr W1.heap.size q p mb nb kb (2 * k) (tySt l k).1 (tySt l k).2 (keyB l k) ov f)∧Below W1.heap.size W1 wr) (fun i _=>n - (intOf i).toNat)
  case atStart=>exact⟨0,Nat.zero_le _,rfl,fun j h=>absurd h (Nat.not_lt_zero j),⟨_,_,HBD.out⟩,HB2.out⟩
  case round =>
   obtain⟨k,hk,rfl,herr,⟨ov,f,hbd⟩,hbr⟩:=hrel
   have HBR:=hide hbr
   have HBW:Hid (Below W.heap.size W wr):=HBS.out.trans (hbr.mono HBS.out.size)
   have HER:=hide herr
   by_cases hlt:k<n
   ·obtain⟨b,off,aj,cj,nj,rfl,hb,i0,i1,i2,i3,hnj,hav,hcj⟩:=(HV.out.below (HB0.out.trans (HBW.out.mono HB0.out.size))) k (by rw [HL.out];exact hlt)
    have hki:(k:Int)<(n:Int):=by omega
    have hk0:(0:Int)≤(k:Int):=by omega
    have HLT:=hide hlt
    have hbA:Below wr.heap.size wr (wr.alloc (.cells #[.int .u16 (nthI l k).1,.int .u32 (nthI l k).2.1,.int .u32 (nthI l k).2.2.1,.slice aj nj cj] 71)):=(Below.refl _ wr).alloc (Nat.le_refl _) _
    have HTK:=hide (take_any (b:=bnd) l HI0.out HOK.out (by rw [HL.out];exact HFW.out) k (by rw [HL.out];exact hlt) herr aj nj cj _ (hbd.below hbA) (hav.below hbA) hnj (Nat.le_trans hbr.size hbA.size) (((HT.out.below HB0.out).below HBW.out).below hbA))
    have HBA:=hide hbA
    have HED:=hide (show k<l.length by rw [HL.out];exact hlt)
    unfold instV at HTK
    clear hbd hbr herr hlt hb hnj hav hcj hbA
    generalize hE:tyErr l k=E at *
    have HE:=hide hE
    clear hE
    generalize (nthI l k).1=x0 at *
    generalize (nthI l k).2.1=x1 at *
    generalize (nthI l k).2.2.1=x2 at *
    go_wp2_with fail
    refine HTK.out.mono ?_
    rintro e w4 ⟨rfl,hb4,hst⟩
    have HST:=hide hst
    have HB4:=hide ((HBR.out.trans (HBA.out.mono HBR.out.size)).trans hb4)
    clear hst hb4
    by_cases hE0:E=0
    ·subst hE0
     have HS2:=hide (HST.out rfl)
     clear HST
     go_wp2_with fail
     exact⟨⟨k+1,HLT.out,by go_num,fun j hj=>by by_cases e:j=k;exact e ▸ HE.out;exact HER.out j (by omega),HS2.out,HB4.out⟩,measTn HLT.out⟩
    ·have n1:(E==0)=false:=by simpa using hE0
     have n2:(E != 0)=true:=by simpa using hE0
     have HEN:=hide hE0
     have hbf:Below W.heap.size W w4:=HBS.out.trans (HB4.out.mono HBS.out.size)
     have q1:=(hbf.block _ (Array.getElem?_eq_some_iff.1 HK.out.2).1).trans HK.out.2
     obtain⟨qc,qf⟩:=one_block q1
     have r0:=qc 0
     have r1:=qc 1
     have f0:=qf 0
     have f1:=qf 1
     have HBF:=hide (HB0.out.trans (hbf.mono HB0.out.size))
     have HQ1:=hide (spot_put q1 (.int .i64 E) (.int .i64 (k:Int)))
     clear qc qf q1 HST hbf hE0
     go_wp2_with fail
     try simp only [Exit.inBlock,Exit.then]
     refine bodyPost_ret (res_spot Tryz.results11 _ _ _ _ _ _ rfl rfl HQ1.out) rfl ?_
     have hte:tyE bnd l=(E,k):=by rw [HTE2.out,tyNew_at HED.out HER.out (by rw [HE.out];exact HEN.out),HE.out]
     unfold TypesQ
     rw [hte]
     exact⟨_,rfl,(HBF.out.setCell (p:=⟨w.heap.size+1,0,none⟩) (Nat.le_succ _) _).setCell (p:=⟨w.heap.size+1,1,none⟩) (Nat.le_succ _) _,.inl ⟨HEN.out,rfl⟩⟩
   ·obtain rfl:k=n:=by omega
    have hbf:Below W.heap.size W wr:=HBW.out
    have q1:=(hbf.block _ (Array.getElem?_eq_some_iff.1 HK.out.2).1).trans HK.out.2
    obtain⟨qc,qf⟩:=one_block q1
    have r0:=qc 0
    have r1:=qc 1
    have f0:=qf 0
    have f1:=qf 1
    have u0:=hbd.cells.1
    have HBDF:=hide hbd
    have HBF:=hide (HB0.out.trans (hbf.mono HB0.out.size))
    have HQ1:=hide (spot_put q1 (.int .i64 0) (.int .i64 0))
    have HSW:Hid (w.heap.size+1<W1.heap.size):=Nat.lt_of_lt_of_le (Array.getElem?_eq_some_iff.1 HK.out.2).1 HBS.out.size
    clear qc qf q1 hbf hbd hbr herr hlt
    go_wp2_with fail
    try simp only [Exit.inBlock,Exit.then]
    refine bodyPost_ret (res_spot Tryz.results11 _ _ _ _ _ _ rfl rfl HQ1.out) rfl ?_
    have hte:tyE bnd l=(0,0):=by rw [HTE2.out,tyNew_done (fun i hi=>HER.out i (by rw [← HL.out];exact hi))]
    unfold TypesQ
    rw [hte]
    refine⟨_,rfl,(HBF.out.setCell (p:=⟨w.heap.size+1,0,none⟩) (Nat.le_succ _) _).setCell (p:=⟨w.heap.size+1,1,none⟩) (Nat.le_succ _) _,.inr ⟨rfl,p,rfl,?_⟩⟩
    have hT:=HBDF.out.tab
    rw [show (tySt l k).1=tyTab l from by unfold tyTab;rw [HL.out]] at hT
    have h2:TabV ((wr.setCell ⟨w.heap.size+1,0,none⟩ (.int .i64 0)).setCell ⟨w.heap.size+1,1,none⟩ (.int .i64 0)) W1.heap.size p (tyTab l):=by
     refine TabV.kept ⟨mb,_,_,_,hT⟩ (by simp) (fun b h1 h2=>?_)
     have:=HSW.out
     exact (Below.heap_setCell _ _ _ _ (by simp;omega)).trans (Below.heap_setCell _ _ _ _ (by simp;omega))
    obtain⟨mb',n',ov',f',hh⟩:=h2
    exact⟨mb',n',ov',f',hh.lower (by have:=HSW.out;omega)⟩
 ·have z1:(e1==0)=false:=by simpa using hz
  have z2:(e1 != 0)=true:=by simpa using hz
  have HZ:=hide hz
  go_enter Tryz.func11,Tryz.ntmps11
  go_wp2_with fail
  generalize ((w.alloc (.cells #[.int .u32 gen,.int .u32 bnd,.slice a n c] 25)).alloc (.cells #[.int .i64 0,.int .i64 0] 30))=W at *
  refine hCk.mono ?_
  rintro e w1 ⟨rfl,hb1⟩
  have hbA:=hb1.alloc hb1.size (.cells #[.int .i64 e1,.int .i64 (e2:Int)] 30)
  have q1:=(hbA.block _ (Array.getElem?_eq_some_iff.1 HK.out.2).1).trans HK.out.2
  obtain⟨qc,qf⟩:=one_block q1
  have r0:=qc 0
  have r1:=qc 1
  have f0:=qf 0
  have f1:=qf 1
  have hN:=one_block (heap_alloc_new w1 (.cells #[.int .i64 e1,.int .i64 (e2:Int)] 30))
  have s0:=hN.1 0
  have s1:=hN.1 1
  have HBF:=hide (HB0.out.trans (hbA.mono HB0.out.size))
  have HQ1:=hide (spot_put q1 (.int .i64 e1) (.int .i64 (e2:Int)))
  clear qc qf q1 hN hbA hb1
  go_wp2_with fail
  generalize w1.alloc (.cells #[.int .i64 e1,.int .i64 (e2:Int)] 30)=W1 at *
  go_region_with (fail)
  all_goals
   go_wp2_with fail
   try simp only [Exit.inBlock,Exit.then]
   refine bodyPost_ret (res_spot Tryz.results11 _ _ _ _ _ _ rfl rfl HQ1.out) rfl ?_
   have hte:tyE bnd l=(e1,e2):=by rw [HTE.out,if_pos HZ.out]
   unfold TypesQ
   rw [hte]
   exact⟨_,rfl,(HBF.out.drew.setCell (p:=⟨w.heap.size+1,0,none⟩) (Nat.le_succ _) _).setCell (p:=⟨w.heap.size+1,1,none⟩) (Nat.le_succ _) _,.inl ⟨HZ.out,rfl⟩⟩
theorem field_sg (k n s d g c v:Value) (w:World):(Instr.field 98 (.agg #[k,n,s,d,g,c,v]) 1).run Tryz.prog w=.ok g w:=by
 have hu:=Tryz.underlying98
 have ha:=Tryz.isAgg4 w
 simp [Instr.field,run_underlying hu,asAgg,part,ha,go_sem]
theorem field_com1 (k n s d:Value) (w:World):(Instr.field 96 (.agg #[k,n,s,d]) 1).run Tryz.prog w=.ok n w:=by
 have hu:=Tryz.underlying96
 have ha:=Tryz.isAgg3 w
 simp [Instr.field,run_underlying hu,asAgg,part,ha,go_sem]
theorem field_com2 (k n s d:Value) (w:World):(Instr.field 96 (.agg #[k,n,s,d]) 2).run Tryz.prog w=.ok s w:=by
 have hu:=Tryz.underlying96
 have ha:=Tryz.isAgg3 w
 simp [Instr.field,run_underlying hu,asAgg,part,ha,go_sem]
theorem tySigned_any {B p mb n:Nat} {t:List TyR} {ov:Value} {f:Int→Value} (id:Int) (w:World) (h:TabB w B p mb n t ov f) (k0:0≤id) (k1:id<4294967296) :
  Calls Tryz.prog 30 #[.pointer (some ⟨p,0,none⟩),.int .u32 id] w fun e w'=>e=.returned (.bool (tyD t id).signed)∧Below w.heap.size w w':=by
 have hF:=find_any id w h k0 k1
 obtain⟨a,c,e,_⟩:=h.ents id
 rw [e] at hF
 unfold entV at hF
 clear h e
 generalize tyD t id=r at *
 have h0:=field_sg
 go_enter Tryz.func30,Tryz.ntmps30
 go_wp2_with (go_at_call 55;refine hF.mono ?_;rintro e w1 ⟨rfl,hb1⟩)
 go_returns
 exact⟨rfl,hb1⟩
theorem tySigned_nil (id:Int) (w:World) :
  Calls Tryz.prog 30 #[.pointer none,.int .u32 id] w fun e w'=>e=.returned (.bool false)∧Below w.heap.size w w':=by
 have hF:=find_nil id w
 unfold zeroE at hF
 have h0:=field_sg
 go_enter Tryz.func30,Tryz.ntmps30
 go_wp2_with (go_at_call 55;refine hF.mono ?_;rintro e w1 ⟨rfl,hb1⟩)
 go_returns
 exact⟨rfl,hb1⟩
theorem tyCount_nil (id:Int) (w:World) :
  Calls Tryz.prog 31 #[.pointer none,.int .u32 id] w fun e w'=>e=.returned (.int .i64 0)∧Below w.heap.size w w':=by
 have hF:=find_nil id w
 unfold zeroE at hF
 have h0:=field_com
 have h1:=field_com1
 go_enter Tryz.func31,Tryz.ntmps31
 go_wp2_with (go_at_call 55;refine hF.mono ?_;rintro e w1 ⟨rfl,hb1⟩)
 go_returns
 exact⟨rfl,hb1⟩
theorem tySize_any {B p mb n:Nat} {t:List TyR} {ov:Value} {f:Int→Value} (id:Int) (w:World) (h:TabB w B p mb n t ov f) (k0:0≤id) (k1:id<4294967296) :
  Calls Tryz.prog 32 #[.pointer (some ⟨p,0,none⟩),.int .u32 id] w fun e w'=>e=.returned (.int .i64 (sizeT t id:Int))∧Below w.heap.size w w':=by
 have hF:=find_any id w h k0 k1
 obtain⟨a,c,e,_⟩:=h.ents id
 rw [e] at hF
 unfold entV at hF
 unfold sizeT
 clear h e
 generalize tyD t id=r at *
 have h0:=field_com
 have h1:=field_com2
 go_enter Tryz.func32,Tryz.ntmps32
 go_wp2_with (go_at_call 55;refine hF.mono ?_;rintro e w1 ⟨rfl,hb1⟩)
 go_returns
 exact⟨rfl,hb1⟩
theorem tySize_nil (id:Int) (w:World) :
  Calls Tryz.prog 32 #[.pointer none,.int .u32 id] w fun e w'=>e=.returned (.int .i64 0)∧Below w.heap.size w w':=by
 have hF:=find_nil id w
 unfold zeroE at hF
 have h0:=field_com
 have h1:=field_com2
 go_enter Tryz.func32,Tryz.ntmps32
 go_wp2_with (go_at_call 55;refine hF.mono ?_;rintro e w1 ⟨rfl,hb1⟩)
 go_returns
 exact⟨rfl,hb1⟩
theorem tyKind_nil (id:Int) (w:World) :
  Calls Tryz.prog 29 #[.pointer none,.int .u32 id] w fun e w'=>e=.returned (.int .u8 0)∧Below w.heap.size w w':=by
 have hF:=find_nil id w
 unfold zeroE at hF
 have h0:=field_com
 have h1:=field_com0
 go_enter Tryz.func29,Tryz.ntmps29
 go_wp2_with (go_at_call 55;refine hF.mono ?_;rintro e w1 ⟨rfl,hb1⟩)
 go_returns
 exact⟨rfl,hb1⟩
theorem tyPlain_nil (id:Int) (w:World) :
  Calls Tryz.prog 33 #[.pointer none,.int .u32 id] w fun e w'=>e=.returned (.bool false)∧Below w.heap.size w w':=by
 have hF:=find_nil id w
 unfold zeroE at hF
 have h0:=field_com
 go_enter Tryz.func33,Tryz.ntmps33
 go_wp2_with (first | (go_at_call 55;refine hF.mono ?_;rintro e w1 ⟨rfl,hb1⟩) | (go_at_call 56;refine (plain_any _ _ _ _ 0 rfl _).mono ?_;rintro e w2 ⟨rfl,hb2⟩))
 go_returns
 exact⟨rfl,hb1.trans (hb2.mono hb1.size)⟩
set_option maxHeartbeats 2000000 in
/-- Is there a part of that number? -/
theorem has_any (kd sz dp:Int) (cn:Nat) (k:Int) (w:World) :
  Calls Tryz.prog 57 #[.agg #[.int .u8 kd,.int .i64 (cn:Int),.int .i64 sz,.int .i64 dp],.int .i64 k] w fun e w'=>e=.returned (.bool (decide (0≤k∧k<cn)))∧Below w.heap.size w w':=by
 have hb1:Below w.heap.size w (w.alloc (.cells #[.int .u8 kd,.int .i64 (cn:Int),.int .i64 sz,.int .i64 dp] 96)):=(Below.refl _ w).alloc (Nat.le_refl _) _
 have HB:=hide hb1
 clear hb1
 by_cases h0:0≤k
 ·by_cases h1:k<(cn:Int)
  ·have hd:decide (0≤k∧k<(cn:Int))=true:=by simp [h0,h1]
   rw [hd]
   clear hd
   go_enter Tryz.func57,Tryz.ntmps57
   go_wp2_with fail
   go_ret
   exact⟨rfl,HB.out⟩
  ·have hd:decide (0≤k∧k<(cn:Int))=false:=by simp [h1]
   rw [hd]
   clear hd
   go_enter Tryz.func57,Tryz.ntmps57
   go_wp2_with fail
   go_ret
   exact⟨rfl,HB.out⟩
 ·have hd:decide (0≤k∧k<(cn:Int))=false:=by simp [h0]
  rw [hd]
  clear hd
  go_enter Tryz.func57,Tryz.ntmps57
  go_wp2_with fail
  go_ret
  exact⟨rfl,HB.out⟩
theorem tyIds_nil (w:World):Calls Tryz.prog 15 #[.pointer none] w fun e w'=>e=.returned (.slice none 0 0)∧Below w.heap.size w w':=by
 go_enter Tryz.func15,Tryz.ntmps15
 go_wp2_with fail
 go_ret
 exact⟨rfl,Below.refl _ _⟩
def partT (t:List TyR) (id k:Int):Int×Bool:=if 0≤k∧k<(tyD t id).count then (nth (tyD t id).parts (if (tyD t id).kind=4∨(tyD t id).kind=5 then 0 else k.toNat),true) else (0,false)
theorem TabK.keeps {t:List TyR} (h:TabK t) (id:Int) (k:Nat) (hk:k<(tyD t id).count):(if (tyD t id).kind=4∨(tyD t id).kind=5 then 0 else k)<(tyD t id).parts.length:=by
 unfold tyD at *
 cases e:tyF t id with
 | none=>rw [e] at hk;simp [noTy] at hk
 | some r =>
  rw [e] at hk
  simp only [Option.getD_some] at *
  obtain⟨_,_,_,_,k1,k8,_,_,n3,v4,v5,v6,v7,v8,_⟩:=h.says e
  have hc:r.kind=1∨r.kind=2∨r.kind=3∨r.kind=4∨r.kind=5∨r.kind=6∨r.kind=7∨r.kind=8:=by
   generalize r.kind=m at k1 k8;omega
  rcases hc with c | c | c | c | c | c | c | c
  ·have:=(n3 (by rw [c];decide)).2;omega
  ·have:=(n3 (by rw [c];decide)).2;omega
  ·have:=(n3 (by rw [c];decide)).2;omega
  ·obtain⟨p,e1,_⟩:=v4 c;rw [if_pos (.inl c),e1];simp
  ·obtain⟨p,e1,_⟩:=v5 c;rw [if_pos (.inr c),e1];simp
  ·have h1:=(v6 c).1
   have h2:¬ (r.kind=4∨r.kind=5):=by rw [c];decide
   rw [if_neg h2,h1];exact hk
  ·obtain⟨p,e1,e2,_⟩:=v7 c
   have h2:¬ (r.kind=4∨r.kind=5):=by rw [c];decide
   rw [if_neg h2,e1];simp;omega
  ·have h1:=(v8 c).1
   have h2:¬ (r.kind=4∨r.kind=5):=by rw [c];decide
   rw [if_neg h2,h1];exact hk
set_option maxHeartbeats 4000000 in
theorem tyPart_any {B p mb n:Nat} {t:List TyR} {ov:Value} {f:Int→Value} (id k:Int) (w:World) (h:TabB w B p mb n t ov f) (ht:TabK t) (k0:0≤id) (k1:id<4294967296) :
  Calls Tryz.prog 25 #[.pointer (some ⟨p,0,none⟩),.int .u32 id,.int .i64 k] w fun e w'=>e=.returned (.tuple #[.int .u32 (partT t id k).1,.bool (partT t id k).2])∧Below w.heap.size w w':=by
 have hF:=find_any id w h k0 k1
 obtain⟨a,c,e,hv,hc,_⟩:=h.ents id
 rw [e] at hF
 have hkeep:=ht.keeps id
 unfold partT
 unfold entV at hF
 have HV:=hide hv
 clear h e ht hv
 generalize tyD t id=r at *
 have HAS:=fun w=>has_any (r.kind:Int) (r.size:Int) (r.depth:Int) r.count k w
 by_cases hk:0≤k∧k<(r.count:Int)
 ·rw [if_pos hk]
  simp only [decide_eq_true hk] at HAS
  obtain⟨kn,rfl⟩:=Int.eq_ofNat_of_zero_le hk.1
  have hkl:=hkeep kn (by omega)
  have hj:(if r.kind=4∨r.kind=5 then 0 else (kn:Int).toNat)=if (r.kind:Int)=4∨(r.kind:Int)=5 then 0 else kn:=by
   by_cases c4:r.kind=4∨r.kind=5
   ·rw [if_pos c4,if_pos (by omega)]
   ·rw [if_neg c4,if_neg (by omega)];rfl
  have hjl:(if (r.kind:Int)=4∨(r.kind:Int)=5 then 0 else kn)<r.parts.length:=by rw [← hj];exact hkl
  have HP:=fun (W:World) (hW:View .u32 W a r.parts)=>part_any (r.kind:Int) (r.count:Int) (r.size:Int) (r.depth:Int) r.signed r.cls a r.parts.length c r.parts kn W hW rfl _ rfl hjl
  rw [hj]
  clear hkeep hk hkl hj hjl
  generalize nth r.parts (if (r.kind:Int)=4∨(r.kind:Int)=5 then 0 else kn)=P at *
  go_enter Tryz.func25,Tryz.ntmps25
  go_wp2_with (first
   | (go_at_call 55;refine hF.mono ?_;rintro e w1 ⟨rfl,hb1⟩;have hbA:=hb1.alloc hb1.size (.cells #[.int .u8 (r.kind:Int),.int .i64 (r.count:Int),.int .i64 (r.size:Int),.int .i64 (r.depth:Int),.bool r.signed,.int .u32 r.cls,.slice a r.parts.length c] 98);have hN:=one_block (heap_alloc_new w1 (.cells #[.int .u8 (r.kind:Int),.int .i64 (r.count:Int),.int .i64 (r.size:Int),.int .i64 (r.depth:Int),.bool r.signed,.int .u32 r.cls,.slice a r.parts.length c] 98));have hlN:w1.heap.size<(w1.alloc (.cells #[.int .u8 (r.kind:Int),.int .i64 (r.count:Int),.int .i64 (r.size:Int),.int .i64 (r.depth:Int),.bool r.signed,.int .u32 r.cls,.slice a r.parts.length c] 98)).heap.size:=by simp)
   | (go_at_call 57;refine (HAS _).mono ?_;rintro e w2 ⟨rfl,hb2⟩;have c0:=(hb2.cell (p:=⟨w1.heap.size,0,none⟩) hlN).trans (hN.1 0);have c1:=(hb2.cell (p:=⟨w1.heap.size,1,none⟩) hlN).trans (hN.1 1);have c2:=(hb2.cell (p:=⟨w1.heap.size,2,none⟩) hlN).trans (hN.1 2);have c3:=(hb2.cell (p:=⟨w1.heap.size,3,none⟩) hlN).trans (hN.1 3);have c4:=(hb2.cell (p:=⟨w1.heap.size,4,none⟩) hlN).trans (hN.1 4);have c5:=(hb2.cell (p:=⟨w1.heap.size,5,none⟩) hlN).trans (hN.1 5);have c6:=(hb2.cell (p:=⟨w1.heap.size,6,none⟩) hlN).trans (hN.1 6))
   | (go_at_call 58;refine (HP _ (HV.out.below (hbA.trans (hb2.mono hbA.size)))).mono ?_;rintro e w3 ⟨rfl,hb3⟩))
  go_returns
  exact⟨rfl,(hbA.trans (hb2.mono hbA.size)).trans (hb3.mono (Nat.le_trans hbA.size hb2.size))⟩
 ·rw [if_neg hk]
  simp only [decide_eq_false hk] at HAS
  clear hkeep hk
  go_enter Tryz.func25,Tryz.ntmps25
  go_wp2_with (first
   | (go_at_call 55;refine hF.mono ?_;rintro e w1 ⟨rfl,hb1⟩;have hbA:=hb1.alloc hb1.size (.cells #[.int .u8 (r.kind:Int),.int .i64 (r.count:Int),.int .i64 (r.size:Int),.int .i64 (r.depth:Int),.bool r.signed,.int .u32 r.cls,.slice a r.parts.length c] 98))
   | (go_at_call 57;refine (HAS _).mono ?_;rintro e w2 ⟨rfl,hb2⟩))
  go_returns
  exact⟨rfl,hbA.trans (hb2.mono hbA.size)⟩
set_option maxHeartbeats 4000000 in
theorem tyPart_nil (id k:Int) (w:World) :
  Calls Tryz.prog 25 #[.pointer none,.int .u32 id,.int .i64 k] w fun e w'=>e=.returned (.tuple #[.int .u32 0,.bool false])∧Below w.heap.size w w':=by
 have hF:=find_nil id w
 unfold zeroE at hF
 have HAS:=fun w=>has_any 0 0 0 0 k w
 have hd:decide (0≤k∧k<((0:Nat):Int))=false:=decide_eq_false (by omega)
 simp only [hd] at HAS
 clear hd
 go_enter Tryz.func25,Tryz.ntmps25
 go_wp2_with (first
  | (go_at_call 55;refine hF.mono ?_;rintro e w1 ⟨rfl,hb1⟩;have hbA:=hb1.alloc hb1.size (.cells #[.int .u8 0,.int .i64 0,.int .i64 0,.int .i64 0,.bool false,.int .u32 0,.slice none 0 0] 98))
  | (go_at_call 57;refine (HAS _).mono ?_;rintro e w2 ⟨rfl,hb2⟩))
 go_returns
 exact⟨rfl,hbA.trans (hb2.mono hbA.size)⟩
set_option maxHeartbeats 4000000 in
theorem tyClass_nil (id:Int) (w:World) :
  Calls Tryz.prog 26 #[.pointer none,.int .u32 id] w fun e w'=>e=.returned (.tuple #[.int .u32 0,.bool false])∧Below w.heap.size w w':=by
 have hF:=find_nil id w
 unfold zeroE at hF
 go_enter Tryz.func26,Tryz.ntmps26
 go_wp2_with (go_at_call 55;refine hF.mono ?_;rintro e w1 ⟨rfl,hb1⟩)
 have hbA:=hb1.alloc hb1.size (.cells #[.int .u8 0,.int .i64 0,.int .i64 0,.int .i64 0,.bool false,.int .u32 0,.slice none 0 0] 98)
 have hN:=one_block (heap_alloc_new w1 (.cells #[.int .u8 0,.int .i64 0,.int .i64 0,.int .i64 0,.bool false,.int .u32 0,.slice none 0 0] 98))
 have c0:=hN.1 0
 have c5:=hN.1 5
 clear hN hb1
 generalize w1.alloc (.cells #[.int .u8 0,.int .i64 0,.int .i64 0,.int .i64 0,.bool false,.int .u32 0,.slice none 0 0] 98)=W at *
 go_region_with (fail)
 all_goals
  go_wp2_with fail
  go_returns
  exact⟨rfl,hbA.drew⟩
theorem tyIds_any {B p mb n : Nat} {t : List TyR} {ov : Value} {f : Int → Value} (w : World) (h : TabB w B p mb n t ov f) (hfew : t.length ≤ 1048576) :
    Calls Tryz.prog 15 #[.pointer (some ⟨p, 0, none⟩)] w fun e w' => (∃ v, e = .returned v ∧ w'.ownsRow w.heap.size 22 1 v t.length ((t.map (·.id)).map (Value.int .u32))) ∧ Below w.heap.size w w' := by
  have t1 := (one_block h.blk).1 1
  rcases h.order.2 with ⟨e1, e2⟩ | ⟨g, cap, cur, e1, _⟩
  · have hC := clone_nil w
    subst e1
    have ht : t = [] := List.length_eq_zero_iff.1 e2
    subst ht
    clear h
    go_enter Tryz.func15, Tryz.ntmps15
    go_wp2_with (go_at_call 44; refine hC.mono ?_; rintro e w1 ⟨rfl, rfl⟩)
    go_ret
    exact ⟨⟨_, rfl, World.ownsRow_nil _ _ _ _⟩, Below.refl _ _⟩
  · have hv := View.ofOwn (zs := t.map (·.id)) (e1 ▸ h.order) (by rw [List.length_map])
    have hC := clone_some ⟨g, 0, none⟩ t.length cap (t.map (·.id)) w hv (by rw [List.length_map]) (by omega)
    subst e1
    clear h hv
    go_enter Tryz.func15, Tryz.ntmps15
    go_wp2_with (go_at_call 44; refine hC.mono ?_; rintro e w1 ⟨g2, cx, rfl, hown, hb1⟩)
    go_ret
    exact ⟨⟨_, rfl, hown⟩, hb1⟩
end Go.Proofs.YtoebhgpciinkgaaGreatDoor
namespace Go.Proofs.YtoebhgpciinkgaaGreatDoor
open Go.RowKit Go.Shelf Go.Sort Go.Lib
set_option maxRecDepth 10000
set_option linter.unusedVariables false
set_option linter.unusedSimpArgs false
def Itoa.ren:Go.Shelf.Ren:=⟨fun | 129=>161 | 171=>74 | 243=>101 | 246=>124 | 283=>146 | 284=>147 | 285=>148 | 286=>149 | 317=>160 | 318=>162 | 319=>163 | 320=>164 | 337=>171 | 338=>172 | n=>n,fun | 0=>0 | 2=>2 | 3=>3 | 4=>4 | 5=>5 | 9=>9 | 20=>20 | 37=>142 | 46=>219 | 51=>22 | 53=>144 | 171=>188 | 173=>191 | 212=>217 | 213=>218 | 232=>238 | 233=>239 | n=>n,fun | 17=>0 | 18=>2 | 19=>3 | n=>n⟩
theorem Itoa.lays:Go.Proofs.LaysM.n171 Tryz.prog Itoa.ren:={
 mixed:=by kernel_rfl
 f129:=Tryz.func161.trans (congrArg some (by kernel_rfl))
 f171:=Tryz.func74.trans (congrArg some (by kernel_rfl))
 f243:=Tryz.func101.trans (congrArg some (by kernel_rfl))
 f246:=Tryz.func124.trans (congrArg some (by kernel_rfl))
 f283:=Tryz.func146.trans (congrArg some (by kernel_rfl))
 f284:=Tryz.func147.trans (congrArg some (by kernel_rfl))
 f285:=Tryz.func148.trans (congrArg some (by kernel_rfl))
 f286:=Tryz.func149.trans (congrArg some (by kernel_rfl))
 f317:=Tryz.func160.trans (congrArg some (by kernel_rfl))
 f318:=Tryz.func162.trans (congrArg some (by kernel_rfl))
 f319:=Tryz.func163.trans (congrArg some (by kernel_rfl))
 f320:=Tryz.func164.trans (congrArg some (by kernel_rfl))
 f337:=Tryz.func171.trans (congrArg some (by kernel_rfl))
 f338:=Tryz.func172.trans (congrArg some (by kernel_rfl))
 t0:=Tryz.underlying0
 a0:=Tryz.isAgg0
 z0:=Tryz.sizeOf0
 v0:=Tryz.zeroValue0
 t2:=Tryz.underlying2
 a2:=Tryz.isAgg2
 z2:=Tryz.sizeOf2
 v2:=Tryz.zeroValue2
 t3:=Tryz.underlying3
 a3:=Tryz.isAgg3
 z3:=Tryz.sizeOf3
 v3:=Tryz.zeroValue3
 t4:=Tryz.underlying4
 a4:=Tryz.isAgg4
 z4:=Tryz.sizeOf4
 v4:=Tryz.zeroValue4
 t5:=Tryz.underlying5
 a5:=Tryz.isAgg5
 z5:=Tryz.sizeOf5
 v5:=Tryz.zeroValue5
 t9:=Tryz.underlying9
 a9:=Tryz.isAgg9
 z9:=Tryz.sizeOf9
 v9:=Tryz.zeroValue9
 t20:=Tryz.underlying20
 a20:=Tryz.isAgg20
 z20:=Tryz.sizeOf20
 v20:=Tryz.zeroValue20
 t37:=Tryz.underlying142
 a37:=Tryz.isAgg142
 z37:=Tryz.sizeOf142
 v37:=Tryz.zeroValue142
 t46:=Tryz.underlying219
 a46:=Tryz.isAgg219
 z46:=Tryz.sizeOf219
 v46:=Tryz.zeroValue219
 t51:=Tryz.underlying22
 a51:=Tryz.isAgg22
 z51:=Tryz.sizeOf22
 v51:=Tryz.zeroValue22
 t53:=Tryz.underlying144
 a53:=Tryz.isAgg144
 z53:=Tryz.sizeOf144
 v53:=Tryz.zeroValue144
 t171:=Tryz.underlying188
 a171:=Tryz.isAgg188
 z171:=Tryz.sizeOf188
 v171:=Tryz.zeroValue188
 t173:=Tryz.underlying191
 a173:=Tryz.isAgg191
 z173:=Tryz.sizeOf191
 v173:=Tryz.zeroValue191
 t212:=Tryz.underlying217
 a212:=Tryz.isAgg217
 z212:=Tryz.sizeOf217
 v212:=Tryz.zeroValue217
 t213:=Tryz.underlying218
 a213:=Tryz.isAgg218
 z213:=Tryz.sizeOf218
 t232:=Tryz.underlying238
 a232:=Tryz.isAgg238
 z232:=Tryz.sizeOf238
 v232:=Tryz.zeroValue238
 t233:=Tryz.underlying239
 a233:=Tryz.isAgg239
 z233:=Tryz.sizeOf239
 v233:=Tryz.zeroValue239
 g17:=by kernel_rfl
 g18:=by kernel_rfl
 g19:=by kernel_rfl
 i0:=by kernel_rfl
 i2:=by kernel_rfl
 i3:=by kernel_rfl
 i4:=by kernel_rfl
 i5:=by kernel_rfl
 i9:=by kernel_rfl
 i20:=by kernel_rfl
 i37:=by kernel_rfl
 i46:=by kernel_rfl
 i51:=by kernel_rfl
 i53:=by kernel_rfl
 i171:=by kernel_rfl
 i173:=by kernel_rfl
 i212:=by kernel_rfl
 i232:=by kernel_rfl
 i233:=by kernel_rfl
 m17:=by kernel_rfl
 m18:=by kernel_rfl
 m19:=by kernel_rfl }
theorem grow_below (w:World) (k:Nat):∀ os,Below w.heap.size w (grow (w.drewN k) os):=by
 intro os
 refine⟨rfl,rfl,rfl,?_,fun i hi=>?_⟩
 ·simp [grow,World.drewN]
 ·simp [grow,World.drewN,Array.getElem?_append_left hi]
theorem itoa_any (n:Int) (h0:-9223372036854775808≤n) (h1:n≤9223372036854775807) (w:World) (ht:TenP w) :
  Calls Tryz.prog 74 #[.int .i64 n] w fun e w'=>e=.returned (.string ⟨(Lib.itoa n).toArray⟩)∧Below w.heap.size w w':=by
 refine (Any.strconv_Itoa Itoa.lays n h0 h1 w ht).mono ?_
 rintro e w' ⟨rfl,k,os,rfl⟩
 exact⟨rfl,grow_below w k os⟩
end Go.Proofs.YtoebhgpciinkgaaGreatDoor
namespace Go.Proofs.YtoebhgpciinkgaaGreatDoor
open Go.RowKit Go.Shelf Go.Lib
set_option maxRecDepth 10000
set_option linter.unusedVariables false
set_option linter.unusedSimpArgs false
def Joi.ren:Go.Shelf.Ren:=⟨fun | 156=>81 | 165=>103 | 166=>104 | 169=>105 | 240=>125 | 241=>126 | 276=>150 | 277=>151 | n=>n,fun | 0=>0 | 3=>3 | 4=>4 | 5=>5 | 9=>9 | 20=>20 | 31=>121 | 37=>142 | 70=>149 | 72=>151 | 75=>154 | 80=>157 | 76=>155 | 127=>173 | 164=>193 | n=>n,fun  | n=>n⟩
theorem Joi.lays:Go.Proofs.Lays.n156 Tryz.prog Joi.ren:={
 mixed:=by kernel_rfl
 f156:=Tryz.func81.trans (congrArg some (by kernel_rfl))
 f165:=Tryz.func103.trans (congrArg some (by kernel_rfl))
 f166:=Tryz.func104.trans (congrArg some (by kernel_rfl))
 f169:=Tryz.func105.trans (congrArg some (by kernel_rfl))
 f240:=Tryz.func125.trans (congrArg some (by kernel_rfl))
 f241:=Tryz.func126.trans (congrArg some (by kernel_rfl))
 f276:=Tryz.func150.trans (congrArg some (by kernel_rfl))
 f277:=Tryz.func151.trans (congrArg some (by kernel_rfl))
 t0:=Tryz.underlying0
 a0:=Tryz.isAgg0
 z0:=Tryz.sizeOf0
 v0:=Tryz.zeroValue0
 t3:=Tryz.underlying3
 a3:=Tryz.isAgg3
 z3:=Tryz.sizeOf3
 v3:=Tryz.zeroValue3
 t4:=Tryz.underlying4
 a4:=Tryz.isAgg4
 z4:=Tryz.sizeOf4
 v4:=Tryz.zeroValue4
 t9:=Tryz.underlying9
 a9:=Tryz.isAgg9
 z9:=Tryz.sizeOf9
 v9:=Tryz.zeroValue9
 t20:=Tryz.underlying20
 a20:=Tryz.isAgg20
 z20:=Tryz.sizeOf20
 v20:=Tryz.zeroValue20
 t31:=Tryz.underlying121
 a31:=Tryz.isAgg121
 z31:=Tryz.sizeOf121
 v31:=Tryz.zeroValue121
 t37:=Tryz.underlying142
 a37:=Tryz.isAgg142
 z37:=Tryz.sizeOf142
 v37:=Tryz.zeroValue142
 t70:=Tryz.underlying149
 a70:=Tryz.isAgg149
 z70:=Tryz.sizeOf149
 v70:=Tryz.zeroValue149
 t72:=Tryz.underlying151
 a72:=Tryz.isAgg151
 z72:=Tryz.sizeOf151
 v72:=Tryz.zeroValue151
 t75:=Tryz.underlying154
 a75:=Tryz.isAgg154
 z75:=Tryz.sizeOf154
 v75:=Tryz.zeroValue154
 t76:=Tryz.underlying155
 a76:=Tryz.isAgg155
 z76:=Tryz.sizeOf155
 v76:=Tryz.zeroValue155
 t127:=Tryz.underlying173
 a127:=Tryz.isAgg173
 z127:=Tryz.sizeOf173
 v127:=Tryz.zeroValue173
 t164:=Tryz.underlying193
 a164:=Tryz.isAgg193
 z164:=Tryz.sizeOf193
 v164:=Tryz.zeroValue193 }
theorem Joi.extra:Builder.Extra Tryz.prog Joi.ren:={
 sizeBuilder:=by kernel_rfl
 liesBuilder:=by kernel_rfl
 t5:=Tryz.underlying5
 a5:=Tryz.isAgg5
 z5:=Tryz.sizeOf5
 v5:=Tryz.zeroValue5
 infoByte:=by kernel_rfl
 cellsByte:=by kernel_rfl
 sizeByte:=by kernel_rfl
 neB5:=by decide }
theorem stringsJoin_any (bk o c:Nat) (xs:List ByteArray) (sep:ByteArray) (w:World)
  (hcells:∀ (j:Nat) x,xs[j]?=some x→w.cell? ⟨bk,o+j,none⟩=some (.string x))
  (hbk:bk<w.heap.size) (hN:xs.length≤140737488355328) (hcap:xs.length≤c)
  (hlen:(Lib.join (xs.map (·.data.toList)) sep.data.toList).length≤140737488355328) :
  Calls Tryz.prog 81 #[.slice (some ⟨bk,o,none⟩) xs.length c,.string sep] w fun e w'=>e=.returned (.string ⟨(Lib.join (xs.map (·.data.toList)) sep.data.toList).toArray⟩)∧Below w.heap.size w w' :=
 Any.strings_Join Joi.lays Joi.extra bk o c xs sep w hcells hbk hN hcap hlen
end Go.Proofs.YtoebhgpciinkgaaGreatDoor
