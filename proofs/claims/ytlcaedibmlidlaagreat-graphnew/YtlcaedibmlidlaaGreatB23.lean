/-
  Texts in one: LayoutParts, Ref05Parts, MathWh, MathIc.
-/
import Derived.Test.YtlcaedibmlidlaaGreatB22
namespace Go.Proofs.YtlcaedibmlidlaaGreat
open Go.RowKit
set_option linter.unusedVariables false
set_option linter.unusedSimpArgs false
set_option maxRecDepth 10000
def partsF (b:Int) (l:List InstT) (i:Nat):Int:=if (layE b l).1≠0 then 0 else cntP l ((i+1) / 2) l.length
def partsV (f:Nat→Int):Value:=.agg #[.int .i64 (f 0),.int .i64 (f 1),.int .i64 (f 2),.int .i64 (f 3),.int .i64 (f 4),.int .i64 (f 5),.int .i64 (f 6),.int .i64 (f 7),.int .i64 (f 8),.int .i64 (f 9),.int .i64 (f 10),.int .i64 (f 11),.int .i64 (f 12),.int .i64 (f 13),.int .i64 (f 14),.int .i64 (f 15),.int .i64 (f 16),.int .i64 (f 17),.int .i64 (f 18),.int .i64 (f 19)]
theorem partsV_congr {f g:Nat→Int} (h:∀ i,i<20→f i=g i):partsV f=partsV g:=by
 unfold partsV
 rw [h 0 (by omega),h 1 (by omega),h 2 (by omega),h 3 (by omega),h 4 (by omega),h 5 (by omega),h 6 (by omega),h 7 (by omega),h 8 (by omega),h 9 (by omega),h 10 (by omega),h 11 (by omega),h 12 (by omega),h 13 (by omega),h 14 (by omega),h 15 (by omega),h 16 (by omega),h 17 (by omega),h 18 (by omega),h 19 (by omega)]
theorem range_mid {w:World} {b t:Nat} {cs:List Value} {fr:Nat×Nat} (h:w.heap[b]?=some (.cells cs.toArray t fr)) (o n:Nat):w.rangeAt b o ((cs.drop o).take n):=fun j v hv=>by
 rw [List.getElem?_take] at hv
 split at hv
 ·rw [List.getElem?_drop] at hv
  simp [World.cell?,h,hv]
 ·cases hv
theorem yieldsC_load {P:Program} {ops:Array Oper} {C:World→Prop} {o:Oper} {a:Act} (hw:Region.wanted o (yielded ops a.tmps)=true) (ty:TypeId) (x:Operand) (ho:o.op=.load ty x)
  (b off:Nat) (hx:a.eval x=.pointer (some ⟨b,off,none⟩)) (cs:List Value) (d:TypeDesc) (hS:∀ w,C w→w.rangeAt b off cs)
  (hu:P.underlying ty=some d) (hd:d.isRow=true) (hi:(P.info? ty).map (·.size)=some cs.length):YieldsC P ops C o (.agg cs.toArray) a :=
 .inl ⟨hw,fun w hw'=>by
  unfold execOp
  simp only [ho,hx,Instr.loadAt,Instr.sureAddr,Sem.run_bind,Sem.run_pure,Result.andThen_ok,run_loadVar_mid w b off ty cs d (hS w hw') hu hd hi]⟩
set_option maxHeartbeats 8000000 in
theorem layParts_any (gen bnd:Int) (a:Option Addr) (n c:Nat) (l:List InstT) (w:World) (hv:InstsV w a l) (hok:InstsOk l) (hl:l.length=n) (hn:40 * n≤140737488351232) (g0:0≤gen) (g1:gen<4294967296) (b0:0≤bnd) (b1:bnd<4294967296) :
  Calls Tryz.prog 80 #[modV gen bnd a n c] w fun e w'=>e=.returned (.tuple #[partsV (partsF bnd l),.agg #[.int .i64 (layE bnd l).1,.int .i64 (layE bnd l).2]])∧Below w.heap.size w w':=by
 have hb0:Below w.heap.size w (((w.alloc (.cells #[.int .u32 gen,.int .u32 bnd,.slice a n c] 25)).alloc (.cells #[.int .i64 0,.int .i64 0,.int .i64 0,.int .i64 0,.int .i64 0,.int .i64 0,.int .i64 0,.int .i64 0,.int .i64 0,.int .i64 0,.int .i64 0,.int .i64 0,.int .i64 0,.int .i64 0,.int .i64 0,.int .i64 0,.int .i64 0,.int .i64 0,.int .i64 0,.int .i64 0] 83)).alloc (.cells #[.int .i64 0,.int .i64 0] 33)):=(((Below.refl _ w).alloc (Nat.le_refl _) _).alloc (by simp) _).alloc (by simp;omega) _
 have hC:=walkOver_any gen bnd a n c l _ (hv.below hb0) hok hl hn g0 g1 b0 b1
 have HZB:Hid ((((w.alloc (.cells #[.int .u32 gen,.int .u32 bnd,.slice a n c] 25)).alloc (.cells #[.int .i64 0,.int .i64 0,.int .i64 0,.int .i64 0,.int .i64 0,.int .i64 0,.int .i64 0,.int .i64 0,.int .i64 0,.int .i64 0,.int .i64 0,.int .i64 0,.int .i64 0,.int .i64 0,.int .i64 0,.int .i64 0,.int .i64 0,.int .i64 0,.int .i64 0,.int .i64 0] 83)).alloc (.cells #[.int .i64 0,.int .i64 0] 33)).heap[w.heap.size+1]?=some (.cells #[.int .i64 0,.int .i64 0,.int .i64 0,.int .i64 0,.int .i64 0,.int .i64 0,.int .i64 0,.int .i64 0,.int .i64 0,.int .i64 0,.int .i64 0,.int .i64 0,.int .i64 0,.int .i64 0,.int .i64 0,.int .i64 0,.int .i64 0,.int .i64 0,.int .i64 0,.int .i64 0] 83 (0,0))):=by
  have:=heap_alloc_new (w.alloc (.cells #[.int .u32 gen,.int .u32 bnd,.slice a n c] 25)) (.cells #[.int .i64 0,.int .i64 0,.int .i64 0,.int .i64 0,.int .i64 0,.int .i64 0,.int .i64 0,.int .i64 0,.int .i64 0,.int .i64 0,.int .i64 0,.int .i64 0,.int .i64 0,.int .i64 0,.int .i64 0,.int .i64 0,.int .i64 0,.int .i64 0,.int .i64 0,.int .i64 0] 83)
  rw [World.size_alloc] at this
  exact (Below.heap_alloc _ _ _ (by simp)).trans this
 have HSB:Hid ((((w.alloc (.cells #[.int .u32 gen,.int .u32 bnd,.slice a n c] 25)).alloc (.cells #[.int .i64 0,.int .i64 0,.int .i64 0,.int .i64 0,.int .i64 0,.int .i64 0,.int .i64 0,.int .i64 0,.int .i64 0,.int .i64 0,.int .i64 0,.int .i64 0,.int .i64 0,.int .i64 0,.int .i64 0,.int .i64 0,.int .i64 0,.int .i64 0,.int .i64 0,.int .i64 0] 83)).alloc (.cells #[.int .i64 0,.int .i64 0] 33)).heap[w.heap.size+2]?=some (.cells #[.int .i64 0,.int .i64 0] 33 (0,0))):=by
  have:=heap_alloc_new ((w.alloc (.cells #[.int .u32 gen,.int .u32 bnd,.slice a n c] 25)).alloc (.cells #[.int .i64 0,.int .i64 0,.int .i64 0,.int .i64 0,.int .i64 0,.int .i64 0,.int .i64 0,.int .i64 0,.int .i64 0,.int .i64 0,.int .i64 0,.int .i64 0,.int .i64 0,.int .i64 0,.int .i64 0,.int .i64 0,.int .i64 0,.int .i64 0,.int .i64 0,.int .i64 0] 83)) (.cells #[.int .i64 0,.int .i64 0] 33)
  rw [World.size_alloc,World.size_alloc] at this
  exact this
 have HLT:Hid (w.heap.size+2<(((w.alloc (.cells #[.int .u32 gen,.int .u32 bnd,.slice a n c] 25)).alloc (.cells #[.int .i64 0,.int .i64 0,.int .i64 0,.int .i64 0,.int .i64 0,.int .i64 0,.int .i64 0,.int .i64 0,.int .i64 0,.int .i64 0,.int .i64 0,.int .i64 0,.int .i64 0,.int .i64 0,.int .i64 0,.int .i64 0,.int .i64 0,.int .i64 0,.int .i64 0,.int .i64 0] 83)).alloc (.cells #[.int .i64 0,.int .i64 0] 33)).heap.size):=by show _<_;simp
 have HB0:=hide hb0
 unfold WalkQ at hC
 have HPF:Hid (∀ ps:Nat→Int,((layE bnd l).1≠0∧(∀ i,ps i=0)∨(layE bnd l).1=0∧SpansE l ps)→partsV ps=partsV (partsF bnd l)):=fun ps h=>partsV_congr fun i hi=>by
  unfold partsF
  rcases h with ⟨h1,h2⟩ | ⟨h1,h2⟩
  ·rw [if_pos h1];exact h2 i
  ·rw [if_neg (by simpa using h1)];exact h2 i hi
 have HQ:Hid (∀ e w',(∃ ps:Nat→Int,((layE bnd l).1≠0∧(∀ i,ps i=0)∨(layE bnd l).1=0∧SpansE l ps)∧e=.returned (.tuple #[partsV ps,.agg #[.int .i64 (layE bnd l).1,.int .i64 (layE bnd l).2]])∧Below w.heap.size w w')→e=Ending.returned (.tuple #[partsV (partsF bnd l),.agg #[.int .i64 (layE bnd l).1,.int .i64 (layE bnd l).2]])∧Below w.heap.size w w'):=fun e w' ⟨ps,h1,h2,h3⟩=>⟨by rw [h2,HPF.out ps h1],h3⟩
 have HRET:Hid (∀ (a':Act) (Z:World) (ps:Nat→Int),slot a'.tmps 2=.pointer (some ⟨w.heap.size+1,0,none⟩)→slot a'.tmps 3=.pointer (some ⟨w.heap.size+2,0,none⟩)→a'.defers=[]→Z.heap[w.heap.size+1]?=some (.cells #[.int .i64 (ps 0),.int .i64 (ps 1),.int .i64 (ps 2),.int .i64 (ps 3),.int .i64 (ps 4),.int .i64 (ps 5),.int .i64 (ps 6),.int .i64 (ps 7),.int .i64 (ps 8),.int .i64 (ps 9),.int .i64 (ps 10),.int .i64 (ps 11),.int .i64 (ps 12),.int .i64 (ps 13),.int .i64 (ps 14),.int .i64 (ps 15),.int .i64 (ps 16),.int .i64 (ps 17),.int .i64 (ps 18),.int .i64 (ps 19)] 83 (0,0))→Z.heap[w.heap.size+2]?=some (.cells #[.int .i64 (layE bnd l).1,.int .i64 (layE bnd l).2] 33 (0,0))→Below w.heap.size w Z→((layE bnd l).1≠0∧(∀ i,ps i=0)∨(layE bnd l).1=0∧SpansE l ps) →
   bodyPost Tryz.prog Tryz.f80 (fun e w'=>e=.returned (.tuple #[partsV (partsF bnd l),.agg #[.int .i64 (layE bnd l).1,.int .i64 (layE bnd l).2]])∧Below w.heap.size w w') .ret a' Z):=by
  intro a' Z ps q2 q3 q4 q5 q6 q7 q8
  refine bodyPost_ret (v:=.tuple #[partsV ps,.agg #[.int .i64 (layE bnd l).1,.int .i64 (layE bnd l).2]]) ?_ q4 (HQ.out _ _ ⟨ps,q8,rfl,q7⟩)
  have r5:=run_loadVar_mid (P:=Tryz.prog) Z (w.heap.size+1) 0 83 [.int .i64 (ps 0),.int .i64 (ps 1),.int .i64 (ps 2),.int .i64 (ps 3),.int .i64 (ps 4),.int .i64 (ps 5),.int .i64 (ps 6),.int .i64 (ps 7),.int .i64 (ps 8),.int .i64 (ps 9),.int .i64 (ps 10),.int .i64 (ps 11),.int .i64 (ps 12),.int .i64 (ps 13),.int .i64 (ps 14),.int .i64 (ps 15),.int .i64 (ps 16),.int .i64 (ps 17),.int .i64 (ps 18),.int .i64 (ps 19)] _ (range_of_block q5) Tryz.underlying83 rfl (by kernel_rfl)
  have r6:=run_loadVar_mid (P:=Tryz.prog) Z (w.heap.size+2) 0 33 [.int .i64 (layE bnd l).1,.int .i64 (layE bnd l).2] _ (range_of_block q6) Tryz.underlying33 rfl (by kernel_rfl)
  have hG2:a'.tmps.getD 2 undef=.pointer (some ⟨w.heap.size+1,0,none⟩):=q2
  have hG3:a'.tmps.getD 3 undef=.pointer (some ⟨w.heap.size+2,0,none⟩):=q3
  simp only [results,Tryz.results80,List.mapM_toArray,List.mapM_cons,List.mapM_nil,hG2,hG3,asAddr,Sem.run_bind,Sem.run_pure,Result.andThen_ok,bind_assoc,pure_bind,Sem.run_map,map_pure,r5,r6]
  rfl
 generalize partsF bnd l=PFF at *
 generalize layE bnd l=L at *
 obtain⟨e1,e2⟩:=L
 unfold modV at *
 clear hb0 hv hok hl HPF HQ
 go_enter Tryz.func80,Tryz.ntmps80
 go_wp2_with fail
 generalize ((w.alloc (.cells #[.int .u32 gen,.int .u32 bnd,.slice a n c] 25)).alloc (.cells #[.int .i64 0,.int .i64 0,.int .i64 0,.int .i64 0,.int .i64 0,.int .i64 0,.int .i64 0,.int .i64 0,.int .i64 0,.int .i64 0,.int .i64 0,.int .i64 0,.int .i64 0,.int .i64 0,.int .i64 0,.int .i64 0,.int .i64 0,.int .i64 0,.int .i64 0,.int .i64 0] 83)).alloc (.cells #[.int .i64 0,.int .i64 0] 33)=W0 at *
 refine hC.mono ?_
 rintro e w1 ⟨ins,fv,ps,k,pt,kd,rfl,hb1,hone,hfs⟩
 have HFS:Hid (e1≠0∧(∀ i,ps i=0)∨e1=0∧SpansE l ps):=by
  rcases hfs with ⟨h1,_,h2⟩ | ⟨h1,h2,_⟩
  ·exact .inl ⟨h1,h2⟩
  ·exact .inr ⟨h1,h2⟩
 clear hC hfs
 unfold walkV
 obtain⟨k1,k2,k3,k4,k5,_⟩:=kept_walk w W0 w1 HB0.out hb1 ins fv ps k pt kd 0 0
 have HK1:=hide k1
 have HK2:=hide k2
 have HK3:=hide k3
 have HK4:=hide k4
 have HK5:=hide k5
 have hw1:W0.heap.size≤w1.heap.size:=hb1.size
 clear k1 k2 k3 k4 k5 hb1
 simp only
 go_wp2_with (with_reducible refine stopS 86 ?_)
 refine wpList_store_mid rfl 86 (.tmp 4) (.tmp 9) rfl w1.heap.size 0 #[ins,.int .i64 (ps 0),.int .i64 (ps 1),.int .i64 (ps 2),.int .i64 (ps 3),.int .i64 (ps 4),.int .i64 (ps 5),.int .i64 (ps 6),.int .i64 (ps 7),.int .i64 (ps 8),.int .i64 (ps 9),.int .i64 (ps 10),.int .i64 (ps 11),.int .i64 (ps 12),.int .i64 (ps 13),.int .i64 (ps 14),.int .i64 (ps 15),.int .i64 (ps 16),.int .i64 (ps 17),.int .i64 (ps 18),.int .i64 (ps 19),fv,.int .i64 k,.int .u8 pt,.int .u16 kd] rfl rfl HK1.out (by kernel_rfl) (by simp [hone.1,hone.2];simp [Value.oneCell']) ?_
 simp only [Act.put]
 generalize ((w1.alloc (.cells #[.slice none 0 0,.int .i64 0,.int .i64 0,.int .i64 0,.int .i64 0,.int .i64 0,.int .i64 0,.int .i64 0,.int .i64 0,.int .i64 0,.int .i64 0,.int .i64 0,.int .i64 0,.int .i64 0,.int .i64 0,.int .i64 0,.int .i64 0,.int .i64 0,.int .i64 0,.int .i64 0,.int .i64 0,.slice none 0 0,.int .i64 0,.int .u8 0,.int .u16 0] 86)).alloc (.cells #[.int .i64 0,.int .i64 0] 33)).setCells w1.heap.size 0 [ins,.int .i64 (ps 0),.int .i64 (ps 1),.int .i64 (ps 2),.int .i64 (ps 3),.int .i64 (ps 4),.int .i64 (ps 5),.int .i64 (ps 6),.int .i64 (ps 7),.int .i64 (ps 8),.int .i64 (ps 9),.int .i64 (ps 10),.int .i64 (ps 11),.int .i64 (ps 12),.int .i64 (ps 13),.int .i64 (ps 14),.int .i64 (ps 15),.int .i64 (ps 16),.int .i64 (ps 17),.int .i64 (ps 18),.int .i64 (ps 19),fv,.int .i64 k,.int .u8 pt,.int .u16 kd]=X at *
 have hl0:=HLT.out
 have hlx:=HK5.out
 have ht3:=there_of_block HK3.out 2 rfl
 refine wpList_store_mid rfl 33 (.tmp 5) (.tmp 10) rfl (w1.heap.size+1) 0 #[.int .i64 e1,.int .i64 e2] rfl rfl ht3 (by kernel_rfl) (by simp [Value.oneCell']) ?_
 simp only [Act.put]
 have hgx:=setCells_grown (w1.heap.size+1) [.int .i64 e1,.int .i64 e2] 0 X
 have HY1:Hid ((X.setCells (w1.heap.size+1) 0 [.int .i64 e1,.int .i64 e2]).heap[w1.heap.size]?=some (.cells #[ins,.int .i64 (ps 0),.int .i64 (ps 1),.int .i64 (ps 2),.int .i64 (ps 3),.int .i64 (ps 4),.int .i64 (ps 5),.int .i64 (ps 6),.int .i64 (ps 7),.int .i64 (ps 8),.int .i64 (ps 9),.int .i64 (ps 10),.int .i64 (ps 11),.int .i64 (ps 12),.int .i64 (ps 13),.int .i64 (ps 14),.int .i64 (ps 15),.int .i64 (ps 16),.int .i64 (ps 17),.int .i64 (ps 18),.int .i64 (ps 19),fv,.int .i64 k,.int .u8 pt,.int .u16 kd] 86 (0,0))):=(hgx.block _ (by omega) (by simp)).trans HK2.out
 have HY2:=hide (setCells_all [.int .i64 e1,.int .i64 e2] HK3.out rfl)
 have HY3:=hide (below_grown HK4.out hgx (fun g e=>by simp at e;omega))
 have HY4:Hid (w1.heap.size+1<(X.setCells (w1.heap.size+1) 0 [.int .i64 e1,.int .i64 e2]).heap.size):=Nat.lt_of_lt_of_le hlx hgx.size
 clear hgx ht3 HK1 HK2 HK3 HK4 HK5 hlx hone
 generalize X.setCells (w1.heap.size+1) 0 [.int .i64 e1,.int .i64 e2]=Y at *
 go_wp2_with fail
 have kz:=(HY3.out.block (w.heap.size+1) (by omega)).trans HZB.out
 have ks:=(HY3.out.block (w.heap.size+2) (by omega)).trans HSB.out
 have hsz:w.heap.size+2<Y.heap.size:=by have:=HY3.out.size;omega
 have hly:=HY4.out
 have hgy1:=setCells_grown (w.heap.size+1) [.int .i64 (ps 0),.int .i64 (ps 1),.int .i64 (ps 2),.int .i64 (ps 3),.int .i64 (ps 4),.int .i64 (ps 5),.int .i64 (ps 6),.int .i64 (ps 7),.int .i64 (ps 8),.int .i64 (ps 9),.int .i64 (ps 10),.int .i64 (ps 11),.int .i64 (ps 12),.int .i64 (ps 13),.int .i64 (ps 14),.int .i64 (ps 15),.int .i64 (ps 16),.int .i64 (ps 17),.int .i64 (ps 18),.int .i64 (ps 19)] 0 Y.drew
 have hp1:=setCells_all (w:=Y.drew) [.int .i64 (ps 0),.int .i64 (ps 1),.int .i64 (ps 2),.int .i64 (ps 3),.int .i64 (ps 4),.int .i64 (ps 5),.int .i64 (ps 6),.int .i64 (ps 7),.int .i64 (ps 8),.int .i64 (ps 9),.int .i64 (ps 10),.int .i64 (ps 11),.int .i64 (ps 12),.int .i64 (ps 13),.int .i64 (ps 14),.int .i64 (ps 15),.int .i64 (ps 16),.int .i64 (ps 17),.int .i64 (ps 18),.int .i64 (ps 19)] kz rfl
 have hgy2:=setCells_grown (w.heap.size+2) [.int .i64 e1,.int .i64 e2] 0 (Y.drew.setCells (w.heap.size+1) 0 [.int .i64 (ps 0),.int .i64 (ps 1),.int .i64 (ps 2),.int .i64 (ps 3),.int .i64 (ps 4),.int .i64 (ps 5),.int .i64 (ps 6),.int .i64 (ps 7),.int .i64 (ps 8),.int .i64 (ps 9),.int .i64 (ps 10),.int .i64 (ps 11),.int .i64 (ps 12),.int .i64 (ps 13),.int .i64 (ps 14),.int .i64 (ps 15),.int .i64 (ps 16),.int .i64 (ps 17),.int .i64 (ps 18),.int .i64 (ps 19)])
 have ks2:=(hgy1.block (w.heap.size+2) hsz (by simp)).trans ks
 have hp2:=setCells_all (w:=Y.drew.setCells (w.heap.size+1) 0 [.int .i64 (ps 0),.int .i64 (ps 1),.int .i64 (ps 2),.int .i64 (ps 3),.int .i64 (ps 4),.int .i64 (ps 5),.int .i64 (ps 6),.int .i64 (ps 7),.int .i64 (ps 8),.int .i64 (ps 9),.int .i64 (ps 10),.int .i64 (ps 11),.int .i64 (ps 12),.int .i64 (ps 13),.int .i64 (ps 14),.int .i64 (ps 15),.int .i64 (ps 16),.int .i64 (ps 17),.int .i64 (ps 18),.int .i64 (ps 19)]) [.int .i64 e1,.int .i64 e2] ks2 rfl
 have HP1:Hid (((Y.drew.setCells (w.heap.size+1) 0 [.int .i64 (ps 0),.int .i64 (ps 1),.int .i64 (ps 2),.int .i64 (ps 3),.int .i64 (ps 4),.int .i64 (ps 5),.int .i64 (ps 6),.int .i64 (ps 7),.int .i64 (ps 8),.int .i64 (ps 9),.int .i64 (ps 10),.int .i64 (ps 11),.int .i64 (ps 12),.int .i64 (ps 13),.int .i64 (ps 14),.int .i64 (ps 15),.int .i64 (ps 16),.int .i64 (ps 17),.int .i64 (ps 18),.int .i64 (ps 19)]).setCells (w.heap.size+2) 0 [.int .i64 e1,.int .i64 e2]).heap[w.heap.size+1]?=some (.cells #[.int .i64 (ps 0),.int .i64 (ps 1),.int .i64 (ps 2),.int .i64 (ps 3),.int .i64 (ps 4),.int .i64 (ps 5),.int .i64 (ps 6),.int .i64 (ps 7),.int .i64 (ps 8),.int .i64 (ps 9),.int .i64 (ps 10),.int .i64 (ps 11),.int .i64 (ps 12),.int .i64 (ps 13),.int .i64 (ps 14),.int .i64 (ps 15),.int .i64 (ps 16),.int .i64 (ps 17),.int .i64 (ps 18),.int .i64 (ps 19)] 83 (0,0))):=(hgy2.block (w.heap.size+1) (by have h2:=hgy1.size;have h3:Y.drew.heap.size=Y.heap.size:=rfl;omega) (by simp)).trans hp1
 have HP2:=hide hp2
 have HBF:=hide (below_grown (below_grown ((HB0.out.trans (HY3.out.mono HB0.out.size)).drew) hgy1 (fun g e=>by simp at e;omega)) hgy2 (fun g e=>by simp at e;omega))
 have ht1:=there_of_block (w:=Y.drew) kz 20 rfl
 have ht2:=there_of_block ks2 2 rfl
 have hC0:Y.drew.heap[w1.heap.size]?=Y.heap[w1.heap.size]?∧Y.drew.heap[w1.heap.size+1]?=Y.heap[w1.heap.size+1]?:=⟨rfl,rfl⟩
 have hC1:(Y.drew.setCells (w.heap.size+1) 0 [.int .i64 (ps 0),.int .i64 (ps 1),.int .i64 (ps 2),.int .i64 (ps 3),.int .i64 (ps 4),.int .i64 (ps 5),.int .i64 (ps 6),.int .i64 (ps 7),.int .i64 (ps 8),.int .i64 (ps 9),.int .i64 (ps 10),.int .i64 (ps 11),.int .i64 (ps 12),.int .i64 (ps 13),.int .i64 (ps 14),.int .i64 (ps 15),.int .i64 (ps 16),.int .i64 (ps 17),.int .i64 (ps 18),.int .i64 (ps 19)]).heap[w1.heap.size]?=Y.heap[w1.heap.size]?∧(Y.drew.setCells (w.heap.size+1) 0 [.int .i64 (ps 0),.int .i64 (ps 1),.int .i64 (ps 2),.int .i64 (ps 3),.int .i64 (ps 4),.int .i64 (ps 5),.int .i64 (ps 6),.int .i64 (ps 7),.int .i64 (ps 8),.int .i64 (ps 9),.int .i64 (ps 10),.int .i64 (ps 11),.int .i64 (ps 12),.int .i64 (ps 13),.int .i64 (ps 14),.int .i64 (ps 15),.int .i64 (ps 16),.int .i64 (ps 17),.int .i64 (ps 18),.int .i64 (ps 19)]).heap[w1.heap.size+1]?=Y.heap[w1.heap.size+1]?:=⟨hgy1.block _ (by show _<Y.heap.size;omega) (by simp;omega),hgy1.block _ (by show _<Y.heap.size;omega) (by simp;omega)⟩
 have hC2:((Y.drew.setCells (w.heap.size+1) 0 [.int .i64 (ps 0),.int .i64 (ps 1),.int .i64 (ps 2),.int .i64 (ps 3),.int .i64 (ps 4),.int .i64 (ps 5),.int .i64 (ps 6),.int .i64 (ps 7),.int .i64 (ps 8),.int .i64 (ps 9),.int .i64 (ps 10),.int .i64 (ps 11),.int .i64 (ps 12),.int .i64 (ps 13),.int .i64 (ps 14),.int .i64 (ps 15),.int .i64 (ps 16),.int .i64 (ps 17),.int .i64 (ps 18),.int .i64 (ps 19)]).setCells (w.heap.size+2) 0 [.int .i64 e1,.int .i64 e2]).heap[w1.heap.size]?=Y.heap[w1.heap.size]?∧((Y.drew.setCells (w.heap.size+1) 0 [.int .i64 (ps 0),.int .i64 (ps 1),.int .i64 (ps 2),.int .i64 (ps 3),.int .i64 (ps 4),.int .i64 (ps 5),.int .i64 (ps 6),.int .i64 (ps 7),.int .i64 (ps 8),.int .i64 (ps 9),.int .i64 (ps 10),.int .i64 (ps 11),.int .i64 (ps 12),.int .i64 (ps 13),.int .i64 (ps 14),.int .i64 (ps 15),.int .i64 (ps 16),.int .i64 (ps 17),.int .i64 (ps 18),.int .i64 (ps 19)]).setCells (w.heap.size+2) 0 [.int .i64 e1,.int .i64 e2]).heap[w1.heap.size+1]?=Y.heap[w1.heap.size+1]? :=
  ⟨(hgy2.block _ (by have h2:=hgy1.size;have h3:Y.drew.heap.size=Y.heap.size:=rfl;omega) (by simp;omega)).trans hC1.1,(hgy2.block _ (by have h2:=hgy1.size;have h3:Y.drew.heap.size=Y.heap.size:=rfl;omega) (by simp;omega)).trans hC1.2⟩
 have LC1:∀ w':World,(w'.heap[w1.heap.size]?=Y.heap[w1.heap.size]?∧w'.heap[w1.heap.size+1]?=Y.heap[w1.heap.size+1]?)→w'.rangeAt w1.heap.size 1 [.int .i64 (ps 0),.int .i64 (ps 1),.int .i64 (ps 2),.int .i64 (ps 3),.int .i64 (ps 4),.int .i64 (ps 5),.int .i64 (ps 6),.int .i64 (ps 7),.int .i64 (ps 8),.int .i64 (ps 9),.int .i64 (ps 10),.int .i64 (ps 11),.int .i64 (ps 12),.int .i64 (ps 13),.int .i64 (ps 14),.int .i64 (ps 15),.int .i64 (ps 16),.int .i64 (ps 17),.int .i64 (ps 18),.int .i64 (ps 19)]:=fun w' h=>range_mid (cs:=[ins,.int .i64 (ps 0),.int .i64 (ps 1),.int .i64 (ps 2),.int .i64 (ps 3),.int .i64 (ps 4),.int .i64 (ps 5),.int .i64 (ps 6),.int .i64 (ps 7),.int .i64 (ps 8),.int .i64 (ps 9),.int .i64 (ps 10),.int .i64 (ps 11),.int .i64 (ps 12),.int .i64 (ps 13),.int .i64 (ps 14),.int .i64 (ps 15),.int .i64 (ps 16),.int .i64 (ps 17),.int .i64 (ps 18),.int .i64 (ps 19),fv,.int .i64 k,.int .u8 pt,.int .u16 kd]) (h.1.trans HY1.out) 1 20
 have LC2:∀ w':World,(w'.heap[w1.heap.size]?=Y.heap[w1.heap.size]?∧w'.heap[w1.heap.size+1]?=Y.heap[w1.heap.size+1]?)→w'.rangeAt (w1.heap.size+1) 0 [.int .i64 e1,.int .i64 e2]:=fun w' h=>range_of_block (h.2.trans HY2.out)
 clear hgy1 hp1 hgy2 hp2 kz ks ks2
 have hmix:Tryz.prog.follows .mixedOrders=true:=by kernel_rfl
 refine (wpIn_wide (n:=0)).1 ?_
 refine wpIn_normal (wpIn_region_any hmix (wpAnyE_sound (C:=fun w'=>w'.heap[w1.heap.size]?=Y.heap[w1.heap.size]?∧w'.heap[w1.heap.size+1]?=Y.heap[w1.heap.size+1]?) (E:=fun i=>false) _ _ _ _ ?_))
 change wpAnyE _ _ _ _ _ _ _ _ _ _ _ (World.drew _)
 refine wpAnyE_takeD (i:=0) (some 11) (v:=.pointer (some ⟨w1.heap.size,1,none⟩)) (fun _=>trivial) (by kernel_rfl) rfl rfl (by kernel_rfl) (by kernel_rfl) (by kernel_rfl) (by kernel_rfl) (fun _ _ _ h=>by cases h.1) hC0 (Or.inl ⟨by rfl,fun w' hC=>by clear hC;go_simp⟩) ?_
 simp only [Act.put,ap1,ap2,ap3]
 refine wpAnyE_takeD (i:=1) (some 12) (v:=.agg #[.int .i64 (ps 0),.int .i64 (ps 1),.int .i64 (ps 2),.int .i64 (ps 3),.int .i64 (ps 4),.int .i64 (ps 5),.int .i64 (ps 6),.int .i64 (ps 7),.int .i64 (ps 8),.int .i64 (ps 9),.int .i64 (ps 10),.int .i64 (ps 11),.int .i64 (ps 12),.int .i64 (ps 13),.int .i64 (ps 14),.int .i64 (ps 15),.int .i64 (ps 16),.int .i64 (ps 17),.int .i64 (ps 18),.int .i64 (ps 19)]) (fun _=>trivial) (by kernel_rfl) rfl rfl (by kernel_rfl) (by kernel_rfl) (by kernel_rfl) (by kernel_rfl) (fun _ _ _ h=>by cases h.1) hC0 (yieldsC_load rfl 83 (.tmp 11) rfl w1.heap.size 1 rfl [.int .i64 (ps 0),.int .i64 (ps 1),.int .i64 (ps 2),.int .i64 (ps 3),.int .i64 (ps 4),.int .i64 (ps 5),.int .i64 (ps 6),.int .i64 (ps 7),.int .i64 (ps 8),.int .i64 (ps 9),.int .i64 (ps 10),.int .i64 (ps 11),.int .i64 (ps 12),.int .i64 (ps 13),.int .i64 (ps 14),.int .i64 (ps 15),.int .i64 (ps 16),.int .i64 (ps 17),.int .i64 (ps 18),.int .i64 (ps 19)] _ LC1 Tryz.underlying83 rfl (by kernel_rfl)) ?_
 simp only [Act.put,ap1,ap2,ap3]
 refine wpAnyE_takeD (i:=2) (some 13) (v:=.agg #[.int .i64 e1,.int .i64 e2]) (fun _=>trivial) (by kernel_rfl) rfl rfl (by kernel_rfl) (by kernel_rfl) (by kernel_rfl) (by kernel_rfl) (fun _ _ _ h=>by cases h.1) hC0 (yieldsC_load rfl 33 (.tmp 5) rfl (w1.heap.size+1) 0 rfl [.int .i64 e1,.int .i64 e2] _ LC2 Tryz.underlying33 rfl (by kernel_rfl)) ?_
 simp only [Act.put,ap1,ap2,ap3]
 refine wpAnyE_ready (rs:=[3]) (by kernel_rfl) (by simp) ?_
 refine AllE.cons rfl (fun K hK=>?_) AllE.nil
 refine stepAny_store _ (fun _=>trivial) rfl 83 (.tmp 2) (.tmp 12) rfl (w.heap.size+1) 0 #[.int .i64 (ps 0),.int .i64 (ps 1),.int .i64 (ps 2),.int .i64 (ps 3),.int .i64 (ps 4),.int .i64 (ps 5),.int .i64 (ps 6),.int .i64 (ps 7),.int .i64 (ps 8),.int .i64 (ps 9),.int .i64 (ps 10),.int .i64 (ps 11),.int .i64 (ps 12),.int .i64 (ps 13),.int .i64 (ps 14),.int .i64 (ps 15),.int .i64 (ps 16),.int .i64 (ps 17),.int .i64 (ps 18),.int .i64 (ps 19)] rfl rfl ht1 (by kernel_rfl) (by simp [Value.oneCell']) ?_
 refine hK _ _ (.inr hC1) ?_
 clear hK K
 refine wpAnyE_ready (rs:=[4]) (by kernel_rfl) (by simp) ?_
 refine AllE.cons rfl (fun K hK=>?_) AllE.nil
 refine stepAny_store _ (fun _=>trivial) rfl 33 (.tmp 3) (.tmp 13) rfl (w.heap.size+2) 0 #[.int .i64 e1,.int .i64 e2] rfl rfl ht2 (by kernel_rfl) (by simp [Value.oneCell']) ?_
 refine hK _ _ (.inr hC2) ?_
 clear hK K
 refine wpAnyE_done (by kernel_rfl) ⟨rfl,?_⟩ _
 clear ht1 ht2 hC1 hC2 hC0 LC1 LC2
 dsimp only
 generalize (Y.drew.setCells (w.heap.size+1) 0 [.int .i64 (ps 0),.int .i64 (ps 1),.int .i64 (ps 2),.int .i64 (ps 3),.int .i64 (ps 4),.int .i64 (ps 5),.int .i64 (ps 6),.int .i64 (ps 7),.int .i64 (ps 8),.int .i64 (ps 9),.int .i64 (ps 10),.int .i64 (ps 11),.int .i64 (ps 12),.int .i64 (ps 13),.int .i64 (ps 14),.int .i64 (ps 15),.int .i64 (ps 16),.int .i64 (ps 17),.int .i64 (ps 18),.int .i64 (ps 19)]).setCells (w.heap.size+2) 0 [.int .i64 e1,.int .i64 e2]=Z at *
 rw [then_normalW]
 go_wp2_with fail
 exact HRET.out _ Z ps rfl rfl rfl HP1.out HP2.out HBF.out HFS.out
def SpanB (W:World) (B:Nat) (f:Nat→Int):Prop:=∃ cs:Array Value,W.heap[B]?=some (.cells cs 83 (0,0))∧cs.size=20∧∀ i,i<20→cs[i]?=some (.int .i64 (f i))
theorem SpanB.block {W W':World} {B:Nat} {f:Nat→Int} (h:SpanB W B f) (hb:W'.heap[B]?=W.heap[B]?):SpanB W' B f:=by
 obtain⟨cs,h1,h2⟩:=h;exact⟨cs,hb.trans h1,h2⟩
theorem SpanB.row {W:World} {B:Nat} {f:Nat→Int} (h:SpanB W B f):W.heap[B]?=some (.cells #[.int .i64 (f 0),.int .i64 (f 1),.int .i64 (f 2),.int .i64 (f 3),.int .i64 (f 4),.int .i64 (f 5),.int .i64 (f 6),.int .i64 (f 7),.int .i64 (f 8),.int .i64 (f 9),.int .i64 (f 10),.int .i64 (f 11),.int .i64 (f 12),.int .i64 (f 13),.int .i64 (f 14),.int .i64 (f 15),.int .i64 (f 16),.int .i64 (f 17),.int .i64 (f 18),.int .i64 (f 19)] 83 (0,0)):=by
 obtain⟨cs,h1,h2,h3⟩:=h
 have e:cs=#[.int .i64 (f 0),.int .i64 (f 1),.int .i64 (f 2),.int .i64 (f 3),.int .i64 (f 4),.int .i64 (f 5),.int .i64 (f 6),.int .i64 (f 7),.int .i64 (f 8),.int .i64 (f 9),.int .i64 (f 10),.int .i64 (f 11),.int .i64 (f 12),.int .i64 (f 13),.int .i64 (f 14),.int .i64 (f 15),.int .i64 (f 16),.int .i64 (f 17),.int .i64 (f 18),.int .i64 (f 19)]:=by
  apply Array.ext_getElem?
  intro i
  match i with
  | 0=>exact h3 0 (by omega)
  | 1=>exact h3 1 (by omega)
  | 2=>exact h3 2 (by omega)
  | 3=>exact h3 3 (by omega)
  | 4=>exact h3 4 (by omega)
  | 5=>exact h3 5 (by omega)
  | 6=>exact h3 6 (by omega)
  | 7=>exact h3 7 (by omega)
  | 8=>exact h3 8 (by omega)
  | 9=>exact h3 9 (by omega)
  | 10=>exact h3 10 (by omega)
  | 11=>exact h3 11 (by omega)
  | 12=>exact h3 12 (by omega)
  | 13=>exact h3 13 (by omega)
  | 14=>exact h3 14 (by omega)
  | 15=>exact h3 15 (by omega)
  | 16=>exact h3 16 (by omega)
  | 17=>exact h3 17 (by omega)
  | 18=>exact h3 18 (by omega)
  | 19=>exact h3 19 (by omega)
  | m+20=>rw [Array.getElem?_eq_none (by omega),Array.getElem?_eq_none (by simp)]
 rw [h1,e]
def blkC (l:List InstT):Nat→List (Int×Int×Int)→Nat→Prop
 | s,[],e=>s=e
 | s,b :: bs,e=>b.2.1=(s:Int)∧(nthI l s).2.2.1=b.1∧∃ t:Nat,b.2.2=(t:Int)∧s+1<t∧endsB (nthI l (t - 1)).1=true∧blkC l t bs e
def fnC (l:List InstT):Nat→List FuncT→Nat→Prop
 | s,[],e=>s=e
 | s,f :: fs,e=>f.2.1=(s:Int)∧(nthI l s).2.2.1=f.1∧f.2.2.2.1≠[]∧∃ t:Nat,f.2.2.2.2=(t:Int)∧blkC l (s+1+f.2.2.1.length) f.2.2.2.1 t∧fnC l (t+1) fs e
theorem blkC_le {l:List InstT}:∀ {bs:List (Int×Int×Int)} {s e:Nat},blkC l s bs e→s≤e
 | [],s,e,h=>Nat.le_of_eq h
 | b :: bs,s,e,h=>by obtain⟨_,_,t,_,h1,_,h2⟩:=h;have:=blkC_le h2;omega
theorem fnC_le {l:List InstT}:∀ {fs:List FuncT} {s e:Nat},fnC l s fs e→s≤e
 | [],s,e,h=>Nat.le_of_eq h
 | f :: fs,s,e,h=>by obtain⟨_,_,_,t,_,h1,h2⟩:=h;have:=fnC_le h2;have:=blkC_le h1;omega
theorem blkC_snoc {l:List InstT} {b:Int×Int×Int} {q t:Nat} (h1:b.2.1=(q:Int)) (h2:(nthI l q).2.2.1=b.1) (h3:b.2.2=(t:Int)) (h4:q+1<t) (h5:endsB (nthI l (t - 1)).1=true):∀ {bs:List (Int×Int×Int)} {s:Nat},blkC l s bs q→blkC l s (bs++[b]) t
 | [],s,h=>by cases h;exact⟨h1,h2,t,h3,h4,h5,rfl⟩
 | c :: bs,s,h=>by obtain⟨a1,a2,u,a3,a4,a5,a6⟩:=h;exact⟨a1,a2,u,a3,a4,a5,blkC_snoc h1 h2 h3 h4 h5 a6⟩
theorem fnC_snoc {l:List InstT} {f:FuncT} {q t:Nat} (h1:f.2.1=(q:Int)) (h2:(nthI l q).2.2.1=f.1) (h3:f.2.2.2.1≠[]) (h4:f.2.2.2.2=(t:Int)) (h5:blkC l (q+1+f.2.2.1.length) f.2.2.2.1 t):∀ {fs:List FuncT} {s:Nat},fnC l s fs q→fnC l s (fs++[f]) (t+1)
 | [],s,h=>by cases h;exact⟨h1,h2,h3,t,h4,h5,rfl⟩
 | c :: fs,s,h=>by obtain⟨a1,a2,a3,u,a4,a5,a6⟩:=h;exact⟨a1,a2,a3,u,a4,a5,fnC_snoc h1 h2 h3 h4 h5 a6⟩
def Whole (l : List InstT) (K k : Nat) : Prop :=
  (aheadO l k = 0 ∧ k = K ∧ cutTo l k = []) ∨ (aheadO l k = 56 ∧ fnC l K (cutTo l k) k) ∨
  (∃ (fs : List FuncT) (f : FuncT) (s : Nat), cutTo l k = fs ++ [f] ∧ fnC l K fs s ∧ f.2.1 = (s : Int) ∧ (nthI l s).2.2.1 = f.1 ∧
    (((aheadO l k = 54 ∨ aheadO l k = 55) ∧ f.2.2.2.1 = [] ∧ k = s + 1 + f.2.2.1.length) ∨
     (endsB (aheadO l k) = true ∧ f.2.2.2.1 ≠ [] ∧ blkC l (s + 1 + f.2.2.1.length) f.2.2.2.1 k) ∨
     ((aheadO l k ≠ 0 ∧ aheadO l k ≠ 54 ∧ aheadO l k ≠ 55 ∧ aheadO l k ≠ 56 ∧ endsB (aheadO l k) = false) ∧ ∃ (bs : List (Int × Int × Int)) (b : Int × Int × Int) (q : Nat), f.2.2.2.1 = bs ++ [b] ∧ blkC l (s + 1 + f.2.2.1.length) bs q ∧ b.2.1 = (q : Int) ∧ (nthI l q).2.2.1 = b.1 ∧ q < k)))
theorem Whole.step {l:List InstT} {K k:Nat} (h:Whole l K k) (h8:partI (nthI l k)=8) (hm:mayF (nthI l k).1 (aheadO l k) (firstB l (k - 1))=true):Whole l K (k+1):=by
 have ha:aheadO l (k+1)=(nthI l k).1:=by unfold aheadO;rw [if_pos ⟨by omega,by rw [Nat.add_sub_cancel];exact h8⟩,Nat.add_sub_cancel]
 have hne:=op_ne_zero h8
 by_cases h54:(nthI l k).1=54
 ·have hc:cutTo l (k+1)=cutTo l k++[((nthI l k).2.2.1,(k:Int),[],[],0)]:=by rw [cutTo];unfold stepC;rw [if_pos h54]
  have h056:aheadO l k=0∨aheadO l k=56:=by rw [h54] at hm;unfold mayF at hm;simpa using hm
  have hf:fnC l K (cutTo l k) k:=by
   rcases h with ⟨_,h1,h2⟩ | ⟨_,h1⟩ | ⟨fs,f,s,_,_,_,_,h1⟩
   ·rw [h2];exact h1.symm
   ·exact h1
   ·rcases h1 with ⟨h2,_⟩ | ⟨h2,_⟩ | ⟨h2,_⟩
    ·omega
    ·have:=endsB_iff.1 h2;omega
    ·omega
  exact .inr (.inr ⟨_,_,k,hc,hf,rfl,rfl,.inl ⟨.inl (ha.trans h54),rfl,rfl⟩⟩)
 ·by_cases h55:(nthI l k).1=55
  ·have hah:aheadO l k=54∨aheadO l k=55:=by rw [h55] at hm;unfold mayF at hm;simpa using hm
   rcases h with ⟨h1,_⟩ | ⟨h1,_⟩ | ⟨fs,f,s,c1,c2,c3,c4,h1⟩
   ·omega
   ·omega
   ·have hc:cutTo l (k+1)=fs++[withParam k f]:=by rw [cutTo];unfold stepC;rw [if_neg h54,if_pos h55,c1,onLast_snoc]
    rcases h1 with ⟨_,h2,h3⟩ | ⟨h2,_⟩ | ⟨h2,_⟩
    ·refine .inr (.inr ⟨fs,_,s,hc,c2,c3,c4,.inl ⟨.inr (ha.trans h55),h2,?_⟩⟩)
     simp [withParam];omega
    ·have:=endsB_iff.1 h2;omega
    ·omega
  ·by_cases h56:(nthI l k).1=56
   ·have hah:endsB (aheadO l k)=true:=by rw [h56] at hm;unfold mayF at hm;simpa using hm
    have hr:=endsB_iff.1 hah
    rcases h with ⟨h1,_⟩ | ⟨h1,_⟩ | ⟨fs,f,s,c1,c2,c3,c4,h1⟩
    ·omega
    ·omega
    ·have hc:cutTo l (k+1)=fs++[withEnd k f]:=by rw [cutTo];unfold stepC;rw [if_neg h54,if_neg h55,if_pos h56,c1,onLast_snoc]
     rcases h1 with ⟨h2,_⟩ | ⟨_,h2,h3⟩ | ⟨h2,_⟩
     ·omega
     ·refine .inr (.inl ⟨ha.trans h56,?_⟩)
      rw [hc]
      exact fnC_snoc (f:=withEnd k f) c3 c4 h2 rfl h3 c2
     ·rw [h2.2.2.2.2] at hah;cases hah
   ·by_cases h248:(nthI l k).1=248
    ·have hah:aheadO l k=54∨aheadO l k=55∨endsB (aheadO l k)=true:=by
      rw [h248] at hm;unfold mayF at hm;simpa [or_assoc] using hm
     rcases h with ⟨h1,_⟩ | ⟨h1,_⟩ | ⟨fs,f,s,c1,c2,c3,c4,h1⟩
     ·rw [h1] at hah;simp [endsB] at hah
     ·rw [h1] at hah;simp [endsB] at hah
     ·have hc:cutTo l (k+1)=fs++[withBlock (nthI l k).2.2.1 k f]:=by rw [cutTo];unfold stepC;rw [if_neg h54,if_neg h55,if_neg h56,if_pos h248,c1,onLast_snoc]
      have hin:aheadO l (k+1)≠0∧aheadO l (k+1)≠54∧aheadO l (k+1)≠55∧aheadO l (k+1)≠56∧endsB (aheadO l (k+1))=false:=by
       rw [ha,h248];decide
      have hb:blkC l (s+1+f.2.2.1.length) f.2.2.2.1 k:=by
       rcases h1 with ⟨_,h2,h3⟩ | ⟨_,_,h3⟩ | ⟨h2,_⟩
       ·rw [h2];exact h3.symm
       ·exact h3
       ·rcases hah with e | e | e
        ·exact absurd e h2.2.1
        ·exact absurd e h2.2.2.1
        ·rw [h2.2.2.2.2] at e;cases e
      exact .inr (.inr ⟨fs,_,s,hc,c2,c3,c4,.inr (.inr ⟨hin,f.2.2.2.1,((nthI l k).2.2.1,(k:Int),0),k,rfl,hb,rfl,rfl,by omega⟩)⟩)
    ·have hno:¬ (aheadO l k==0 || aheadO l k==54 || aheadO l k==55 || aheadO l k==56 || endsB (aheadO l k))=true:=by
      intro e
      unfold mayF at hm
      rw [if_neg h54,if_neg h55,if_neg h248,if_neg h56,if_pos e] at hm
      cases hm
     simp only [Bool.or_eq_true,beq_iff_eq,not_or] at hno
     rcases h with ⟨h1,_⟩ | ⟨h1,_⟩ | ⟨fs,f,s,c1,c2,c3,c4,h1⟩
     ·exact absurd h1 hno.1.1.1.1
     ·exact absurd h1 hno.1.2
     ·rcases h1 with ⟨h2,_⟩ | ⟨h2,_⟩ | ⟨_,bs,b,q,d1,d2,d3,d4,d5⟩
      ·rcases h2 with h2 | h2
       ·exact absurd h2 hno.1.1.1.2
       ·exact absurd h2 hno.1.1.2
      ·exact absurd h2 hno.2
      ·cases he:endsB (nthI l k).1 with
       | true =>
        have hc:cutTo l (k+1)=fs++[withTo ((k+1:Nat):Int) f]:=by rw [cutTo];unfold stepC;rw [if_neg h54,if_neg h55,if_neg h56,if_neg h248,he,if_pos rfl,c1,onLast_snoc]
        refine .inr (.inr ⟨fs,_,s,hc,c2,c3,c4,.inr (.inl ⟨by rw [ha];exact he,?_,?_⟩)⟩)
        ·simp only [withTo];rw [d1,endLast_snoc];simp
        ·simp only [withTo];rw [d1,endLast_snoc]
         exact blkC_snoc (b:=(b.1,b.2.1,((k+1:Nat):Int))) d3 d4 rfl (by omega) (by rw [Nat.add_sub_cancel];exact he) d2
       | false =>
        have hc:cutTo l (k+1)=fs++[f]:=by rw [cutTo,stepC_other h54 h55 h56 h248 he,c1]
        exact .inr (.inr ⟨fs,f,s,hc,c2,c3,c4,.inr (.inr ⟨by rw [ha];exact⟨hne,h54,h55,h56,he⟩,bs,b,q,d1,d2,d3,d4,by omega⟩)⟩)
theorem layE_closed {b:Int} {l:List InstT} (h:(layE b l).1=0):okTo l l.length∧modelsN l l.length≠0∧(aheadO l l.length=0∨aheadO l l.length=56):=by
 unfold layE at h
 by_cases h1:(shapeE b l).1=0
 ·rw [if_neg (by simpa using h1)] at h
  have key:∀ m k,k+m=l.length→okTo l k→(layF l m k).1=0→okTo l l.length∧openE l=false:=by
   intro m
   induction m with
   | zero =>
    intro k hk hok h0
    rw [layF] at h0
    cases hO:openE l with
    | true=>rw [hO] at h0;simp at h0
    | false=>rw [show l.length=k by omega];exact⟨hok,rfl⟩
   | succ m ih =>
    intro k hk hok h0
    rw [layF] at h0
    cases hm:mayL l k with
    | false=>rw [hm] at h0;simp at h0
    | true=>rw [hm,if_pos rfl] at h0;exact ih (k+1) (by omega) (hok.snoc hm) h0
  obtain⟨q1,q2⟩:=key l.length 0 (by omega) (okTo_zero l) h
  unfold openE at q2
  simp only [Bool.or_eq_false_iff,decide_eq_false_iff_not] at q2
  refine⟨q1,q2.1,?_⟩
  by_cases e:aheadO l l.length=0
  ·exact .inl e
  ·by_cases e2:aheadO l l.length=56
   ·exact .inr e2
   ·exact absurd ⟨e,e2⟩ q2.2
 ·rw [if_pos h1] at h;exact absurd h h1
theorem sorted9 {l:List InstT} {n i j:Nat} (h:okTo l n) (hij:i≤j) (hj:j<n):partI (nthI l i)≤partI (nthI l j):=by
 by_cases e:i=j
 ·rw [e];exact Int.le_refl _
 ·have hm:=h j hj
  rcases Int.lt_or_le (partI (nthI l j)) (partI (nthI l i)) with h1 | h1
  ·rw [mayL_over (by omega) h1] at hm;cases hm
  ·exact h1
theorem cnt_low {l:List InstT} {p:Nat}:∀ {n k:Nat},okTo l n→k<cntP l p n→k<n∧partI (nthI l k)<p
 | 0,k,_,h=>by rw [cntP] at h;omega
 | n+1,k,hok,h=>by
  have hle:=cntP_le l p n
  rw [cntP] at h
  split at h
  ·next hp =>
   by_cases e:k=n
   ·subst e;exact⟨by omega,hp⟩
   ·by_cases e2:k<n
    ·exact⟨by omega,by have:=sorted9 hok (show k≤n by omega) (by omega);omega⟩
    ·omega
  ·rw [Nat.add_zero] at h
   have:=cnt_low (n:=n) (fun i hi=>hok i (by omega)) h;omega
theorem cnt_high {l : List InstT} {p : Nat} : ∀ {n k : Nat}, okTo l n → cntP l p n ≤ k → k < n → (p : Int) ≤ partI (nthI l k)
  | 0, k, _, _, h => by omega
  | n + 1, k, hok, h, hk => by
    rcases Int.lt_or_le (partI (nthI l k)) p with h1 | h1
    · have all : ∀ i, i < k + 1 → partI (nthI l i) < p := fun i hi => by have := sorted9 hok (show i ≤ k by omega) hk; omega
      have h2 := cntP_all all
      have mono : ∀ m, k + 1 ≤ m → cntP l p (k + 1) ≤ cntP l p m := by
        intro m
        induction m with
        | zero => intro h; omega
        | succ m ih => intro hm; by_cases e : k = m
                       · subst e; exact Nat.le_refl _
                       · exact Nat.le_trans (ih (by omega)) (Nat.le_add_right _ _)
      have := mono (n + 1) (by omega)
      omega
    · exact h1
theorem whole_cut {b:Int} {l:List InstT} (h:(layE b l).1=0):fnC l (cntP l 8 l.length) (cutTo l l.length) l.length:=by
 obtain⟨hok,hmo,hah⟩:=layE_closed h
 have hK:=cntP_le l 8 l.length
 have hlow:∀ i,i<cntP l 8 l.length→partI (nthI l i)<8:=fun i hi=>(cnt_low hok hi).2
 have start:Whole l (cntP l 8 l.length) (cntP l 8 l.length):=by
  refine .inl ⟨?_,rfl,cutTo_front hlow⟩
  unfold aheadO
  rw [if_neg (fun e=>by have:=hlow (cntP l 8 l.length - 1) (by omega);omega)]
 have all:∀ d,cntP l 8 l.length+d≤l.length→Whole l (cntP l 8 l.length) (cntP l 8 l.length+d):=by
  intro d
  induction d with
  | zero=>intro _;exact start
  | succ d ih =>
   intro hd
   have h1:=ih (by omega)
   have h8:partI (nthI l (cntP l 8 l.length+d))=8:=by
    have:=cnt_high (p:=8) hok (show cntP l 8 l.length≤cntP l 8 l.length+d by omega) (by omega)
    have:=partI_eight (nthI l (cntP l 8 l.length+d))
    omega
   have hmay:=hok (cntP l 8 l.length+d) (by omega)
   have hmo2:modelsN l (cntP l 8 l.length+d)≠0:=fun e=>by rw [mayL_noModel (by omega) e] at hmay;cases hmay
   rw [mayL_eight h8 (fun i _=>(partI_eight _).2) hmo2] at hmay
   exact h1.step h8 hmay
 have hend:=all (l.length - cntP l 8 l.length) (by omega)
 rw [show cntP l 8 l.length+(l.length - cntP l 8 l.length)=l.length by omega] at hend
 rcases hend with ⟨_,h1,h2⟩ | ⟨_,h1⟩ | ⟨fs,f,s,_,_,_,_,h1⟩
 ·rw [h2];exact h1.symm
 ·exact h1
 ·rcases h1 with ⟨h2,_⟩ | ⟨h2,_⟩ | ⟨h2,_⟩
  ·omega
  ·have:=endsB_iff.1 h2;omega
  ·omega
def allMade (l:List InstT) (k:Nat) (zs:List Int):Bool:=zs.all fun id=>(makT l k id).isSome
def faultAt (l:List InstT) (k:Nat):Int :=
 if (makT l k (nthI l k).2.2.1).isSome=true then 90
 else if allMade l l.length (idsI (nthI l k))=false then 91
 else if partI (nthI l k)=7∧allMade l k (idsI (nthI l k))=false then 92 else 0
def idsF (l:List InstT):Nat→Nat→Int×Nat
 | 0,_=>(0,0)
 | m+1,k=>if faultAt l k≠0 then (faultAt l k,k) else idsF l m (k+1)
def idsE (b:Int) (l:List InstT):Int×Nat:=if (layE b l).1≠0 then layE b l else idsF l l.length 0
theorem idsF_ok {l:List InstT}:∀ (j m k:Nat),(∀ i,i<j→faultAt l (k+i)=0)→idsF l (j+m) k=idsF l m (k+j)
 | 0,m,k,_=>by rw [Nat.zero_add,Nat.add_zero]
 | j+1,m,k,h=>by
  have h0:=h 0 (by omega)
  rw [Nat.add_zero] at h0
  rw [show j+1+m=(j+m)+1 by omega,idsF,if_neg (by rw [h0];simp),idsF_ok j m (k+1) (fun i hi=>by have:=h (i+1) (by omega);rw [show k+1+i=k+(i+1) by omega];exact this)]
  congr 1;omega
theorem idsF_at {l:List InstT} {k:Nat} (hk:k<l.length) (hok:∀ i,i<k→faultAt l i=0) (hf:faultAt l k≠0):idsF l l.length 0=(faultAt l k,k):=by
 have e:=idsF_ok k (l.length - k) 0 (fun i hi=>by rw [Nat.zero_add];exact hok i hi)
 rw [show k+(l.length - k)=l.length by omega,Nat.zero_add] at e
 rw [e,show l.length - k=(l.length - k - 1)+1 by omega,idsF,if_pos hf]
theorem idsF_done {l:List InstT} (hok:∀ i,i<l.length→faultAt l i=0):idsF l l.length 0=(0,0):=by
 have e:=idsF_ok l.length 0 0 (fun i hi=>by rw [Nat.zero_add];exact hok i hi)
 rw [Nat.add_zero] at e
 rw [e];rfl
theorem makT_cut {l:List InstT} {id p:Int}:∀ {n k:Nat},k≤n→makT l n id=some p→p<k→makT l k id=some p
 | 0,k,hk,h,_=>by cases h
 | n+1,k,hk,h,hp=>by
  by_cases e:k=n+1
  ·rw [e];exact h
  ·rw [makT] at h
   split at h
   ·exact makT_cut (by omega) h hp
   ·split at h
    ·cases h;omega
    ·cases h
theorem makT_ahead {l:List InstT} {id p:Int} {n k:Nat} (hk:k≤n) (h:makT l n id=some p):(makT l k id).isSome=decide (p<(k:Int)):=by
 by_cases hp:p<(k:Int)
 ·rw [makT_cut hk h hp];simp [hp]
 ·cases hm:makT l k id with
  | none=>simp [hp]
  | some q =>
   have h1:=makT_stays l id k (by rw [hm];rfl) (n - k)
   rw [show k+(n - k)=n by omega,hm,h] at h1
   cases h1
   have:=(makT_some l id k p hm).2
   exact absurd this hp
theorem makT_own {l:List InstT} {k:Nat} (hk:k<l.length) (h0:(nthI l k).2.2.1≠0):∃ p,makT l l.length (nthI l k).2.2.1=some p:=by
 have h1:(makT l (k+1) (nthI l k).2.2.1).isSome=true:=by
  rw [makT]
  split
  ·assumption
  ·rw [if_pos ⟨rfl,h0⟩];rfl
 have h2:=makT_stays l _ (k+1) h1 (l.length - (k+1))
 rw [show k+1+(l.length - (k+1))=l.length by omega] at h2
 obtain⟨p,hp⟩:=Option.isSome_iff_exists.1 h1
 exact⟨p,by rw [h2,hp]⟩
theorem okTo_sorted {l:List InstT} {n i j:Nat} (h:okTo l n) (hij:i≤j) (hj:j<n):partI (nthI l i)≤partI (nthI l j):=by
 by_cases e:i=j
 ·rw [e];exact Int.le_refl _
 ·have hm:=h j hj
  rcases Int.lt_or_le (partI (nthI l j)) (partI (nthI l i)) with h1 | h1
  ·rw [mayL_over (by omega) h1] at hm;cases hm
  ·exact h1
theorem cntP_le_of {l:List InstT} {p:Nat}:∀ {n k:Nat},k≤n→(∀ j,k≤j→j<n→(p:Int)≤partI (nthI l j))→cntP l p n≤k
 | 0,k,hk,_=>by rw [cntP];omega
 | n+1,k,hk,h=>by
  by_cases e:k=n+1
  ·have:=cntP_le l p (n+1);omega
  ·have:=cntP_le_of (n:=n) (k:=k) (by omega) (fun j h1 h2=>h j h1 (by omega))
   rw [cntP_more (h n (by omega) (by omega))];exact this
theorem cntP_ge_of {l:List InstT} {p:Nat}:∀ {n k:Nat},k≤n→(∀ j,j<k→partI (nthI l j)<p)→k≤cntP l p n
 | 0,k,hk,_=>by omega
 | n+1,k,hk,h=>by
  by_cases e:k=n+1
  ·subst e;rw [cntP_all h];exact Nat.le_refl _
  ·have:=cntP_ge_of (n:=n) (k:=k) (by omega) h
   rw [cntP];omega
theorem span_part {l:List InstT} {n k p:Nat} (h:okTo l n) (hk:k<n):(cntP l p n≤k↔(p:Int)≤partI (nthI l k)):=by
 constructor
 ·intro h1
  rcases Int.lt_or_le (partI (nthI l k)) p with h2 | h2
  ·have:=cntP_ge_of (l:=l) (p:=p) (n:=n) (k:=k+1) (by omega) (fun j hj=>by have:=okTo_sorted h (show j≤k by omega) hk;omega)
   omega
  ·exact h2
 ·intro h1
  exact cntP_le_of (by omega) (fun j hj hj2=>by have:=okTo_sorted h hj hj2;omega)
theorem layE_ok {b:Int} {l:List InstT} (h:(layE b l).1=0):okTo l l.length∧(shapeE b l).1=0∧layE b l=(0,0):=by
 unfold layE at h ⊢
 by_cases h1:(shapeE b l).1=0
 ·rw [if_neg (by simpa using h1)] at h ⊢
  have key:∀ m k,k+m=l.length→okTo l k→(layF l m k).1=0→okTo l l.length∧layF l m k=(0,0):=by
   intro m
   induction m with
   | zero =>
    intro k hk hok h0
    rw [layF] at h0 ⊢
    cases hO:openE l with
    | true=>rw [hO] at h0;simp at h0
    | false=>rw [show l.length=k by omega];exact⟨hok,rfl⟩
   | succ m ih =>
    intro k hk hok h0
    rw [layF] at h0 ⊢
    cases hm:mayL l k with
    | false=>rw [hm] at h0;simp at h0
    | true =>
     rw [hm,if_pos rfl] at h0
     rw [if_pos rfl]
     exact ih (k+1) (by omega) (hok.snoc hm) h0
  obtain⟨q1,q2⟩:=key l.length 0 (by omega) (okTo_zero l) h
  exact⟨q1,h1,q2⟩
 ·rw [if_pos h1] at h;exact absurd h h1
theorem idsA_range {x:InstT} (h:InstOk x):∀ id∈idsI x,0≤id∧id<4294967296:=by
 obtain⟨_,_,h1,h2,_,_,h3,_⟩:=h
 intro id hid
 unfold idsI idsTo at hid
 rw [List.take_length] at hid
 rcases List.mem_append.1 hid with h | h
 ·split at h
  ·cases h
  ·rw [List.mem_singleton] at h;subst h;exact⟨h1,h2⟩
 ·obtain⟨y,hy,hi⟩:=List.mem_flatMap.1 h
  obtain⟨j,hj,rfl⟩:=List.getElem_of_mem hy
  have hk:=h3 j hj
  rw [show nthA x.2.2.2 j=x.2.2.2[j] by simp [nthA,List.getD,hj]] at hk
  unfold idsA at hi
  split at hi
  ·rw [List.mem_singleton] at hi;subst hi;exact⟨hk.2.2.1,hk.2.2.2.1⟩
  ·cases hi
def aheadJ (l:List InstT) (k j:Nat):Bool:=decide (partI (nthI l k)=7) && !allMade l k ((idsI (nthI l k)).take j)
theorem allMade_snoc (l:List InstT) (k:Nat) (zs:List Int) (j:Nat) (hj:j<zs.length):allMade l k (zs.take (j+1))=(allMade l k (zs.take j) && (makT l k (nth zs j)).isSome):=by
 unfold allMade
 rw [List.take_add_one,List.all_append,List.getElem?_eq_getElem hj]
 simp [nth,List.getD,hj]
theorem fault_first {l:List InstT} {k:Nat} (h:(makT l k (nthI l k).2.2.1).isSome=true):faultAt l k=90:=by unfold faultAt;rw [if_pos h]
theorem allMade_false {l:List InstT} {k:Nat} {zs:List Int} {j:Nat} (hj:j<zs.length) (h:(makT l k (nth zs j)).isSome=false):allMade l k zs=false:=by
 unfold allMade
 rw [List.all_eq_false]
 refine⟨nth zs j,?_,by rw [h];simp⟩
 simp only [nth,List.getD,List.getElem?_eq_getElem hj]
 exact List.getElem_mem hj
theorem fault_unknown {l:List InstT} {k j:Nat} (h:(makT l k (nthI l k).2.2.1).isSome=false) (hj:j<(idsI (nthI l k)).length) (hn:(makT l l.length (nth (idsI (nthI l k)) j)).isSome=false):faultAt l k=91:=by
 unfold faultAt;rw [if_neg (by rw [h];simp),if_pos (allMade_false hj hn)]
theorem faultAt_end {l:List InstT} {k:Nat} (h:(makT l k (nthI l k).2.2.1).isSome=false) (hall:allMade l l.length ((idsI (nthI l k)).take (idsI (nthI l k)).length)=true):faultAt l k=if aheadJ l k (idsI (nthI l k)).length=true then 92 else 0:=by
 rw [List.take_length] at hall
 unfold faultAt aheadJ
 rw [if_neg (by rw [h];simp),if_neg (by rw [hall];simp),List.take_length]
 by_cases h7:partI (nthI l k)=7 <;> cases allMade l k (idsI (nthI l k)) <;> simp [h7]
end Go.Proofs.YtlcaedibmlidlaaGreat
