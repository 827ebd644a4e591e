/-
  Texts in one: LayoutCheck, LayoutParts, IdsCheck.
-/
import Derived.Test.YtoebhgpciinkgaaGreatDoorB14
import Derived.Maps.OwnOps
namespace Go.Proofs.YtoebhgpciinkgaaGreatDoor
open Go.RowKit
set_option linter.unusedVariables false
set_option linter.unusedSimpArgs false
set_option maxRecDepth 10000
theorem kept_walk (w W0 w1:World) (hb0:Below w.heap.size w W0) (hb1:Below W0.heap.size W0 w1) (ins fv:Value) (ps:Nat→Int) (k pt kd e1 e2:Int) :
  let W2:=(w1.alloc (.cells #[.slice none 0 0,.int .i64 0,.int .i64 0,.int .i64 0,.int .i64 0,.int .i64 0,.int .i64 0,.int .i64 0,.int .i64 0,.int .i64 0,.int .i64 0,.int .i64 0,.int .i64 0,.int .i64 0,.int .i64 0,.int .i64 0,.int .i64 0,.int .i64 0,.int .i64 0,.int .i64 0,.int .i64 0,.slice none 0 0,.int .i64 0,.int .u8 0,.int .u16 0] 133)).alloc (.cells #[.int .i64 0,.int .i64 0] 30)
  let X:=W2.setCells w1.heap.size 0 [ins,.int .i64 (ps 0),.int .i64 (ps 1),.int .i64 (ps 2),.int .i64 (ps 3),.int .i64 (ps 4),.int .i64 (ps 5),.int .i64 (ps 6),.int .i64 (ps 7),.int .i64 (ps 8),.int .i64 (ps 9),.int .i64 (ps 10),.int .i64 (ps 11),.int .i64 (ps 12),.int .i64 (ps 13),.int .i64 (ps 14),.int .i64 (ps 15),.int .i64 (ps 16),.int .i64 (ps 17),.int .i64 (ps 18),.int .i64 (ps 19),fv,.int .i64 k,.int .u8 pt,.int .u16 kd]
  W2.there w1.heap.size 0 25∧X.heap[w1.heap.size]?=some (.cells #[ins,.int .i64 (ps 0),.int .i64 (ps 1),.int .i64 (ps 2),.int .i64 (ps 3),.int .i64 (ps 4),.int .i64 (ps 5),.int .i64 (ps 6),.int .i64 (ps 7),.int .i64 (ps 8),.int .i64 (ps 9),.int .i64 (ps 10),.int .i64 (ps 11),.int .i64 (ps 12),.int .i64 (ps 13),.int .i64 (ps 14),.int .i64 (ps 15),.int .i64 (ps 16),.int .i64 (ps 17),.int .i64 (ps 18),.int .i64 (ps 19),fv,.int .i64 k,.int .u8 pt,.int .u16 kd] 133 (0,0))∧X.heap[w1.heap.size+1]?=some (.cells #[.int .i64 0,.int .i64 0] 30 (0,0))∧Below W0.heap.size W0 X∧w1.heap.size+1<X.heap.size∧w1.grownBy X none:=by
 intro W2 X
 have h1:W2.heap[w1.heap.size]?=some (.cells #[.slice none 0 0,.int .i64 0,.int .i64 0,.int .i64 0,.int .i64 0,.int .i64 0,.int .i64 0,.int .i64 0,.int .i64 0,.int .i64 0,.int .i64 0,.int .i64 0,.int .i64 0,.int .i64 0,.int .i64 0,.int .i64 0,.int .i64 0,.int .i64 0,.int .i64 0,.int .i64 0,.int .i64 0,.slice none 0 0,.int .i64 0,.int .u8 0,.int .u16 0] 133 (0,0)):=by
  show (World.alloc _ _).heap[_]?=_
  rw [Below.heap_alloc _ _ _ (by simp)];exact heap_alloc_new w1 _
 have h2:W2.heap[w1.heap.size+1]?=some (.cells #[.int .i64 0,.int .i64 0] 30 (0,0)):=by
  have:=heap_alloc_new (w1.alloc (.cells #[.slice none 0 0,.int .i64 0,.int .i64 0,.int .i64 0,.int .i64 0,.int .i64 0,.int .i64 0,.int .i64 0,.int .i64 0,.int .i64 0,.int .i64 0,.int .i64 0,.int .i64 0,.int .i64 0,.int .i64 0,.int .i64 0,.int .i64 0,.int .i64 0,.int .i64 0,.int .i64 0,.int .i64 0,.slice none 0 0,.int .i64 0,.int .u8 0,.int .u16 0] 133)) (.cells #[.int .i64 0,.int .i64 0] 30)
  rw [World.size_alloc] at this
  exact this
 have hg:=setCells_grown w1.heap.size [ins,.int .i64 (ps 0),.int .i64 (ps 1),.int .i64 (ps 2),.int .i64 (ps 3),.int .i64 (ps 4),.int .i64 (ps 5),.int .i64 (ps 6),.int .i64 (ps 7),.int .i64 (ps 8),.int .i64 (ps 9),.int .i64 (ps 10),.int .i64 (ps 11),.int .i64 (ps 12),.int .i64 (ps 13),.int .i64 (ps 14),.int .i64 (ps 15),.int .i64 (ps 16),.int .i64 (ps 17),.int .i64 (ps 18),.int .i64 (ps 19),fv,.int .i64 k,.int .u8 pt,.int .u16 kd] 0 W2
 have hs:W2.heap.size=w1.heap.size+2:=by show (World.alloc _ _).heap.size=_;simp
 have hb2:Below w1.heap.size w1 W2:=((Below.refl _ w1).alloc (Nat.le_refl _) _).alloc (by simp) _
 have hx:w1.grownBy X none:=⟨hg.os.trans hb2.os,hg.tape.trans hb2.tape,hg.output.trans hb2.output,Nat.le_trans hb2.size hg.size,fun i hi _=>(hg.block i (by omega) (by simp;omega)).trans (hb2.block i hi)⟩
 refine⟨there_of_block h1 25 rfl,setCells_all [ins,.int .i64 (ps 0),.int .i64 (ps 1),.int .i64 (ps 2),.int .i64 (ps 3),.int .i64 (ps 4),.int .i64 (ps 5),.int .i64 (ps 6),.int .i64 (ps 7),.int .i64 (ps 8),.int .i64 (ps 9),.int .i64 (ps 10),.int .i64 (ps 11),.int .i64 (ps 12),.int .i64 (ps 13),.int .i64 (ps 14),.int .i64 (ps 15),.int .i64 (ps 16),.int .i64 (ps 17),.int .i64 (ps 18),.int .i64 (ps 19),fv,.int .i64 k,.int .u8 pt,.int .u16 kd] h1 rfl,(hg.block _ (by omega) (by simp)).trans h2,below_grown hb1 hx (fun g e=>by cases e),Nat.lt_of_lt_of_le (show w1.heap.size+1<W2.heap.size by omega) hg.size,hx⟩
def partsF (b:Int) (l:List InstT) (i:Nat):Int:=if (layE b l).1≠0 then 0 else cntP l ((i+1) / 2) l.length
def partsV (f:Nat→Int):Value:=.agg #[.int .i64 (f 0),.int .i64 (f 1),.int .i64 (f 2),.int .i64 (f 3),.int .i64 (f 4),.int .i64 (f 5),.int .i64 (f 6),.int .i64 (f 7),.int .i64 (f 8),.int .i64 (f 9),.int .i64 (f 10),.int .i64 (f 11),.int .i64 (f 12),.int .i64 (f 13),.int .i64 (f 14),.int .i64 (f 15),.int .i64 (f 16),.int .i64 (f 17),.int .i64 (f 18),.int .i64 (f 19)]
theorem partsV_congr {f g:Nat→Int} (h:∀ i,i<20→f i=g i):partsV f=partsV g:=by
 unfold partsV
 rw [h 0 (by omega),h 1 (by omega),h 2 (by omega),h 3 (by omega),h 4 (by omega),h 5 (by omega),h 6 (by omega),h 7 (by omega),h 8 (by omega),h 9 (by omega),h 10 (by omega),h 11 (by omega),h 12 (by omega),h 13 (by omega),h 14 (by omega),h 15 (by omega),h 16 (by omega),h 17 (by omega),h 18 (by omega),h 19 (by omega)]
theorem range_mid {w:World} {b t:Nat} {cs:List Value} {fr:Nat×Nat} (h:w.heap[b]?=some (.cells cs.toArray t fr)) (o n:Nat):w.rangeAt b o ((cs.drop o).take n):=fun j v hv=>by
 rw [List.getElem?_take] at hv
 split at hv
 ·rw [List.getElem?_drop] at hv
  simp [World.cell?,h,hv]
 ·cases hv
theorem yieldsC_load {P:Program} {ops:Array Oper} {C:World→Prop} {o:Oper} {a:Act} (hw:Region.wanted o (yielded ops a.tmps)=true) (ty:TypeId) (x:Operand) (ho:o.op=.load ty x)
  (b off:Nat) (hx:a.eval x=.pointer (some ⟨b,off,none⟩)) (cs:List Value) (d:TypeDesc) (hS:∀ w,C w→w.rangeAt b off cs)
  (hu:P.underlying ty=some d) (hd:d.isRow=true) (hi:(P.info? ty).map (·.size)=some cs.length):YieldsC P ops C o (.agg cs.toArray) a :=
 .inl ⟨hw,fun w hw'=>by
  unfold execOp
  simp only [ho,hx,Instr.loadAt,Instr.sureAddr,Sem.run_bind,Sem.run_pure,Result.andThen_ok,run_loadVar_mid w b off ty cs d (hS w hw') hu hd hi]⟩
set_option maxHeartbeats 8000000 in
theorem layParts_any (gen bnd:Int) (a:Option Addr) (n c:Nat) (l:List InstT) (w:World) (hv:InstsV w a l) (hok:InstsOk l) (hl:l.length=n) (hn:40 * n≤140737488351232) (g0:0≤gen) (g1:gen<4294967296) (b0:0≤bnd) (b1:bnd<4294967296) :
  Calls Tryz.prog 67 #[modV gen bnd a n c] w fun e w'=>e=.returned (.tuple #[partsV (partsF bnd l),.agg #[.int .i64 (layE bnd l).1,.int .i64 (layE bnd l).2]])∧Below w.heap.size w w':=by
 have hb0:Below w.heap.size w (((w.alloc (.cells #[.int .u32 gen,.int .u32 bnd,.slice a n c] 25)).alloc (.cells #[.int .i64 0,.int .i64 0,.int .i64 0,.int .i64 0,.int .i64 0,.int .i64 0,.int .i64 0,.int .i64 0,.int .i64 0,.int .i64 0,.int .i64 0,.int .i64 0,.int .i64 0,.int .i64 0,.int .i64 0,.int .i64 0,.int .i64 0,.int .i64 0,.int .i64 0,.int .i64 0] 108)).alloc (.cells #[.int .i64 0,.int .i64 0] 30)):=(((Below.refl _ w).alloc (Nat.le_refl _) _).alloc (by simp) _).alloc (by simp;omega) _
 have hC:=walkOver_any gen bnd a n c l _ (hv.below hb0) hok hl hn g0 g1 b0 b1
 have HZB:Hid ((((w.alloc (.cells #[.int .u32 gen,.int .u32 bnd,.slice a n c] 25)).alloc (.cells #[.int .i64 0,.int .i64 0,.int .i64 0,.int .i64 0,.int .i64 0,.int .i64 0,.int .i64 0,.int .i64 0,.int .i64 0,.int .i64 0,.int .i64 0,.int .i64 0,.int .i64 0,.int .i64 0,.int .i64 0,.int .i64 0,.int .i64 0,.int .i64 0,.int .i64 0,.int .i64 0] 108)).alloc (.cells #[.int .i64 0,.int .i64 0] 30)).heap[w.heap.size+1]?=some (.cells #[.int .i64 0,.int .i64 0,.int .i64 0,.int .i64 0,.int .i64 0,.int .i64 0,.int .i64 0,.int .i64 0,.int .i64 0,.int .i64 0,.int .i64 0,.int .i64 0,.int .i64 0,.int .i64 0,.int .i64 0,.int .i64 0,.int .i64 0,.int .i64 0,.int .i64 0,.int .i64 0] 108 (0,0))):=by
  have:=heap_alloc_new (w.alloc (.cells #[.int .u32 gen,.int .u32 bnd,.slice a n c] 25)) (.cells #[.int .i64 0,.int .i64 0,.int .i64 0,.int .i64 0,.int .i64 0,.int .i64 0,.int .i64 0,.int .i64 0,.int .i64 0,.int .i64 0,.int .i64 0,.int .i64 0,.int .i64 0,.int .i64 0,.int .i64 0,.int .i64 0,.int .i64 0,.int .i64 0,.int .i64 0,.int .i64 0] 108)
  rw [World.size_alloc] at this
  exact (Below.heap_alloc _ _ _ (by simp)).trans this
 have HSB:Hid ((((w.alloc (.cells #[.int .u32 gen,.int .u32 bnd,.slice a n c] 25)).alloc (.cells #[.int .i64 0,.int .i64 0,.int .i64 0,.int .i64 0,.int .i64 0,.int .i64 0,.int .i64 0,.int .i64 0,.int .i64 0,.int .i64 0,.int .i64 0,.int .i64 0,.int .i64 0,.int .i64 0,.int .i64 0,.int .i64 0,.int .i64 0,.int .i64 0,.int .i64 0,.int .i64 0] 108)).alloc (.cells #[.int .i64 0,.int .i64 0] 30)).heap[w.heap.size+2]?=some (.cells #[.int .i64 0,.int .i64 0] 30 (0,0))):=by
  have:=heap_alloc_new ((w.alloc (.cells #[.int .u32 gen,.int .u32 bnd,.slice a n c] 25)).alloc (.cells #[.int .i64 0,.int .i64 0,.int .i64 0,.int .i64 0,.int .i64 0,.int .i64 0,.int .i64 0,.int .i64 0,.int .i64 0,.int .i64 0,.int .i64 0,.int .i64 0,.int .i64 0,.int .i64 0,.int .i64 0,.int .i64 0,.int .i64 0,.int .i64 0,.int .i64 0,.int .i64 0] 108)) (.cells #[.int .i64 0,.int .i64 0] 30)
  rw [World.size_alloc,World.size_alloc] at this
  exact this
 have HLT:Hid (w.heap.size+2<(((w.alloc (.cells #[.int .u32 gen,.int .u32 bnd,.slice a n c] 25)).alloc (.cells #[.int .i64 0,.int .i64 0,.int .i64 0,.int .i64 0,.int .i64 0,.int .i64 0,.int .i64 0,.int .i64 0,.int .i64 0,.int .i64 0,.int .i64 0,.int .i64 0,.int .i64 0,.int .i64 0,.int .i64 0,.int .i64 0,.int .i64 0,.int .i64 0,.int .i64 0,.int .i64 0] 108)).alloc (.cells #[.int .i64 0,.int .i64 0] 30)).heap.size):=by show _<_;simp
 have HB0:=hide hb0
 unfold WalkQ at hC
 have HPF:Hid (∀ ps:Nat→Int,((layE bnd l).1≠0∧(∀ i,ps i=0)∨(layE bnd l).1=0∧SpansE l ps)→partsV ps=partsV (partsF bnd l)):=fun ps h=>partsV_congr fun i hi=>by
  unfold partsF
  rcases h with ⟨h1,h2⟩ | ⟨h1,h2⟩
  ·rw [if_pos h1];exact h2 i
  ·rw [if_neg (by simpa using h1)];exact h2 i hi
 have HQ:Hid (∀ e w',(∃ ps:Nat→Int,((layE bnd l).1≠0∧(∀ i,ps i=0)∨(layE bnd l).1=0∧SpansE l ps)∧e=.returned (.tuple #[partsV ps,.agg #[.int .i64 (layE bnd l).1,.int .i64 (layE bnd l).2]])∧Below w.heap.size w w')→e=Ending.returned (.tuple #[partsV (partsF bnd l),.agg #[.int .i64 (layE bnd l).1,.int .i64 (layE bnd l).2]])∧Below w.heap.size w w'):=fun e w' ⟨ps,h1,h2,h3⟩=>⟨by rw [h2,HPF.out ps h1],h3⟩
 have HRET:Hid (∀ (a':Act) (Z:World) (ps:Nat→Int),slot a'.tmps 2=.pointer (some ⟨w.heap.size+1,0,none⟩)→slot a'.tmps 3=.pointer (some ⟨w.heap.size+2,0,none⟩)→a'.defers=[]→Z.heap[w.heap.size+1]?=some (.cells #[.int .i64 (ps 0),.int .i64 (ps 1),.int .i64 (ps 2),.int .i64 (ps 3),.int .i64 (ps 4),.int .i64 (ps 5),.int .i64 (ps 6),.int .i64 (ps 7),.int .i64 (ps 8),.int .i64 (ps 9),.int .i64 (ps 10),.int .i64 (ps 11),.int .i64 (ps 12),.int .i64 (ps 13),.int .i64 (ps 14),.int .i64 (ps 15),.int .i64 (ps 16),.int .i64 (ps 17),.int .i64 (ps 18),.int .i64 (ps 19)] 108 (0,0))→Z.heap[w.heap.size+2]?=some (.cells #[.int .i64 (layE bnd l).1,.int .i64 (layE bnd l).2] 30 (0,0))→Below w.heap.size w Z→((layE bnd l).1≠0∧(∀ i,ps i=0)∨(layE bnd l).1=0∧SpansE l ps) →
   bodyPost Tryz.prog Tryz.f67 (fun e w'=>e=.returned (.tuple #[partsV (partsF bnd l),.agg #[.int .i64 (layE bnd l).1,.int .i64 (layE bnd l).2]])∧Below w.heap.size w w') .ret a' Z):=by
  intro a' Z ps q2 q3 q4 q5 q6 q7 q8
  refine bodyPost_ret (v:=.tuple #[partsV ps,.agg #[.int .i64 (layE bnd l).1,.int .i64 (layE bnd l).2]]) ?_ q4 (HQ.out _ _ ⟨ps,q8,rfl,q7⟩)
  have r5:=run_loadVar_mid (P:=Tryz.prog) Z (w.heap.size+1) 0 108 [.int .i64 (ps 0),.int .i64 (ps 1),.int .i64 (ps 2),.int .i64 (ps 3),.int .i64 (ps 4),.int .i64 (ps 5),.int .i64 (ps 6),.int .i64 (ps 7),.int .i64 (ps 8),.int .i64 (ps 9),.int .i64 (ps 10),.int .i64 (ps 11),.int .i64 (ps 12),.int .i64 (ps 13),.int .i64 (ps 14),.int .i64 (ps 15),.int .i64 (ps 16),.int .i64 (ps 17),.int .i64 (ps 18),.int .i64 (ps 19)] _ (range_of_block q5) Tryz.underlying108 rfl (by kernel_rfl)
  have r6:=run_loadVar_mid (P:=Tryz.prog) Z (w.heap.size+2) 0 30 [.int .i64 (layE bnd l).1,.int .i64 (layE bnd l).2] _ (range_of_block q6) Tryz.underlying30 rfl (by kernel_rfl)
  have hG2:a'.tmps.getD 2 undef=.pointer (some ⟨w.heap.size+1,0,none⟩):=q2
  have hG3:a'.tmps.getD 3 undef=.pointer (some ⟨w.heap.size+2,0,none⟩):=q3
  simp only [results,Tryz.results67,List.mapM_toArray,List.mapM_cons,List.mapM_nil,hG2,hG3,asAddr,Sem.run_bind,Sem.run_pure,Result.andThen_ok,bind_assoc,pure_bind,Sem.run_map,map_pure,r5,r6]
  rfl
 generalize partsF bnd l=PFF at *
 generalize layE bnd l=L at *
 obtain⟨e1,e2⟩:=L
 unfold modV at *
 clear hb0 hv hok hl HPF HQ
 go_enter Tryz.func67,Tryz.ntmps67
 go_wp2_with fail
 generalize ((w.alloc (.cells #[.int .u32 gen,.int .u32 bnd,.slice a n c] 25)).alloc (.cells #[.int .i64 0,.int .i64 0,.int .i64 0,.int .i64 0,.int .i64 0,.int .i64 0,.int .i64 0,.int .i64 0,.int .i64 0,.int .i64 0,.int .i64 0,.int .i64 0,.int .i64 0,.int .i64 0,.int .i64 0,.int .i64 0,.int .i64 0,.int .i64 0,.int .i64 0,.int .i64 0] 108)).alloc (.cells #[.int .i64 0,.int .i64 0] 30)=W0 at *
 refine hC.mono ?_
 rintro e w1 ⟨ins,fv,ps,k,pt,kd,rfl,hb1,hone,hfs⟩
 have HFS:Hid (e1≠0∧(∀ i,ps i=0)∨e1=0∧SpansE l ps):=by
  rcases hfs with ⟨h1,_,h2⟩ | ⟨h1,h2,_⟩
  ·exact .inl ⟨h1,h2⟩
  ·exact .inr ⟨h1,h2⟩
 clear hC hfs
 unfold walkV
 obtain⟨k1,k2,k3,k4,k5,_⟩:=kept_walk w W0 w1 HB0.out hb1 ins fv ps k pt kd 0 0
 have HK1:=hide k1
 have HK2:=hide k2
 have HK3:=hide k3
 have HK4:=hide k4
 have HK5:=hide k5
 have hw1:W0.heap.size≤w1.heap.size:=hb1.size
 clear k1 k2 k3 k4 k5 hb1
 simp only
 go_wp2_with (with_reducible refine stopS 133 ?_)
 refine wpList_store_mid rfl 133 (.tmp 4) (.tmp 9) rfl w1.heap.size 0 #[ins,.int .i64 (ps 0),.int .i64 (ps 1),.int .i64 (ps 2),.int .i64 (ps 3),.int .i64 (ps 4),.int .i64 (ps 5),.int .i64 (ps 6),.int .i64 (ps 7),.int .i64 (ps 8),.int .i64 (ps 9),.int .i64 (ps 10),.int .i64 (ps 11),.int .i64 (ps 12),.int .i64 (ps 13),.int .i64 (ps 14),.int .i64 (ps 15),.int .i64 (ps 16),.int .i64 (ps 17),.int .i64 (ps 18),.int .i64 (ps 19),fv,.int .i64 k,.int .u8 pt,.int .u16 kd] rfl rfl HK1.out (by kernel_rfl) (by simp [hone.1,hone.2];simp [Value.oneCell']) ?_
 simp only [Act.put]
 generalize ((w1.alloc (.cells #[.slice none 0 0,.int .i64 0,.int .i64 0,.int .i64 0,.int .i64 0,.int .i64 0,.int .i64 0,.int .i64 0,.int .i64 0,.int .i64 0,.int .i64 0,.int .i64 0,.int .i64 0,.int .i64 0,.int .i64 0,.int .i64 0,.int .i64 0,.int .i64 0,.int .i64 0,.int .i64 0,.int .i64 0,.slice none 0 0,.int .i64 0,.int .u8 0,.int .u16 0] 133)).alloc (.cells #[.int .i64 0,.int .i64 0] 30)).setCells w1.heap.size 0 [ins,.int .i64 (ps 0),.int .i64 (ps 1),.int .i64 (ps 2),.int .i64 (ps 3),.int .i64 (ps 4),.int .i64 (ps 5),.int .i64 (ps 6),.int .i64 (ps 7),.int .i64 (ps 8),.int .i64 (ps 9),.int .i64 (ps 10),.int .i64 (ps 11),.int .i64 (ps 12),.int .i64 (ps 13),.int .i64 (ps 14),.int .i64 (ps 15),.int .i64 (ps 16),.int .i64 (ps 17),.int .i64 (ps 18),.int .i64 (ps 19),fv,.int .i64 k,.int .u8 pt,.int .u16 kd]=X at *
 have hl0:=HLT.out
 have hlx:=HK5.out
 have ht3:=there_of_block HK3.out 2 rfl
 refine wpList_store_mid rfl 30 (.tmp 5) (.tmp 10) rfl (w1.heap.size+1) 0 #[.int .i64 e1,.int .i64 e2] rfl rfl ht3 (by kernel_rfl) (by simp [Value.oneCell']) ?_
 simp only [Act.put]
 have hgx:=setCells_grown (w1.heap.size+1) [.int .i64 e1,.int .i64 e2] 0 X
 have HY1:Hid ((X.setCells (w1.heap.size+1) 0 [.int .i64 e1,.int .i64 e2]).heap[w1.heap.size]?=some (.cells #[ins,.int .i64 (ps 0),.int .i64 (ps 1),.int .i64 (ps 2),.int .i64 (ps 3),.int .i64 (ps 4),.int .i64 (ps 5),.int .i64 (ps 6),.int .i64 (ps 7),.int .i64 (ps 8),.int .i64 (ps 9),.int .i64 (ps 10),.int .i64 (ps 11),.int .i64 (ps 12),.int .i64 (ps 13),.int .i64 (ps 14),.int .i64 (ps 15),.int .i64 (ps 16),.int .i64 (ps 17),.int .i64 (ps 18),.int .i64 (ps 19),fv,.int .i64 k,.int .u8 pt,.int .u16 kd] 133 (0,0))):=(hgx.block _ (by omega) (by simp)).trans HK2.out
 have HY2:=hide (setCells_all [.int .i64 e1,.int .i64 e2] HK3.out rfl)
 have HY3:=hide (below_grown HK4.out hgx (fun g e=>by simp at e;omega))
 have HY4:Hid (w1.heap.size+1<(X.setCells (w1.heap.size+1) 0 [.int .i64 e1,.int .i64 e2]).heap.size):=Nat.lt_of_lt_of_le hlx hgx.size
 clear hgx ht3 HK1 HK2 HK3 HK4 HK5 hlx hone
 generalize X.setCells (w1.heap.size+1) 0 [.int .i64 e1,.int .i64 e2]=Y at *
 go_wp2_with fail
 have kz:=(HY3.out.block (w.heap.size+1) (by omega)).trans HZB.out
 have ks:=(HY3.out.block (w.heap.size+2) (by omega)).trans HSB.out
 have hsz:w.heap.size+2<Y.heap.size:=by have:=HY3.out.size;omega
 have hly:=HY4.out
 have hgy1:=setCells_grown (w.heap.size+1) [.int .i64 (ps 0),.int .i64 (ps 1),.int .i64 (ps 2),.int .i64 (ps 3),.int .i64 (ps 4),.int .i64 (ps 5),.int .i64 (ps 6),.int .i64 (ps 7),.int .i64 (ps 8),.int .i64 (ps 9),.int .i64 (ps 10),.int .i64 (ps 11),.int .i64 (ps 12),.int .i64 (ps 13),.int .i64 (ps 14),.int .i64 (ps 15),.int .i64 (ps 16),.int .i64 (ps 17),.int .i64 (ps 18),.int .i64 (ps 19)] 0 Y.drew
 have hp1:=setCells_all (w:=Y.drew) [.int .i64 (ps 0),.int .i64 (ps 1),.int .i64 (ps 2),.int .i64 (ps 3),.int .i64 (ps 4),.int .i64 (ps 5),.int .i64 (ps 6),.int .i64 (ps 7),.int .i64 (ps 8),.int .i64 (ps 9),.int .i64 (ps 10),.int .i64 (ps 11),.int .i64 (ps 12),.int .i64 (ps 13),.int .i64 (ps 14),.int .i64 (ps 15),.int .i64 (ps 16),.int .i64 (ps 17),.int .i64 (ps 18),.int .i64 (ps 19)] kz rfl
 have hgy2:=setCells_grown (w.heap.size+2) [.int .i64 e1,.int .i64 e2] 0 (Y.drew.setCells (w.heap.size+1) 0 [.int .i64 (ps 0),.int .i64 (ps 1),.int .i64 (ps 2),.int .i64 (ps 3),.int .i64 (ps 4),.int .i64 (ps 5),.int .i64 (ps 6),.int .i64 (ps 7),.int .i64 (ps 8),.int .i64 (ps 9),.int .i64 (ps 10),.int .i64 (ps 11),.int .i64 (ps 12),.int .i64 (ps 13),.int .i64 (ps 14),.int .i64 (ps 15),.int .i64 (ps 16),.int .i64 (ps 17),.int .i64 (ps 18),.int .i64 (ps 19)])
 have ks2:=(hgy1.block (w.heap.size+2) hsz (by simp)).trans ks
 have hp2:=setCells_all (w:=Y.drew.setCells (w.heap.size+1) 0 [.int .i64 (ps 0),.int .i64 (ps 1),.int .i64 (ps 2),.int .i64 (ps 3),.int .i64 (ps 4),.int .i64 (ps 5),.int .i64 (ps 6),.int .i64 (ps 7),.int .i64 (ps 8),.int .i64 (ps 9),.int .i64 (ps 10),.int .i64 (ps 11),.int .i64 (ps 12),.int .i64 (ps 13),.int .i64 (ps 14),.int .i64 (ps 15),.int .i64 (ps 16),.int .i64 (ps 17),.int .i64 (ps 18),.int .i64 (ps 19)]) [.int .i64 e1,.int .i64 e2] ks2 rfl
 have HP1:Hid (((Y.drew.setCells (w.heap.size+1) 0 [.int .i64 (ps 0),.int .i64 (ps 1),.int .i64 (ps 2),.int .i64 (ps 3),.int .i64 (ps 4),.int .i64 (ps 5),.int .i64 (ps 6),.int .i64 (ps 7),.int .i64 (ps 8),.int .i64 (ps 9),.int .i64 (ps 10),.int .i64 (ps 11),.int .i64 (ps 12),.int .i64 (ps 13),.int .i64 (ps 14),.int .i64 (ps 15),.int .i64 (ps 16),.int .i64 (ps 17),.int .i64 (ps 18),.int .i64 (ps 19)]).setCells (w.heap.size+2) 0 [.int .i64 e1,.int .i64 e2]).heap[w.heap.size+1]?=some (.cells #[.int .i64 (ps 0),.int .i64 (ps 1),.int .i64 (ps 2),.int .i64 (ps 3),.int .i64 (ps 4),.int .i64 (ps 5),.int .i64 (ps 6),.int .i64 (ps 7),.int .i64 (ps 8),.int .i64 (ps 9),.int .i64 (ps 10),.int .i64 (ps 11),.int .i64 (ps 12),.int .i64 (ps 13),.int .i64 (ps 14),.int .i64 (ps 15),.int .i64 (ps 16),.int .i64 (ps 17),.int .i64 (ps 18),.int .i64 (ps 19)] 108 (0,0))):=(hgy2.block (w.heap.size+1) (by have h2:=hgy1.size;have h3:Y.drew.heap.size=Y.heap.size:=rfl;omega) (by simp)).trans hp1
 have HP2:=hide hp2
 have HBF:=hide (below_grown (below_grown ((HB0.out.trans (HY3.out.mono HB0.out.size)).drew) hgy1 (fun g e=>by simp at e;omega)) hgy2 (fun g e=>by simp at e;omega))
 have ht1:=there_of_block (w:=Y.drew) kz 20 rfl
 have ht2:=there_of_block ks2 2 rfl
 have hC0:Y.drew.heap[w1.heap.size]?=Y.heap[w1.heap.size]?∧Y.drew.heap[w1.heap.size+1]?=Y.heap[w1.heap.size+1]?:=⟨rfl,rfl⟩
 have hC1:(Y.drew.setCells (w.heap.size+1) 0 [.int .i64 (ps 0),.int .i64 (ps 1),.int .i64 (ps 2),.int .i64 (ps 3),.int .i64 (ps 4),.int .i64 (ps 5),.int .i64 (ps 6),.int .i64 (ps 7),.int .i64 (ps 8),.int .i64 (ps 9),.int .i64 (ps 10),.int .i64 (ps 11),.int .i64 (ps 12),.int .i64 (ps 13),.int .i64 (ps 14),.int .i64 (ps 15),.int .i64 (ps 16),.int .i64 (ps 17),.int .i64 (ps 18),.int .i64 (ps 19)]).heap[w1.heap.size]?=Y.heap[w1.heap.size]?∧(Y.drew.setCells (w.heap.size+1) 0 [.int .i64 (ps 0),.int .i64 (ps 1),.int .i64 (ps 2),.int .i64 (ps 3),.int .i64 (ps 4),.int .i64 (ps 5),.int .i64 (ps 6),.int .i64 (ps 7),.int .i64 (ps 8),.int .i64 (ps 9),.int .i64 (ps 10),.int .i64 (ps 11),.int .i64 (ps 12),.int .i64 (ps 13),.int .i64 (ps 14),.int .i64 (ps 15),.int .i64 (ps 16),.int .i64 (ps 17),.int .i64 (ps 18),.int .i64 (ps 19)]).heap[w1.heap.size+1]?=Y.heap[w1.heap.size+1]?:=⟨hgy1.block _ (by show _<Y.heap.size;omega) (by simp;omega),hgy1.block _ (by show _<Y.heap.size;omega) (by simp;omega)⟩
 have hC2:((Y.drew.setCells (w.heap.size+1) 0 [.int .i64 (ps 0),.int .i64 (ps 1),.int .i64 (ps 2),.int .i64 (ps 3),.int .i64 (ps 4),.int .i64 (ps 5),.int .i64 (ps 6),.int .i64 (ps 7),.int .i64 (ps 8),.int .i64 (ps 9),.int .i64 (ps 10),.int .i64 (ps 11),.int .i64 (ps 12),.int .i64 (ps 13),.int .i64 (ps 14),.int .i64 (ps 15),.int .i64 (ps 16),.int .i64 (ps 17),.int .i64 (ps 18),.int .i64 (ps 19)]).setCells (w.heap.size+2) 0 [.int .i64 e1,.int .i64 e2]).heap[w1.heap.size]?=Y.heap[w1.heap.size]?∧((Y.drew.setCells (w.heap.size+1) 0 [.int .i64 (ps 0),.int .i64 (ps 1),.int .i64 (ps 2),.int .i64 (ps 3),.int .i64 (ps 4),.int .i64 (ps 5),.int .i64 (ps 6),.int .i64 (ps 7),.int .i64 (ps 8),.int .i64 (ps 9),.int .i64 (ps 10),.int .i64 (ps 11),.int .i64 (ps 12),.int .i64 (ps 13),.int .i64 (ps 14),.int .i64 (ps 15),.int .i64 (ps 16),.int .i64 (ps 17),.int .i64 (ps 18),.int .i64 (ps 19)]).setCells (w.heap.size+2) 0 [.int .i64 e1,.int .i64 e2]).heap[w1.heap.size+1]?=Y.heap[w1.heap.size+1]? :=
  ⟨(hgy2.block _ (by have h2:=hgy1.size;have h3:Y.drew.heap.size=Y.heap.size:=rfl;omega) (by simp;omega)).trans hC1.1,(hgy2.block _ (by have h2:=hgy1.size;have h3:Y.drew.heap.size=Y.heap.size:=rfl;omega) (by simp;omega)).trans hC1.2⟩
 have LC1:∀ w':World,(w'.heap[w1.heap.size]?=Y.heap[w1.heap.size]?∧w'.heap[w1.heap.size+1]?=Y.heap[w1.heap.size+1]?)→w'.rangeAt w1.heap.size 1 [.int .i64 (ps 0),.int .i64 (ps 1),.int .i64 (ps 2),.int .i64 (ps 3),.int .i64 (ps 4),.int .i64 (ps 5),.int .i64 (ps 6),.int .i64 (ps 7),.int .i64 (ps 8),.int .i64 (ps 9),.int .i64 (ps 10),.int .i64 (ps 11),.int .i64 (ps 12),.int .i64 (ps 13),.int .i64 (ps 14),.int .i64 (ps 15),.int .i64 (ps 16),.int .i64 (ps 17),.int .i64 (ps 18),.int .i64 (ps 19)]:=fun w' h=>range_mid (cs:=[ins,.int .i64 (ps 0),.int .i64 (ps 1),.int .i64 (ps 2),.int .i64 (ps 3),.int .i64 (ps 4),.int .i64 (ps 5),.int .i64 (ps 6),.int .i64 (ps 7),.int .i64 (ps 8),.int .i64 (ps 9),.int .i64 (ps 10),.int .i64 (ps 11),.int .i64 (ps 12),.int .i64 (ps 13),.int .i64 (ps 14),.int .i64 (ps 15),.int .i64 (ps 16),.int .i64 (ps 17),.int .i64 (ps 18),.int .i64 (ps 19),fv,.int .i64 k,.int .u8 pt,.int .u16 kd]) (h.1.trans HY1.out) 1 20
 have LC2:∀ w':World,(w'.heap[w1.heap.size]?=Y.heap[w1.heap.size]?∧w'.heap[w1.heap.size+1]?=Y.heap[w1.heap.size+1]?)→w'.rangeAt (w1.heap.size+1) 0 [.int .i64 e1,.int .i64 e2]:=fun w' h=>range_of_block (h.2.trans HY2.out)
 clear hgy1 hp1 hgy2 hp2 kz ks ks2
 have hmix:Tryz.prog.follows .mixedOrders=true:=by kernel_rfl
 refine (wpIn_wide (n:=0)).1 ?_
 refine wpIn_normal (wpIn_region_any hmix (wpAnyE_sound (C:=fun w'=>w'.heap[w1.heap.size]?=Y.heap[w1.heap.size]?∧w'.heap[w1.heap.size+1]?=Y.heap[w1.heap.size+1]?) (E:=fun i=>false) _ _ _ _ ?_))
 change wpAnyE _ _ _ _ _ _ _ _ _ _ _ (World.drew _)
 refine wpAnyE_takeD (i:=0) (some 11) (v:=.pointer (some ⟨w1.heap.size,1,none⟩)) (fun _=>trivial) (by kernel_rfl) rfl rfl (by kernel_rfl) (by kernel_rfl) (by kernel_rfl) (by kernel_rfl) (fun _ _ _ h=>by cases h.1) hC0 (Or.inl ⟨by rfl,fun w' hC=>by clear hC;go_simp⟩) ?_
 simp only [Act.put,ap1,ap2,ap3]
 refine wpAnyE_takeD (i:=1) (some 12) (v:=.agg #[.int .i64 (ps 0),.int .i64 (ps 1),.int .i64 (ps 2),.int .i64 (ps 3),.int .i64 (ps 4),.int .i64 (ps 5),.int .i64 (ps 6),.int .i64 (ps 7),.int .i64 (ps 8),.int .i64 (ps 9),.int .i64 (ps 10),.int .i64 (ps 11),.int .i64 (ps 12),.int .i64 (ps 13),.int .i64 (ps 14),.int .i64 (ps 15),.int .i64 (ps 16),.int .i64 (ps 17),.int .i64 (ps 18),.int .i64 (ps 19)]) (fun _=>trivial) (by kernel_rfl) rfl rfl (by kernel_rfl) (by kernel_rfl) (by kernel_rfl) (by kernel_rfl) (fun _ _ _ h=>by cases h.1) hC0 (yieldsC_load rfl 108 (.tmp 11) rfl w1.heap.size 1 rfl [.int .i64 (ps 0),.int .i64 (ps 1),.int .i64 (ps 2),.int .i64 (ps 3),.int .i64 (ps 4),.int .i64 (ps 5),.int .i64 (ps 6),.int .i64 (ps 7),.int .i64 (ps 8),.int .i64 (ps 9),.int .i64 (ps 10),.int .i64 (ps 11),.int .i64 (ps 12),.int .i64 (ps 13),.int .i64 (ps 14),.int .i64 (ps 15),.int .i64 (ps 16),.int .i64 (ps 17),.int .i64 (ps 18),.int .i64 (ps 19)] _ LC1 Tryz.underlying108 rfl (by kernel_rfl)) ?_
 simp only [Act.put,ap1,ap2,ap3]
 refine wpAnyE_takeD (i:=2) (some 13) (v:=.agg #[.int .i64 e1,.int .i64 e2]) (fun _=>trivial) (by kernel_rfl) rfl rfl (by kernel_rfl) (by kernel_rfl) (by kernel_rfl) (by kernel_rfl) (fun _ _ _ h=>by cases h.1) hC0 (yieldsC_load rfl 30 (.tmp 5) rfl (w1.heap.size+1) 0 rfl [.int .i64 e1,.int .i64 e2] _ LC2 Tryz.underlying30 rfl (by kernel_rfl)) ?_
 simp only [Act.put,ap1,ap2,ap3]
 refine wpAnyE_ready (rs:=[3]) (by kernel_rfl) (by simp) ?_
 refine AllE.cons rfl (fun K hK=>?_) AllE.nil
 refine stepAny_store _ (fun _=>trivial) rfl 108 (.tmp 2) (.tmp 12) rfl (w.heap.size+1) 0 #[.int .i64 (ps 0),.int .i64 (ps 1),.int .i64 (ps 2),.int .i64 (ps 3),.int .i64 (ps 4),.int .i64 (ps 5),.int .i64 (ps 6),.int .i64 (ps 7),.int .i64 (ps 8),.int .i64 (ps 9),.int .i64 (ps 10),.int .i64 (ps 11),.int .i64 (ps 12),.int .i64 (ps 13),.int .i64 (ps 14),.int .i64 (ps 15),.int .i64 (ps 16),.int .i64 (ps 17),.int .i64 (ps 18),.int .i64 (ps 19)] rfl rfl ht1 (by kernel_rfl) (by simp [Value.oneCell']) ?_
 refine hK _ _ (.inr hC1) ?_
 clear hK K
 refine wpAnyE_ready (rs:=[4]) (by kernel_rfl) (by simp) ?_
 refine AllE.cons rfl (fun K hK=>?_) AllE.nil
 refine stepAny_store _ (fun _=>trivial) rfl 30 (.tmp 3) (.tmp 13) rfl (w.heap.size+2) 0 #[.int .i64 e1,.int .i64 e2] rfl rfl ht2 (by kernel_rfl) (by simp [Value.oneCell']) ?_
 refine hK _ _ (.inr hC2) ?_
 clear hK K
 refine wpAnyE_done (by kernel_rfl) ⟨rfl,?_⟩ _
 clear ht1 ht2 hC1 hC2 hC0 LC1 LC2
 dsimp only
 generalize (Y.drew.setCells (w.heap.size+1) 0 [.int .i64 (ps 0),.int .i64 (ps 1),.int .i64 (ps 2),.int .i64 (ps 3),.int .i64 (ps 4),.int .i64 (ps 5),.int .i64 (ps 6),.int .i64 (ps 7),.int .i64 (ps 8),.int .i64 (ps 9),.int .i64 (ps 10),.int .i64 (ps 11),.int .i64 (ps 12),.int .i64 (ps 13),.int .i64 (ps 14),.int .i64 (ps 15),.int .i64 (ps 16),.int .i64 (ps 17),.int .i64 (ps 18),.int .i64 (ps 19)]).setCells (w.heap.size+2) 0 [.int .i64 e1,.int .i64 e2]=Z at *
 rw [then_normalW]
 go_wp2_with fail
 exact HRET.out _ Z ps rfl rfl rfl HP1.out HP2.out HBF.out HFS.out
theorem lookU_run {w:World} (t:TypeId) (E:TypeId) (q:IntKind) (ht:Tryz.prog.underlying t=some (.map 22 E)) (he:Tryz.prog.underlying E=some (.int q)) (hz:(zeroValue E).run Tryz.prog w=.ok (.int q 0) w) (b n:Nat) (f:Int→Option Int) (h:MapU w E q b n f) (key:Int) (k0:0≤key) (k1:key<4294967296) :
  (Instr.lookup t (.map (some b)) (.int .u32 key) false).run Tryz.prog w=.ok (.int q ((f key).getD 0)) w:=by
 obtain⟨D,h1,h2,h3⟩:=h
 obtain⟨c,hrun,hat,hwc⟩:=h1.lookup_int keyU ht he hz (keyU_of k0 k1)
 rw [h3] at hat
 simp only [DataW.lit.injEq,Lit.int.injEq,true_and] at hat
 rw [hrun,hat]
def SpotB (W:World) (B:Nat) (e p:Int):Prop:=W.heap[B]?=some (.cells #[.int .i64 e,.int .i64 p] 30 (0,0))
theorem SpotB.put {W:World} {B:Nat} {e p:Int} (h:SpotB W B e p) (e' p':Int):SpotB ((W.setCell ⟨B,0,none⟩ (.int .i64 e')).setCell ⟨B,1,none⟩ (.int .i64 p')) B e' p':=setCells_all (w:=W) [.int .i64 e',.int .i64 p'] h rfl
theorem KeepB.two {B:Nat} (w:World) (u v:Value):KeepB B w ((w.setCell ⟨B,0,none⟩ u).setCell ⟨B,1,none⟩ v):=(KeepB.set w 0 u).trans (KeepB.set _ 1 v)
set_option maxHeartbeats 8000000 in
theorem firstFault_any (a:Option Addr) (n c:Nat) (l:List InstT) (w:World) (hv:InstsV w a l) (hok:InstsOk l) (hl:l.length=n) (hn:n≤1048576) (hto:okTo l n) :
  Calls Tryz.prog 68 #[.slice a n c,.agg #[.int .i64 ((cntP l 7 n:Nat):Int),.int .i64 ((cntP l 8 n:Nat):Int)]] w fun e w'=>e=.returned (.agg #[.int .i64 (idsF l n 0).1,.int .i64 ((idsF l n 0).2:Int)])∧Below w.heap.size w w':=by
 obtain⟨L,hL⟩:∃ L,L=idsF l n 0:=⟨_,rfl⟩
 rw [← hL]
 have HLL:=hide hL
 have hb0:Below w.heap.size w ((w.alloc (.cells #[.int .i64 ((cntP l 7 n:Nat):Int),.int .i64 ((cntP l 8 n:Nat):Int)] 107)).alloc (.cells #[.int .i64 0,.int .i64 0] 30)):=((Below.refl _ w).alloc (Nat.le_refl _) _).alloc (by simp) _
 have hMk:=makersOf_any a n c l _ (hv.below hb0) hok hl (by omega)
 have HSB:Hid (((w.alloc (.cells #[.int .i64 ((cntP l 7 n:Nat):Int),.int .i64 ((cntP l 8 n:Nat):Int)] 107)).alloc (.cells #[.int .i64 0,.int .i64 0] 30)).heap[w.heap.size]?=some (.cells #[.int .i64 ((cntP l 7 n:Nat):Int),.int .i64 ((cntP l 8 n:Nat):Int)] 107 (0,0))):=by
  show _=_
  rw [Below.heap_alloc _ _ _ (by simp)];exact heap_alloc_new w _
 have HRB:Hid (((w.alloc (.cells #[.int .i64 ((cntP l 7 n:Nat):Int),.int .i64 ((cntP l 8 n:Nat):Int)] 107)).alloc (.cells #[.int .i64 0,.int .i64 0] 30)).heap[w.heap.size+1]?=some (.cells #[.int .i64 0,.int .i64 0] 30 (0,0))):=by
  have:=heap_alloc_new (w.alloc (.cells #[.int .i64 ((cntP l 7 n:Nat):Int),.int .i64 ((cntP l 8 n:Nat):Int)] 107)) (.cells #[.int .i64 0,.int .i64 0] 30)
  rw [World.size_alloc] at this
  exact this
 have HLT:Hid (w.heap.size+1<((w.alloc (.cells #[.int .i64 ((cntP l 7 n:Nat):Int),.int .i64 ((cntP l 8 n:Nat):Int)] 107)).alloc (.cells #[.int .i64 0,.int .i64 0] 30)).heap.size):=by show _<_;simp
 have HB0:=hide hb0
 have HV:=hide hv
 have HOK:=hide hok
 have HL:=hide hl
 have HTO:=hide hto
 have HTT:=hide Tryz.underlying137
 have HTE:=hide Tryz.underlying3
 have HC78:Hid (∀ k,k<n→((decide (((cntP l 7 n:Nat):Int)≤(k:Int)) && decide ((k:Int)<((cntP l 8 n:Nat):Int)))=decide (partI (nthI l k)=7))):=fun k hk=>by
  have h7:=span_part (p:=7) hto hk
  have h8:=span_part (p:=8) hto hk
  rw [Bool.eq_iff_iff]
  simp only [Bool.and_eq_true,decide_eq_true_eq]
  constructor
  ·rintro⟨q1,q2⟩
   have:=h7.1 (by omega)
   rcases Int.lt_or_le (partI (nthI l k)) 8 with q | q
   ·omega
   ·have:=h8.2 (by omega);omega
  ·intro q
   refine⟨by have:=h7.2 (by omega);omega,?_⟩
   rcases Nat.lt_or_ge k (cntP l 8 n) with q2 | q2
   ·omega
   ·have:=h8.1 q2;omega
 have HRET:Hid (∀ (a':Act) (Z:World),slot a'.tmps 4=.pointer (some ⟨w.heap.size+1,0,none⟩)→a'.defers=[]→SpotB Z (w.heap.size+1) L.1 (L.2:Int)→Below w.heap.size w Z→bodyPost Tryz.prog Tryz.f68 (fun e w'=>e=.returned (.agg #[.int .i64 L.1,.int .i64 (L.2:Int)])∧Below w.heap.size w w') .ret a' Z):=by
  intro a' Z q2 q3 q4 q5
  have r6:=run_loadVar_mid (P:=Tryz.prog) Z (w.heap.size+1) 0 30 [.int .i64 L.1,.int .i64 (L.2:Int)] _ (range_of_block q4) Tryz.underlying30 rfl (by kernel_rfl)
  refine bodyPost_ret (v:=.agg #[.int .i64 L.1,.int .i64 (L.2:Int)]) ?_ q3 ⟨rfl,q5⟩
  have hG2:a'.tmps.getD 4 undef=.pointer (some ⟨w.heap.size+1,0,none⟩):=q2
  simp only [results,Tryz.results68,List.mapM_toArray,List.mapM_cons,List.mapM_nil,hG2,asAddr,Sem.run_bind,Sem.run_pure,Result.andThen_ok,bind_assoc,pure_bind,Sem.run_map,map_pure,r6]
  rfl
 generalize ((cntP l 7 n:Nat):Int)=c7 at *
 generalize ((cntP l 8 n:Nat):Int)=c8 at *
 clear hb0 hv hok hl hto hL
 go_enter Tryz.func68,Tryz.ntmps68
 go_wp2_with fail
 go_step3
 go_wp2_with fail
 generalize (w.alloc (.cells #[.int .i64 c7,.int .i64 c8] 107)).alloc (.cells #[.int .i64 0,.int .i64 0] 30)=W0 at *
 refine hMk.mono ?_
 rintro e w1 ⟨mb,rfl,hmb,hMU,hb1⟩
 have hba1:Below w1.heap.size w1 (w1.alloc (.cells #[.int .i64 0,.int .i64 0] 30)):=(Below.refl _ w1).alloc (Nat.le_refl _) _
 have HM1:=hide (hMU.below hba1)
 have HB1:=hide (hb1.trans (hba1.mono hb1.size))
 have HWB:Hid (SpotB (w1.alloc (.cells #[.int .i64 0,.int .i64 0] 30)) w1.heap.size 0 0):=heap_alloc_new w1 _
 have HS1:Hid (W0.heap.size≤w1.heap.size):=hb1.size
 have HSX:Hid (w1.heap.size<(w1.alloc (.cells #[.int .i64 0,.int .i64 0] 30)).heap.size):=by show _<_;simp
 have HMBS:Hid (mb<w1.heap.size):=hMU.lt
 clear hMk hMU hb1 hba1
 go_wp2_with fail
 go_step3
 go_wp2_with fail
 generalize w1.alloc (.cells #[.int .i64 0,.int .i64 0] 30)=W1 at *
 generalize w1.heap.size=S at *
 have hlt0:=HLT.out
 have hs1:=HS1.out
 have hsx:=HSX.out
 have HBW1:=hide (HB0.out.trans (HB1.out.mono HB0.out.size))
 -- the end, with what the box says
 have HEND:Hid (∀ (Z:World) (x y:Int),KeepB S W1 Z→L=(x,y.toNat)→0≤y→SpotB ((Z.setCell ⟨w.heap.size+1,0,none⟩ (.int .i64 x)).setCell ⟨w.heap.size+1,1,none⟩ (.int .i64 y)) (w.heap.size+1) L.1 (L.2:Int)∧Below w.heap.size w ((Z.setCell ⟨w.heap.size+1,0,none⟩ (.int .i64 x)).setCell ⟨w.heap.size+1,1,none⟩ (.int .i64 y))):=fun Z x y hZ hLx hy=>by
  have k1:SpotB Z (w.heap.size+1) 0 0:=(hZ.block _ (by have:=HB1.out.size;omega) (by omega)).trans ((HB1.out.block _ hlt0).trans HRB.out)
  refine⟨?_,below_grown (KeepB.low HBW1.out (show w.heap.size≤S by omega) hZ) (setCells_grown (w.heap.size+1) [.int .i64 x,.int .i64 y] 0 Z) (fun g e=>by simp at e;omega)⟩
  have:=k1.put x y
  rw [hLx]
  simp only [Int.toNat_of_nonneg hy]
  exact this
 go_loopw [17] (fun i wr=>∃ k:Nat,k≤n∧i=.int .i64 k∧(∀ i,i<k→faultAt l i=0)∧Below W1.heap.size W1 wr) (fun i _=>n - (intOf i).toNat)
 case atStart=>exact⟨0,Nat.zero_le _,rfl,fun i hi=>by omega,Below.refl _ _⟩
 case round =>
  obtain⟨k,hk,rfl,hgood,hbr⟩:=hrel
  rename World=>wo
  have HGOOD:=hide hgood
  have HBO:=hide hbr
  have hwS:SpotB wo S 0 0:=(hbr.block S hsx).trans HWB.out
  have hSo:S<wo.heap.size:=Nat.lt_of_lt_of_le hsx hbr.size
  have hwo:w.heap.size+1<wo.heap.size:=by have:=HB1.out.size;have:=hbr.size;omega
  obtain⟨cs0,fs0⟩:=one_block hwS
  have t0:=cs0 0
  have t1:=cs0 1
  have r1k:SpotB wo (w.heap.size+1) 0 0:=(hbr.block _ (by have:=HB1.out.size;omega)).trans ((HB1.out.block _ hlt0).trans HRB.out)
  obtain⟨cr0,fr0⟩:=one_block r1k
  have u0:=cr0 0
  have u1:=cr0 1
  clear cs0 cr0 hgood
  by_cases hlt:k<n
  ·have hk0:(0:Int)≤(k:Int):=by omega
   have hki:(k:Int)<(n:Int):=by omega
   have hbw:Below w.heap.size w wo:=HBW1.out.trans (hbr.mono HBW1.out.size)
   obtain⟨g1,o1,ai,ci,na,ha,hg1,p1,p2,p3,p4,p5,p6,p7⟩:=HV.out.below hbw k (by rw [HL.out];exact hlt)
   have hbd:Below wo.heap.size wo (wo.alloc (.cells #[.int .u16 (nthI l k).1,.int .u32 (nthI l k).2.1,.int .u32 (nthI l k).2.2.1,.slice ai na ci] 71)):=(Below.refl _ wo).alloc (Nat.le_refl _) _
   have hIds:=codeIds_any (nthI l k) ai na ci _ (p6.below hbd) p5 (by have:=(HOK.out k (by rw [HL.out];exact hlt)).2.2.2.2.2.2.2;rw [p5] at this;exact this)
   unfold instV at hIds
   have HBD:=hide hbd
   have HNA:Hid ((nthI l k).2.2.2.length=na):=p5
   have hna:24 * na≤140737488351232:=by have:=(HOK.out k (by rw [HL.out];exact hlt)).2.2.2.2.2.2.2;rw [p5] at this;exact this
   have HSW2:Hid ((wo.alloc (.cells #[.int .u16 (nthI l k).1,.int .u32 (nthI l k).2.1,.int .u32 (nthI l k).2.2.1,.slice ai na ci] 71)).heap.size=wo.heap.size+1):=by show _=_;simp
   have hrr:0≤(nthI l k).2.2.1∧(nthI l k).2.2.1<4294967296:=by have:=(HOK.out k (by rw [HL.out];exact hlt));exact⟨this.2.2.2.2.1,this.2.2.2.2.2.1⟩
   have hLk:=lookU_run 137 3 .i64 HTT.out HTE.out (zeroI64 _) mb n (makT l n) ((HM1.out.below HBO.out).below hbd) (nthI l k).2.2.1 hrr.1 hrr.2
   have HMS:Hid (mb<S):=HMBS.out
   have hmS:=HMS.out
   subst ha
   clear hbr hbd hbw p5 p6 p7 hrr
   by_cases hz:(nthI l k).2.2.1=0
   ·have hzb:((nthI l k).2.2.1 != 0)=false:=by simp [hz]
    have HNF:Hid ((makT l k (nthI l k).2.2.1).isSome=false):=by show _=_;rw [hz,makT_zero];rfl
    clear hLk hz
    go_wp2_with fail
    refine hIds.mono ?_
    rintro e w3 ⟨hb3,az,m,cz,rfl,hm3,hown3⟩
    have hVz:=View.ofOwn hown3 hm3
    have HZ1:Hid (∀ g off,az=some ⟨g,off,none⟩→S<g):=fun g off e=>by
     subst e
     have:=(hown3.lt g rfl).1
     rw [HSW2.out] at this
     omega
    have HVZ:=hide hVz
    have HM3:=hide hm3
    have HB3:=hide (HBD.out.trans (hb3.mono HBD.out.size))
    have hmn:m≤1+na:=by
     have h1:(idsI (nthI l k)).length≤1+(nthI l k).2.2.2.length:=by have:=idsTo_len (nthI l k).2.1 (nthI l k).2.2.2 (nthI l k).2.2.2.length;unfold idsI;omega
     have h2:=HNA.out
     omega
    have HS3:Hid (SpotB w3 S 0 0):=(HB3.out.block S hSo).trans hwS
    have hs3:wo.heap.size≤w3.heap.size:=HB3.out.size
    have HBOX:Hid (w3.heap[w.heap.size]?=some (.cells #[.int .i64 c7,.int .i64 c8] 107 (0,0))):=(HB3.out.block _ (by omega)).trans ((HBO.out.block _ (by have:=HB1.out.size;omega)).trans ((HB1.out.block _ (by omega)).trans HSB.out))
    have HRES3:Hid (SpotB w3 (w.heap.size+1) 0 0):=(HB3.out.block _ (by omega)).trans r1k
    have HMU3:=hide ((HM1.out.below HBO.out).below HB3.out)
    clear hIds hb3 hown3 hVz hm3 p1 p2 p3 p4 hzb
    generalize hzs:idsI (nthI l k)=zs at *
    have HZS:=hide hzs
    have HRNG:Hid (∀ j,j<m→0≤nth zs j∧nth zs j<4294967296):=fun j hj=>by
     have hjl:j<zs.length:=by rw [HM3.out];exact hj
     refine idsA_range (HOK.out k (by rw [HL.out];exact hlt)) (nth zs j) ?_
     rw [HZS.out]
     simp only [nth,List.getD,List.getElem?_eq_getElem hjl]
     exact List.getElem_mem hjl
    clear hzs
    go_wp2_with fail
    go_loopw [38] (fun i wz=>∃ j:Nat,j≤m∧i=.int .i64 j∧allMade l n (zs.take j)=true∧KeepB S w3 wz∧SpotB wz S (if aheadJ l k j=true then 92 else 0) (if aheadJ l k j=true then (k:Int) else 0)) (fun i _=>m - (intOf i).toNat)
    case atStart=>exact⟨0,Nat.zero_le _,rfl,by simp [allMade],KeepB.refl _ _,by rw [show aheadJ l k 0=false by unfold aheadJ allMade;simp];exact HS3.out⟩
    case round =>
     obtain⟨j,hj,rfl,hall,hkp,hsp⟩:=hrel
     have HALL:=hide hall
     have HKP:=hide hkp
     have HSPT:=hide hsp
     have hSr:S<wr.heap.size:=Nat.lt_of_lt_of_le (by omega) hkp.size
     have hwr1:w.heap.size+1<wr.heap.size:=by have:=hkp.size;omega
     have hne1:w.heap.size+1≠S:=by omega
     have HKW:Hid (KeepB S W1 wr):=((KeepB.of_below HBO.out).trans (.of_below HB3.out)).trans hkp
     have hres:SpotB wr (w.heap.size+1) 0 0:=(hkp.block _ (by omega) (by omega)).trans HRES3.out
     obtain⟨cr0,fr0⟩:=one_block hres
     have u0:=cr0 0
     have u1:=cr0 1
     obtain⟨cq0,fq0⟩:=one_block hsp
     have q0:=cq0 0
     have q1:=cq0 1
     clear cr0 cq0 hres hall
     by_cases hjm:j<m
     ·have hj0:(0:Int)≤(j:Int):=by omega
      have hji:(j:Int)<(m:Int):=by omega
      obtain⟨gz,oz,rfl,hgz,hcz⟩:=HVZ.out j (by rw [HM3.out];exact hjm)
      have hgS:=HZ1.out gz oz rfl
      have hcz':wr.cell? ⟨gz,oz+j,none⟩=some (.int .u32 (nth zs j)):=(World.cell?_of_block (a:=⟨gz,oz+j,none⟩) (hkp.block gz hgz (by omega))).trans hcz
      have hgr:gz<wr.heap.size:=Nat.lt_of_lt_of_le hgz hkp.size
      have hMr:Hid (MapU wr 3 .i64 mb n (makT l n)):=HMU3.out.block (hkp.block mb (by omega) (by omega))
      obtain⟨hr0,hr1⟩:=HRNG.out j hjm
      obtain⟨cb,_⟩:=one_block ((hkp.block w.heap.size (by omega) (by omega)).trans HBOX.out)
      have b0:=cb 0
      have b1:=cb 1
      have HAN:Hid (aheadJ l k (j+1)=(decide (partI (nthI l k)=7) && !(allMade l k (zs.take j) && (makT l k (nth zs j)).isSome))):=by
       show _=_
       unfold aheadJ
       rw [HZS.out,allMade_snoc l k zs j (by rw [HM3.out];exact hjm)]
      have HAJ:Hid (aheadJ l k j=(decide (partI (nthI l k)=7) && !allMade l k (zs.take j))):=by show _=_;unfold aheadJ;rw [HZS.out]
      have HALLN:Hid (allMade l n (zs.take (j+1))=(allMade l n (zs.take j) && (makT l n (nth zs j)).isSome)):=allMade_snoc l n zs j (by rw [HM3.out];exact hjm)
      clear hkp hsp cb hcz hgz
      cases hmt:makT l n (nth zs j) with
      | none =>
       have HLE:Hid (L=(91,((k:Int)).toNat)):=by
        have hf:faultAt l k=91:=fault_unknown HNF.out (j:=j) (by rw [HZS.out,HM3.out];exact hjm) (by rw [HZS.out,HL.out,hmt];rfl)
        show _=_
        rw [HLL.out,← HL.out,idsF_at (by rw [HL.out];exact hlt) HGOOD.out (by rw [hf];decide),hf,Int.toNat_natCast]
       have HK5:=hide (HKW.out.trans (KeepB.two wr (.int .i64 91) (.int .i64 k)))
       go_wp2_with (at_lookup;refine wpList_lookU_ok rfl _ _ 137 rfl 3 .i64 HTT.out HTE.out (zeroI64 _) mb n (makT l n) rfl hMr.out (nth zs j) rfl hr0 hr1 ?_;rw [hmt,Option.getD_none,Option.isSome_none])
       obtain⟨f1,f2⟩:=HEND.out ((wr.setCell ⟨S,0,none⟩ (.int .i64 91)).setCell ⟨S,1,none⟩ (.int .i64 k)) 91 k HK5.out HLE.out hk0
       exact HRET.out _ _ rfl rfl f1 f2
      | some p =>
       have hisk:=makT_ahead (l:=l) (k:=k) (show k≤n by omega) hmt
       have HALL2:Hid (allMade l n (zs.take (j+1))=true):=by show _=_;rw [HALLN.out,HALL.out,hmt];rfl
       have hC78:=HC78.out k hlt
       by_cases hkp2:(k:Int)≤p
       ·have hd1:decide ((k:Int)≤p)=true:=by simpa using hkp2
        have hno:(makT l k (nth zs j)).isSome=false:=by rw [hisk];simp;omega
        by_cases h7:partI (nthI l k)=7
        ·rw [show decide (partI (nthI l k)=7)=true by simpa using h7,Bool.and_eq_true] at hC78
         obtain⟨hc7,hc8⟩:=hC78
         have HA1:Hid (aheadJ l k (j+1)=true):=by show _=_;rw [HAN.out,hno];simp [h7]
         have HSP2:=hide (HSPT.out.put 92 k)
         have HK2:=hide (HKP.out.trans (KeepB.two wr (.int .i64 92) (.int .i64 k)))
         generalize (if aheadJ l k j=true then (92:Int) else 0)=x0 at *
         generalize (if aheadJ l k j=true then (k:Int) else 0)=x1 at *
         clear hkp2 hno h7 hisk
         go_wp2_with (at_lookup;refine wpList_lookU_ok rfl _ _ 137 rfl 3 .i64 HTT.out HTE.out (zeroI64 _) mb n (makT l n) rfl hMr.out (nth zs j) rfl hr0 hr1 ?_;rw [hmt,Option.getD_some,Option.isSome_some])
         go_roundw
         case rel=>exact⟨j+1,by omega,by go_num,HALL2.out,HK2.out,by rw [HA1.out];exact HSP2.out⟩
         case measure=>simp [intOf];omega
        ·rw [show decide (partI (nthI l k)=7)=false by simpa using h7] at hC78
         have HA1:Hid (aheadJ l k (j+1)=aheadJ l k j):=by show _=_;rw [HAN.out,HAJ.out];simp [h7]
         have HSP2:Hid (SpotB wr S (if aheadJ l k (j+1)=true then 92 else 0) (if aheadJ l k (j+1)=true then (k:Int) else 0)):=by show SpotB _ _ _ _;rw [HA1.out];exact HSPT.out
         generalize (if aheadJ l k j=true then (92:Int) else 0)=x0 at *
         generalize (if aheadJ l k j=true then (k:Int) else 0)=x1 at *
         clear hkp2 hno h7 hisk
         cases hc7:decide (c7≤(k:Int)) with
         | true =>
          rw [hc7,Bool.true_and] at hC78
          go_wp2_with (at_lookup;refine wpList_lookU_ok rfl _ _ 137 rfl 3 .i64 HTT.out HTE.out (zeroI64 _) mb n (makT l n) rfl hMr.out (nth zs j) rfl hr0 hr1 ?_;rw [hmt,Option.getD_some,Option.isSome_some])
          go_roundw
          case rel=>exact⟨j+1,by omega,by go_num,HALL2.out,HKP.out,HSP2.out⟩
          case measure=>simp [intOf];omega
         | false =>
          clear hC78
          go_wp2_with (at_lookup;refine wpList_lookU_ok rfl _ _ 137 rfl 3 .i64 HTT.out HTE.out (zeroI64 _) mb n (makT l n) rfl hMr.out (nth zs j) rfl hr0 hr1 ?_;rw [hmt,Option.getD_some,Option.isSome_some])
          go_roundw
          case rel=>exact⟨j+1,by omega,by go_num,HALL2.out,HKP.out,HSP2.out⟩
          case measure=>simp [intOf];omega
       ·have hd1:decide ((k:Int)≤p)=false:=by simpa using hkp2
        have hyes:(makT l k (nth zs j)).isSome=true:=by rw [hisk];simp;omega
        have HA1:Hid (aheadJ l k (j+1)=aheadJ l k j):=by show _=_;rw [HAN.out,HAJ.out,hyes,Bool.and_true]
        have HSP2:Hid (SpotB wr S (if aheadJ l k (j+1)=true then 92 else 0) (if aheadJ l k (j+1)=true then (k:Int) else 0)):=by show SpotB _ _ _ _;rw [HA1.out];exact HSPT.out
        generalize (if aheadJ l k j=true then (92:Int) else 0)=x0 at *
        generalize (if aheadJ l k j=true then (k:Int) else 0)=x1 at *
        clear hkp2 hyes hisk hC78
        go_wp2_with (at_lookup;refine wpList_lookU_ok rfl _ _ 137 rfl 3 .i64 HTT.out HTE.out (zeroI64 _) mb n (makT l n) rfl hMr.out (nth zs j) rfl hr0 hr1 ?_;rw [hmt,Option.getD_some,Option.isSome_some])
        go_roundw
        case rel=>exact⟨j+1,by omega,by go_num,HALL2.out,HKP.out,HSP2.out⟩
        case measure=>simp [intOf];omega
     ·obtain rfl:j=m:=by omega
      have hfe:faultAt l k=if aheadJ l k j=true then 92 else 0:=by
       have:=faultAt_end (l:=l) (k:=k) HNF.out (by rw [HZS.out,HM3.out,HL.out];exact HALL.out)
       rw [HZS.out,HM3.out] at this
       exact this
      cases haj:aheadJ l k j with
      | true =>
       rw [haj,if_pos rfl] at hfe
       have hsp2:SpotB wr S 92 (k:Int):=by have h:=hsp;rw [haj] at h;exact h
       clear q0 q1 fq0
       obtain⟨cq0,fq0⟩:=one_block hsp2
       have q0:=cq0 0
       have q1:=cq0 1
       clear cq0 hsp2
       have HLE:Hid (L=(92,((k:Int)).toNat)):=by
        show _=_
        rw [HLL.out,← HL.out,idsF_at (by rw [HL.out];exact hlt) HGOOD.out (by rw [hfe];decide),hfe,Int.toNat_natCast]
       obtain⟨f1,f2⟩:=HEND.out wr 92 k HKW.out HLE.out hk0
       have F1:=hide f1
       have F2:=hide f2
       clear f1 f2 hkp hsp haj hfe
       go_wp2_with fail
       exact HRET.out _ _ rfl rfl F1.out F2.out
      | false =>
       rw [haj] at hfe hsp
       have hsp0:SpotB wr S 0 0:=hsp
       clear q0 q1 fq0
       obtain⟨cq0,fq0⟩:=one_block hsp0
       have q0:=cq0 0
       have q1:=cq0 1
       clear cq0
       have HG2:Hid (∀ i,i<k+1→faultAt l i=0):=fun i hi=>by
        by_cases e:i=k
        ·rw [e];exact hfe
        ·exact HGOOD.out i (by omega)
       have HBW:Hid (Below W1.heap.size W1 wr):=by
        have h:=HKW.out
        refine⟨h.os,h.tape,h.output,h.size,fun i hi=>?_⟩
        by_cases e:i=S
        ·subst e;exact hsp0.trans HWB.out.symm
        ·exact h.block i hi e
       clear hkp hsp haj hfe hsp0
       go_wp2_with fail
       go_roundw
       case rel=>exact⟨k+1,by omega,by go_num,HG2.out,HBW.out⟩
       case measure=>simp [intOf];omega
   ·have hzb:((nthI l k).2.2.1 != 0)=true:=by simpa using hz
    obtain⟨p,hp⟩:=makT_own (l:=l) (by rw [HL.out];exact hlt) hz
    rw [HL.out] at hp
    have his:=makT_ahead (l:=l) (k:=k) (show k≤n by omega) hp
    rw [hp,Option.getD_some] at hLk
    by_cases hpk:p<(k:Int)
    ·have hd:decide (p<(k:Int))=true:=by simpa using hpk
     have HLE:Hid (L=(90,((k:Int)).toNat)):=by
      have hf:faultAt l k=90:=fault_first (by rw [his];exact hd)
      show _=_
      rw [HLL.out,← HL.out,idsF_at (by rw [HL.out];exact hlt) HGOOD.out (by rw [hf];decide),hf,Int.toNat_natCast]
     have hwS2:SpotB (wo.alloc (.cells #[.int .u16 (nthI l k).1,.int .u32 (nthI l k).2.1,.int .u32 (nthI l k).2.2.1,.slice ai na ci] 71)) S 0 0:=(HBD.out.block S hSo).trans hwS
     clear hp his hpk hz hIds
     go_wp2_with fail
     obtain⟨f1,f2⟩:=HEND.out ((wo.setCell ⟨S,0,none⟩ (.int .i64 90)).setCell ⟨S,1,none⟩ (.int .i64 k)) 90 k ((KeepB.of_below HBO.out).trans (KeepB.two wo (.int .i64 90) (.int .i64 k))) HLE.out hk0
     refine HRET.out _ _ rfl rfl ((Below.heap_alloc _ _ _ ?_).trans f1) (f2.alloc f2.size _)
     simp only [World.size_setCell]
     omega
    ·have hd:decide (p<(k:Int))=false:=by simpa using hpk
     have HNF:Hid ((makT l k (nthI l k).2.2.1).isSome=false):=by show _=_;rw [his];exact hd
     clear hp his hpk hz
     go_wp2_with fail
     refine hIds.mono ?_
     rintro e w3 ⟨hb3,az,m,cz,rfl,hm3,hown3⟩
     have hVz:=View.ofOwn hown3 hm3
     have HZ1:Hid (∀ g off,az=some ⟨g,off,none⟩→S<g):=fun g off e=>by
      subst e
      have:=(hown3.lt g rfl).1
      rw [HSW2.out] at this
      omega
     have HVZ:=hide hVz
     have HM3:=hide hm3
     have HB3:=hide (HBD.out.trans (hb3.mono HBD.out.size))
     have hmn:m≤1+na:=by
      have h1:(idsI (nthI l k)).length≤1+(nthI l k).2.2.2.length:=by have:=idsTo_len (nthI l k).2.1 (nthI l k).2.2.2 (nthI l k).2.2.2.length;unfold idsI;omega
      have h2:=HNA.out
      omega
     have HS3:Hid (SpotB w3 S 0 0):=(HB3.out.block S hSo).trans hwS
     have hs3:wo.heap.size≤w3.heap.size:=HB3.out.size
     have HBOX:Hid (w3.heap[w.heap.size]?=some (.cells #[.int .i64 c7,.int .i64 c8] 107 (0,0))):=(HB3.out.block _ (by omega)).trans ((HBO.out.block _ (by have:=HB1.out.size;omega)).trans ((HB1.out.block _ (by omega)).trans HSB.out))
     have HRES3:Hid (SpotB w3 (w.heap.size+1) 0 0):=(HB3.out.block _ (by omega)).trans r1k
     have HMU3:=hide ((HM1.out.below HBO.out).below HB3.out)
     clear hIds hb3 hown3 hVz hm3 p1 p2 p3 p4 hzb hLk hd
     generalize hzs:idsI (nthI l k)=zs at *
     have HZS:=hide hzs
     have HRNG:Hid (∀ j,j<m→0≤nth zs j∧nth zs j<4294967296):=fun j hj=>by
      have hjl:j<zs.length:=by rw [HM3.out];exact hj
      refine idsA_range (HOK.out k (by rw [HL.out];exact hlt)) (nth zs j) ?_
      rw [HZS.out]
      simp only [nth,List.getD,List.getElem?_eq_getElem hjl]
      exact List.getElem_mem hjl
     clear hzs
     go_wp2_with fail
     go_loopw [38] (fun i wz=>∃ j:Nat,j≤m∧i=.int .i64 j∧allMade l n (zs.take j)=true∧KeepB S w3 wz∧SpotB wz S (if aheadJ l k j=true then 92 else 0) (if aheadJ l k j=true then (k:Int) else 0)) (fun i _=>m - (intOf i).toNat)
     case atStart=>exact⟨0,Nat.zero_le _,rfl,by simp [allMade],KeepB.refl _ _,by rw [show aheadJ l k 0=false by unfold aheadJ allMade;simp];exact HS3.out⟩
     case round =>
      obtain⟨j,hj,rfl,hall,hkp,hsp⟩:=hrel
      have HALL:=hide hall
      have HKP:=hide hkp
      have HSPT:=hide hsp
      have hSr:S<wr.heap.size:=Nat.lt_of_lt_of_le (by omega) hkp.size
      have hwr1:w.heap.size+1<wr.heap.size:=by have:=hkp.size;omega
      have hne1:w.heap.size+1≠S:=by omega
      have HKW:Hid (KeepB S W1 wr):=((KeepB.of_below HBO.out).trans (.of_below HB3.out)).trans hkp
      have hres:SpotB wr (w.heap.size+1) 0 0:=(hkp.block _ (by omega) (by omega)).trans HRES3.out
      obtain⟨cr0,fr0⟩:=one_block hres
      have u0:=cr0 0
      have u1:=cr0 1
      obtain⟨cq0,fq0⟩:=one_block hsp
      have q0:=cq0 0
      have q1:=cq0 1
      clear cr0 cq0 hres hall
      by_cases hjm:j<m
      ·have hj0:(0:Int)≤(j:Int):=by omega
       have hji:(j:Int)<(m:Int):=by omega
       obtain⟨gz,oz,rfl,hgz,hcz⟩:=HVZ.out j (by rw [HM3.out];exact hjm)
       have hgS:=HZ1.out gz oz rfl
       have hcz':wr.cell? ⟨gz,oz+j,none⟩=some (.int .u32 (nth zs j)):=(World.cell?_of_block (a:=⟨gz,oz+j,none⟩) (hkp.block gz hgz (by omega))).trans hcz
       have hgr:gz<wr.heap.size:=Nat.lt_of_lt_of_le hgz hkp.size
       have hMr:Hid (MapU wr 3 .i64 mb n (makT l n)):=HMU3.out.block (hkp.block mb (by omega) (by omega))
       obtain⟨hr0,hr1⟩:=HRNG.out j hjm
       obtain⟨cb,_⟩:=one_block ((hkp.block w.heap.size (by omega) (by omega)).trans HBOX.out)
       have b0:=cb 0
       have b1:=cb 1
       have HAN:Hid (aheadJ l k (j+1)=(decide (partI (nthI l k)=7) && !(allMade l k (zs.take j) && (makT l k (nth zs j)).isSome))):=by
        show _=_
        unfold aheadJ
        rw [HZS.out,allMade_snoc l k zs j (by rw [HM3.out];exact hjm)]
       have HAJ:Hid (aheadJ l k j=(decide (partI (nthI l k)=7) && !allMade l k (zs.take j))):=by show _=_;unfold aheadJ;rw [HZS.out]
       have HALLN:Hid (allMade l n (zs.take (j+1))=(allMade l n (zs.take j) && (makT l n (nth zs j)).isSome)):=allMade_snoc l n zs j (by rw [HM3.out];exact hjm)
       clear hkp hsp cb hcz hgz
       cases hmt:makT l n (nth zs j) with
       | none =>
        have HLE:Hid (L=(91,((k:Int)).toNat)):=by
         have hf:faultAt l k=91:=fault_unknown HNF.out (j:=j) (by rw [HZS.out,HM3.out];exact hjm) (by rw [HZS.out,HL.out,hmt];rfl)
         show _=_
         rw [HLL.out,← HL.out,idsF_at (by rw [HL.out];exact hlt) HGOOD.out (by rw [hf];decide),hf,Int.toNat_natCast]
        have HK5:=hide (HKW.out.trans (KeepB.two wr (.int .i64 91) (.int .i64 k)))
        go_wp2_with (at_lookup;refine wpList_lookU_ok rfl _ _ 137 rfl 3 .i64 HTT.out HTE.out (zeroI64 _) mb n (makT l n) rfl hMr.out (nth zs j) rfl hr0 hr1 ?_;rw [hmt,Option.getD_none,Option.isSome_none])
        obtain⟨f1,f2⟩:=HEND.out ((wr.setCell ⟨S,0,none⟩ (.int .i64 91)).setCell ⟨S,1,none⟩ (.int .i64 k)) 91 k HK5.out HLE.out hk0
        exact HRET.out _ _ rfl rfl f1 f2
       | some p =>
        have hisk:=makT_ahead (l:=l) (k:=k) (show k≤n by omega) hmt
        have HALL2:Hid (allMade l n (zs.take (j+1))=true):=by show _=_;rw [HALLN.out,HALL.out,hmt];rfl
        have hC78:=HC78.out k hlt
        by_cases hkp2:(k:Int)≤p
        ·have hd1:decide ((k:Int)≤p)=true:=by simpa using hkp2
         have hno:(makT l k (nth zs j)).isSome=false:=by rw [hisk];simp;omega
         by_cases h7:partI (nthI l k)=7
         ·rw [show decide (partI (nthI l k)=7)=true by simpa using h7,Bool.and_eq_true] at hC78
          obtain⟨hc7,hc8⟩:=hC78
          have HA1:Hid (aheadJ l k (j+1)=true):=by show _=_;rw [HAN.out,hno];simp [h7]
          have HSP2:=hide (HSPT.out.put 92 k)
          have HK2:=hide (HKP.out.trans (KeepB.two wr (.int .i64 92) (.int .i64 k)))
          generalize (if aheadJ l k j=true then (92:Int) else 0)=x0 at *
          generalize (if aheadJ l k j=true then (k:Int) else 0)=x1 at *
          clear hkp2 hno h7 hisk
          go_wp2_with (at_lookup;refine wpList_lookU_ok rfl _ _ 137 rfl 3 .i64 HTT.out HTE.out (zeroI64 _) mb n (makT l n) rfl hMr.out (nth zs j) rfl hr0 hr1 ?_;rw [hmt,Option.getD_some,Option.isSome_some])
          go_roundw
          case rel=>exact⟨j+1,by omega,by go_num,HALL2.out,HK2.out,by rw [HA1.out];exact HSP2.out⟩
          case measure=>simp [intOf];omega
         ·rw [show decide (partI (nthI l k)=7)=false by simpa using h7] at hC78
          have HA1:Hid (aheadJ l k (j+1)=aheadJ l k j):=by show _=_;rw [HAN.out,HAJ.out];simp [h7]
          have HSP2:Hid (SpotB wr S (if aheadJ l k (j+1)=true then 92 else 0) (if aheadJ l k (j+1)=true then (k:Int) else 0)):=by show SpotB _ _ _ _;rw [HA1.out];exact HSPT.out
          generalize (if aheadJ l k j=true then (92:Int) else 0)=x0 at *
          generalize (if aheadJ l k j=true then (k:Int) else 0)=x1 at *
          clear hkp2 hno h7 hisk
          cases hc7:decide (c7≤(k:Int)) with
          | true =>
           rw [hc7,Bool.true_and] at hC78
           go_wp2_with (at_lookup;refine wpList_lookU_ok rfl _ _ 137 rfl 3 .i64 HTT.out HTE.out (zeroI64 _) mb n (makT l n) rfl hMr.out (nth zs j) rfl hr0 hr1 ?_;rw [hmt,Option.getD_some,Option.isSome_some])
           go_roundw
           case rel=>exact⟨j+1,by omega,by go_num,HALL2.out,HKP.out,HSP2.out⟩
           case measure=>simp [intOf];omega
          | false =>
           clear hC78
           go_wp2_with (at_lookup;refine wpList_lookU_ok rfl _ _ 137 rfl 3 .i64 HTT.out HTE.out (zeroI64 _) mb n (makT l n) rfl hMr.out (nth zs j) rfl hr0 hr1 ?_;rw [hmt,Option.getD_some,Option.isSome_some])
           go_roundw
           case rel=>exact⟨j+1,by omega,by go_num,HALL2.out,HKP.out,HSP2.out⟩
           case measure=>simp [intOf];omega
        ·have hd1:decide ((k:Int)≤p)=false:=by simpa using hkp2
         have hyes:(makT l k (nth zs j)).isSome=true:=by rw [hisk];simp;omega
         have HA1:Hid (aheadJ l k (j+1)=aheadJ l k j):=by show _=_;rw [HAN.out,HAJ.out,hyes,Bool.and_true]
         have HSP2:Hid (SpotB wr S (if aheadJ l k (j+1)=true then 92 else 0) (if aheadJ l k (j+1)=true then (k:Int) else 0)):=by show SpotB _ _ _ _;rw [HA1.out];exact HSPT.out
         generalize (if aheadJ l k j=true then (92:Int) else 0)=x0 at *
         generalize (if aheadJ l k j=true then (k:Int) else 0)=x1 at *
         clear hkp2 hyes hisk hC78
         go_wp2_with (at_lookup;refine wpList_lookU_ok rfl _ _ 137 rfl 3 .i64 HTT.out HTE.out (zeroI64 _) mb n (makT l n) rfl hMr.out (nth zs j) rfl hr0 hr1 ?_;rw [hmt,Option.getD_some,Option.isSome_some])
         go_roundw
         case rel=>exact⟨j+1,by omega,by go_num,HALL2.out,HKP.out,HSP2.out⟩
         case measure=>simp [intOf];omega
      ·obtain rfl:j=m:=by omega
       have hfe:faultAt l k=if aheadJ l k j=true then 92 else 0:=by
        have:=faultAt_end (l:=l) (k:=k) HNF.out (by rw [HZS.out,HM3.out,HL.out];exact HALL.out)
        rw [HZS.out,HM3.out] at this
        exact this
       cases haj:aheadJ l k j with
       | true =>
        rw [haj,if_pos rfl] at hfe
        have hsp2:SpotB wr S 92 (k:Int):=by have h:=hsp;rw [haj] at h;exact h
        clear q0 q1 fq0
        obtain⟨cq0,fq0⟩:=one_block hsp2
        have q0:=cq0 0
        have q1:=cq0 1
        clear cq0 hsp2
        have HLE:Hid (L=(92,((k:Int)).toNat)):=by
         show _=_
         rw [HLL.out,← HL.out,idsF_at (by rw [HL.out];exact hlt) HGOOD.out (by rw [hfe];decide),hfe,Int.toNat_natCast]
        obtain⟨f1,f2⟩:=HEND.out wr 92 k HKW.out HLE.out hk0
        have F1:=hide f1
        have F2:=hide f2
        clear f1 f2 hkp hsp haj hfe
        go_wp2_with fail
        exact HRET.out _ _ rfl rfl F1.out F2.out
       | false =>
        rw [haj] at hfe hsp
        have hsp0:SpotB wr S 0 0:=hsp
        clear q0 q1 fq0
        obtain⟨cq0,fq0⟩:=one_block hsp0
        have q0:=cq0 0
        have q1:=cq0 1
        clear cq0
        have HG2:Hid (∀ i,i<k+1→faultAt l i=0):=fun i hi=>by
         by_cases e:i=k
         ·rw [e];exact hfe
         ·exact HGOOD.out i (by omega)
        have HBW:Hid (Below W1.heap.size W1 wr):=by
         have h:=HKW.out
         refine⟨h.os,h.tape,h.output,h.size,fun i hi=>?_⟩
         by_cases e:i=S
         ·subst e;exact hsp0.trans HWB.out.symm
         ·exact h.block i hi e
        clear hkp hsp haj hfe hsp0
        go_wp2_with fail
        go_roundw
        case rel=>exact⟨k+1,by omega,by go_num,HG2.out,HBW.out⟩
        case measure=>simp [intOf];omega
  ·obtain rfl:k=n:=by omega
   have hLZ:L=(0,(0:Int).toNat):=by
    rw [HLL.out,← HL.out]
    exact idsF_done (fun i hi=>HGOOD.out i (by rw [← HL.out];exact hi))
   obtain⟨f1,f2⟩:=HEND.out wo 0 0 (.of_below hbr) hLZ (Int.le_refl _)
   have F1:=hide f1
   have F2:=hide f2
   clear f1 f2 hbr hwS r1k hLZ
   go_wp2_with fail
   exact HRET.out _ _ rfl rfl F1.out F2.out
end Go.Proofs.YtoebhgpciinkgaaGreatDoor
