/-
  Texts in one: Args, ArgInsts, MathS, TabG, Switch, MathG, Ref03Form.
-/
import Derived.Test.YtlcaedibmlidlaaGreatB01
import Derived.WideShapes
import Derived.SizedLaws
import Derived.Deep.Slices
import Derived.Deep.SlicePairs
import Derived.Lib.SmallJoins
import Derived.Lib.Bytealg
import Derived.Lib.IndexLaws
namespace Go.Proofs.YtlcaedibmlidlaaGreat
open Go.RowKit
abbrev ArgT:=Int×Int×ByteArray
def argV (x:ArgT):Value:=.agg #[.int .u8 x.1,.int .u32 x.2.1,.string x.2.2]
def noArg:ArgT:=(0,0,⟨#[]⟩)
def nthA (l:List ArgT) (j:Nat):ArgT:=l.getD j noArg
theorem str_inj {a b:ByteArray} (h:a.toList=b.toList):a=b:=by
 rw [ByteArray.toList_eq,ByteArray.toList_eq] at h
 exact Go.WideShapes.bytes_inj h
def ArgsV (w:World) (a:Option Addr) (l:List ArgT):Prop :=
 ∀ j,j<l.length→∃ b off,a=some ⟨b,off,none⟩∧b<w.heap.size∧w.cell? ⟨b,off+j * 3,none⟩=some (.int .u8 (nthA l j).1)∧w.cell? ⟨b,off+j * 3+1,none⟩=some (.int .u32 (nthA l j).2.1)∧w.cell? ⟨b,off+j * 3+2,none⟩=some (.string (nthA l j).2.2)
def ArgOk (x:ArgT):Prop:=0≤x.1∧x.1<256∧0≤x.2.1∧x.2.1<4294967296∧x.2.2.size≤140737488351232
def ArgsOk (l:List ArgT):Prop:=∀ j,j<l.length→ArgOk (nthA l j)
theorem argsV_nil {w:World} {a:Option Addr}:ArgsV w a []:=fun j hj=>by simp at hj
theorem argsOk_nil:ArgsOk []:=fun j hj=>by simp at hj
theorem ArgsV.below {w w':World} {a:Option Addr} {l:List ArgT} (h:ArgsV w a l) (hb:Below w.heap.size w w'):ArgsV w' a l:=by
 intro j hj
 obtain⟨b,off,e,hlt,h1,h2,h3⟩:=h j hj
 exact⟨b,off,e,Nat.lt_of_lt_of_le hlt hb.size,(hb.cell (p:=⟨b,off+j * 3,none⟩) hlt).trans h1,(hb.cell (p:=⟨b,off+j * 3+1,none⟩) hlt).trans h2,(hb.cell (p:=⟨b,off+j * 3+2,none⟩) hlt).trans h3⟩
theorem ArgsV.setCell {w:World} {a:Option Addr} {l:List ArgT} (h:ArgsV w a l) {g i:Nat} (hg:∀ b off,a=some ⟨b,off,none⟩→b≠g) (v:Value):ArgsV (w.setCell ⟨g,i,none⟩ v) a l:=by
 intro j hj
 obtain⟨b,off,e,hlt,h1,h2,h3⟩:=h j hj
 have hne:=hg b off e
 have hx:(w.setCell ⟨g,i,none⟩ v).heap[b]?=w.heap[b]?:=Below.heap_setCell _ _ _ _ (by simpa using hne)
 refine⟨b,off,e,by simpa using hlt,?_,?_,?_⟩
 ·simp only [World.cell?,hx] at h1 ⊢;exact h1
 ·simp only [World.cell?,hx] at h2 ⊢;exact h2
 ·simp only [World.cell?,hx] at h3 ⊢;exact h3
abbrev InstT:=Int×Int×Int×List ArgT
def instV (x:InstT) (a:Option Addr) (n c:Nat):Value:=.agg #[.int .u16 x.1,.int .u32 x.2.1,.int .u32 x.2.2.1,.slice a n c]
def noInst:InstT:=(0,0,0,[])
def nthI (l:List InstT) (j:Nat):InstT:=l.getD j noInst
def InstOk (x:InstT):Prop:=0≤x.1∧x.1<65536∧0≤x.2.1∧x.2.1<4294967296∧0≤x.2.2.1∧x.2.2.1<4294967296∧ArgsOk x.2.2.2∧24 * x.2.2.2.length≤140737488351232
def InstsOk (l:List InstT):Prop:=∀ j,j<l.length→InstOk (nthI l j)
def InstsV (w:World) (a:Option Addr) (l:List InstT):Prop :=
 ∀ j,j<l.length→∃ b off aj cj nj,a=some ⟨b,off,none⟩∧b<w.heap.size∧w.cell? ⟨b,off+j * 4,none⟩=some (.int .u16 (nthI l j).1)∧w.cell? ⟨b,off+j * 4+1,none⟩=some (.int .u32 (nthI l j).2.1)∧w.cell? ⟨b,off+j * 4+2,none⟩=some (.int .u32 (nthI l j).2.2.1) ∧
  w.cell? ⟨b,off+j * 4+3,none⟩=some (.slice aj nj cj)∧(nthI l j).2.2.2.length=nj∧ArgsV w aj (nthI l j).2.2.2∧nj≤cj
theorem instsV_nil {w:World} {a:Option Addr}:InstsV w a []:=fun j hj=>by simp at hj
theorem instsOk_nil:InstsOk []:=fun j hj=>by simp at hj
theorem InstsV.below {w w':World} {a:Option Addr} {l:List InstT} (h:InstsV w a l) (hb:Below w.heap.size w w'):InstsV w' a l:=by
 intro j hj
 obtain⟨b,off,aj,cj,nj,e,hlt,h1,h2,h3,h4,h5,h6,h7⟩:=h j hj
 exact⟨b,off,aj,cj,nj,e,Nat.lt_of_lt_of_le hlt hb.size,(hb.cell (p:=⟨b,off+j * 4,none⟩) hlt).trans h1,(hb.cell (p:=⟨b,off+j * 4+1,none⟩) hlt).trans h2,(hb.cell (p:=⟨b,off+j * 4+2,none⟩) hlt).trans h3,(hb.cell (p:=⟨b,off+j * 4+3,none⟩) hlt).trans h4,h5,h6.below hb,h7⟩
theorem nthA_lt (l:List ArgT) (j:Nat) (h:j<l.length):nthA l j=l[j]:=by simp [nthA,List.getD,h]
theorem nthI_lt (l:List InstT) (j:Nat) (h:j<l.length):nthI l j=l[j]:=by simp [nthI,List.getD,h]
theorem argsEq_iff (l m:List ArgT):l=m↔l.length=m.length∧∀ j,j<l.length→nthA l j=nthA m j:=by
 constructor
 ·rintro rfl;exact⟨rfl,fun _ _=>rfl⟩
 ·rintro⟨h1,h2⟩
  refine List.ext_getElem h1 fun j hj hj'=>?_
  have:=h2 j hj
  rw [nthA_lt _ _ hj,nthA_lt _ _ hj'] at this
  exact this
theorem instsEq_iff (l m:List InstT):l=m↔l.length=m.length∧∀ j,j<l.length→nthI l j=nthI m j:=by
 constructor
 ·rintro rfl;exact⟨rfl,fun _ _=>rfl⟩
 ·rintro⟨h1,h2⟩
  refine List.ext_getElem h1 fun j hj hj'=>?_
  have:=h2 j hj
  rw [nthI_lt _ _ hj,nthI_lt _ _ hj'] at this
  exact this
end Go.Proofs.YtlcaedibmlidlaaGreat
namespace Go.Proofs.YtlcaedibmlidlaaGreat
open Go.ChangeShapes Go.WideShapes Go.ChangeAt Go.RowKit
set_option maxRecDepth 100000
theorem ArgInsts.cellsA:Tryz.prog.cellsOf 105=3:=by kernel_rfl
theorem ArgInsts.cells8:Tryz.prog.cellsOf 5=1:=by kernel_rfl
theorem ArgInsts.cells32:Tryz.prog.cellsOf 22=1:=by kernel_rfl
theorem ArgInsts.cellsS:Tryz.prog.cellsOf 9=1:=by kernel_rfl
theorem ArgInsts.bytesA:Tryz.prog.bytesOf 105=24:=by kernel_rfl
theorem ArgInsts.cells16:Tryz.prog.cellsOf 60=1:=by kernel_rfl
theorem ArgInsts.cellsL:Tryz.prog.cellsOf 61=1:=by kernel_rfl
theorem ArgInsts.cellsI:Tryz.prog.cellsOf 63=4:=by kernel_rfl
theorem ArgInsts.bytesI:Tryz.prog.bytesOf 63=40:=by kernel_rfl
theorem weightsIn {H:Type} {P:Program} {e:TypeId}:∀ {l:List (DataW H)} {d:DataW H},d∈l→∀ n∈d.weights P e,n∈DataW.weightsAll P e l
 | d0 :: l,d,hd,n,hn=>by
  simp only [DataW.weightsAll,List.mem_append]
  rcases List.mem_cons.1 hd with rfl | h
  ·exact Or.inl hn
  ·exact Or.inr (weightsIn h n hn)
theorem argsV_mk {w:World} {x:Addr} {n:Nat} {f:Nat→ArgT} (h:∀ i,i<n→w.cell? (x.add (i * 3))=some (.int .u8 (f i).1)∧w.cell? (x.add (i * 3+1))=some (.int .u32 (f i).2.1)∧w.cell? (x.add (i * 3+2))=some (.string (f i).2.2)):ArgsV w (some x) ((List.range n).map f):=by
 intro j hj
 rw [List.length_map,List.length_range] at hj
 have h0:=(h 0 (by omega)).1
 obtain⟨b,off,spot⟩:=x
 have hs:spot=none:=by simpa [Addr.add] using World.cell?_spot h0
 subst hs
 obtain⟨h1,h2,h3⟩:=h j hj
 rw [Addr.add_lit] at h1 h2 h3
 have e:nthA ((List.range n).map f) j=f j:=by simp [nthA,List.getD,hj]
 rw [e]
 exact⟨b,off,rfl,World.block_lt_of_cell? _ _ h1,h1,by rw [Nat.add_assoc];exact h2,by rw [Nat.add_assoc];exact h3⟩
set_option maxHeartbeats 1000000 in
theorem open_args {H:Type} {enc:TypeId×Value→H} {w:World} {base fuel:Nat} {held:Bool} {a:Option Addr} {len cap:Nat} {d:DataW H} {ps:List MemPlace}
  (hf:DataW.trod enc Tryz.prog w base (fun _=>true) held fuel 61 [.slice a len cap]=some (d,ps)) (hs:∀ n∈d.weights Tryz.prog 61,n≤reachBytes) :
  ∃ l:List ArgT,l.length=len∧ArgsV w a l∧ArgsOk l∧24 * len≤140737488351232∧len≤cap:=by
 rcases Go.Deep.open_slice Tryz.underlying61 hf with ⟨hcs,_⟩ | ⟨x,l,c,mm,nn,D,Pl,hcs,_,hl,hm,hmm,hx,hall⟩
 ·simp at hcs
  obtain⟨rfl,rfl,rfl⟩:=hcs
  exact⟨[],rfl,argsV_nil,argsOk_nil,by omega,by omega⟩
 ·simp at hcs
  obtain⟨rfl,rfl,rfl⟩:=hcs
  simp only [Prod.mk.injEq] at hx
  obtain⟨rfl,rfl⟩:=hx
  simp only [if_true] at hmm
  subst hmm
  have hs0:=hs ((((List.range len).map D).length+((List.range (mm - len)).map fun j=>D (len+j)).length) * Tryz.prog.bytesOf 105) (by simp [DataW.weights,Tryz.underlying61])
  rw [ArgInsts.bytesA] at hs0
  simp only [List.length_map,List.length_range,reachBytes] at hs0
  have key:∀ i,i<len→∃ r:ArgT,w.cell? (x.add (i * 3))=some (.int .u8 r.1)∧w.cell? (x.add (i * 3+1))=some (.int .u32 r.2.1)∧w.cell? (x.add (i * 3+2))=some (.string r.2.2)∧ArgOk r:=by
   intro i hi
   obtain⟨cs,hc,ht⟩:=hall i (by omega)
   rw [ArgInsts.cellsA] at hc
   obtain⟨_,hlen,hcell⟩:=World.cells?_some hc
   obtain⟨xs,k,_,hxy,_,hxl,hfl⟩:=DataW.trod_struct Tryz.underlying105 ht
   have g0:=hfl 0 _ rfl
   have g1:=hfl 1 _ rfl
   have g2:=hfl 2 _ rfl
   match xs,hxl,cs,hlen with
   | [y0,y1,y2],_,[v0,v1,v2],_ =>
    have e0:=hcell 0 (by omega)
    have e1:=hcell 1 (by omega)
    have e2:=hcell 2 (by omega)
    rw [Go.Deep.add_add] at e0 e1 e2
    simp [ArgInsts.cells8,ArgInsts.cells32,ArgInsts.cellsS] at g0 g1 g2 e0 e1 e2
    obtain⟨n0,q0,_,w0⟩:=DataW.trod_int Tryz.underlying5 g0
    obtain⟨n1,q1,_,w1⟩:=DataW.trod_int Tryz.underlying22 g1
    obtain⟨s2,q2,q3⟩:=DataW.trod_string Tryz.underlying9 g2
    simp at q0 q1 q2
    subst q0;subst q1;subst q2
    have b0:=bounds_u8 w0
    have b1:=bounds_u32 w1
    refine⟨(n0,n1,s2),by simpa using e0,e1,e2,?_⟩
    have hs2:=hs s2.size (by
     have hmem:D i∈(List.range len).map D:=List.mem_map.2 ⟨i,List.mem_range.2 hi,rfl⟩
     simp only [DataW.weights,Tryz.underlying61,List.mem_cons,List.mem_append]
     refine Or.inr (Or.inl (weightsIn hmem _ ?_))
     simp only [Prod.mk.injEq] at hxy
     rw [hxy.1]
     simp only [DataW.weights,Tryz.underlying105]
     refine DataW.weights_mem_each (j:=2) rfl rfl _ ?_
     simp_all [DataW.weights])
    simp only [reachBytes] at hs2
    exact⟨by simp;omega,by simp;omega,by simp;omega,by simp;omega,hs2⟩
  let f:Nat→ArgT:=fun i=>if h:i<len then Classical.choose (key i h) else noArg
  have hf':∀ i (h:i<len),f i=Classical.choose (key i h):=fun i h=>dif_pos h
  refine⟨(List.range len).map f,by simp,argsV_mk (fun i hi=>?_),fun j hj=>?_,by omega,hl⟩
  ·rw [hf' i hi]
   obtain⟨h1,h2,h3,_⟩:=Classical.choose_spec (key i hi)
   exact⟨h1,h2,h3⟩
  ·rw [List.length_map,List.length_range] at hj
   have e:nthA ((List.range len).map f) j=f j:=by simp [nthA,List.getD,hj]
   rw [e,hf' j hj]
   exact (Classical.choose_spec (key j hj)).2.2.2
theorem instsV_mk {w:World} {x:Addr} {n:Nat} {f:Nat→InstT} (h:∀ i,i<n→w.cell? (x.add (i * 4))=some (.int .u16 (f i).1)∧w.cell? (x.add (i * 4+1))=some (.int .u32 (f i).2.1)∧w.cell? (x.add (i * 4+2))=some (.int .u32 (f i).2.2.1) ∧
  ∃ aj cj,w.cell? (x.add (i * 4+3))=some (.slice aj (f i).2.2.2.length cj)∧ArgsV w aj (f i).2.2.2∧(f i).2.2.2.length≤cj):InstsV w (some x) ((List.range n).map f):=by
 intro j hj
 rw [List.length_map,List.length_range] at hj
 have h0:=(h 0 (by omega)).1
 obtain⟨b,off,spot⟩:=x
 have hs:spot=none:=by simpa [Addr.add] using World.cell?_spot h0
 subst hs
 obtain⟨h1,h2,h3,aj,cj,h4,h5,h6⟩:=h j hj
 rw [Addr.add_lit] at h1 h2 h3 h4
 have e:nthI ((List.range n).map f) j=f j:=by simp [nthI,List.getD,hj]
 rw [e]
 exact⟨b,off,aj,cj,_,rfl,World.block_lt_of_cell? _ _ h1,h1,by rw [Nat.add_assoc];exact h2,by rw [Nat.add_assoc];exact h3,by rw [Nat.add_assoc];exact h4,rfl,h5,h6⟩
set_option maxHeartbeats 1000000 in
theorem open_insts {H:Type} {enc:TypeId×Value→H} {w:World} {base fuel:Nat} {held:Bool} {a:Option Addr} {len cap:Nat} {d:DataW H} {ps:List MemPlace}
  (hf:DataW.trod enc Tryz.prog w base (fun _=>true) held fuel 23 [.slice a len cap]=some (d,ps)) (hs:∀ n∈d.weights Tryz.prog 23,n≤reachBytes) :
  ∃ l:List InstT,l.length=len∧InstsV w a l∧InstsOk l∧40 * len≤140737488351232∧len≤cap:=by
 rcases Go.Deep.open_slice Tryz.underlying23 hf with ⟨hcs,_⟩ | ⟨x,l,c,mm,nn,D,Pl,hcs,_,hl,hm,hmm,hx,hall⟩
 ·simp at hcs
  obtain⟨rfl,rfl,rfl⟩:=hcs
  exact⟨[],rfl,instsV_nil,instsOk_nil,by omega,by omega⟩
 ·simp at hcs
  obtain⟨rfl,rfl,rfl⟩:=hcs
  simp only [Prod.mk.injEq] at hx
  obtain⟨rfl,rfl⟩:=hx
  simp only [if_true] at hmm
  subst hmm
  have hs0:=hs ((((List.range len).map D).length+((List.range (mm - len)).map fun j=>D (len+j)).length) * Tryz.prog.bytesOf 63) (by simp [DataW.weights,Tryz.underlying23])
  rw [ArgInsts.bytesI] at hs0
  simp only [List.length_map,List.length_range,reachBytes] at hs0
  have key:∀ i,i<len→∃ r:InstT,w.cell? (x.add (i * 4))=some (.int .u16 r.1)∧w.cell? (x.add (i * 4+1))=some (.int .u32 r.2.1)∧w.cell? (x.add (i * 4+2))=some (.int .u32 r.2.2.1) ∧
    (∃ aj cj,w.cell? (x.add (i * 4+3))=some (.slice aj r.2.2.2.length cj)∧ArgsV w aj r.2.2.2∧r.2.2.2.length≤cj)∧InstOk r:=by
   intro i hi
   obtain⟨cs,hc,ht⟩:=hall i (by omega)
   rw [ArgInsts.cellsI] at hc
   obtain⟨_,hlen,hcell⟩:=World.cells?_some hc
   obtain⟨xs,k,_,hxy,_,hxl,hfl⟩:=DataW.trod_struct Tryz.underlying63 ht
   have g0:=hfl 0 _ rfl
   have g1:=hfl 1 _ rfl
   have g2:=hfl 2 _ rfl
   have g3:=hfl 3 _ rfl
   match xs,hxl,cs,hlen with
   | [y0,y1,y2,y3],_,[v0,v1,v2,v3],_ =>
    have e0:=hcell 0 (by omega)
    have e1:=hcell 1 (by omega)
    have e2:=hcell 2 (by omega)
    have e3:=hcell 3 (by omega)
    rw [Go.Deep.add_add] at e0 e1 e2 e3
    simp [ArgInsts.cells16,ArgInsts.cells32,ArgInsts.cellsL] at g0 g1 g2 g3 e0 e1 e2 e3
    obtain⟨n0,q0,_,w0⟩:=DataW.trod_int Tryz.underlying60 g0
    obtain⟨n1,q1,_,w1⟩:=DataW.trod_int Tryz.underlying22 g1
    obtain⟨n2,q2,_,w2⟩:=DataW.trod_int Tryz.underlying22 g2
    simp at q0 q1 q2
    subst q0;subst q1;subst q2
    have b0:=bounds_u16 w0
    have b1:=bounds_u32 w1
    have b2:=bounds_u32 w2
    obtain⟨a,n,c,rfl⟩:∃ a n c,v3=.slice a n c:=by
     rcases Go.Deep.open_slice Tryz.underlying61 g3 with ⟨hcs,_⟩ | ⟨x,l,c,mm,nn,D,Pl,hcs,_⟩
     ·simp at hcs;exact⟨_,_,_,hcs⟩
     ·simp at hcs;exact⟨_,_,_,hcs⟩
    obtain⟨l,hl,hv3,hok,hr,hc⟩:=open_args g3 (fun k hk=>hs k (by
     have hmem:D i∈(List.range len).map D:=List.mem_map.2 ⟨i,List.mem_range.2 hi,rfl⟩
     simp only [DataW.weights,Tryz.underlying23,List.mem_cons,List.mem_append]
     refine Or.inr (Or.inl (weightsIn hmem _ ?_))
     simp only [Prod.mk.injEq] at hxy
     rw [hxy.1]
     simp only [DataW.weights,Tryz.underlying63]
     exact DataW.weights_mem_each (j:=3) rfl rfl _ hk))
    subst hl
    exact⟨(n0,n1,n2,l),by simpa using e0,e1,e2,⟨a,c,e3,hv3,hc⟩,by simp;omega,by simp;omega,by simp;omega,by simp;omega,by simp;omega,by simp;omega,hok,hr⟩
  let f:Nat→InstT:=fun i=>if h:i<len then Classical.choose (key i h) else noInst
  have hf':∀ i (h:i<len),f i=Classical.choose (key i h):=fun i h=>dif_pos h
  refine⟨(List.range len).map f,by simp,instsV_mk (fun i hi=>?_),fun j hj=>?_,by omega,hl⟩
  ·rw [hf' i hi]
   obtain⟨h1,h2,h3,h4,_⟩:=Classical.choose_spec (key i hi)
   exact⟨h1,h2,h3,h4⟩
  ·rw [List.length_map,List.length_range] at hj
   have e:nthI ((List.range len).map f) j=f j:=by simp [nthI,List.getD,hj]
   rw [e,hf' j hj]
   exact (Classical.choose_spec (key j hj)).2.2.2.2
theorem open_module {H:Type} {enc:TypeId×Value→H} {w:World} {b0 base:Nat} {held:Bool} {v:Value} {d:DataW H} {ps:List MemPlace}
  (hv:Value.okWide Tryz.prog w .any b0 25 v) (h:DataW.Trod enc Tryz.prog w base (fun _=>true) held 25 v d ps) (hs:∀ n∈d.weights Tryz.prog 25,n≤reachBytes) :
  ∃ (gen bound:Int) (a:Option Addr) (n c:Nat) (l:List InstT),v=.agg #[.int .u32 gen,.int .u32 bound,.slice a n c]∧0≤gen∧gen<4294967296∧0≤bound∧bound<4294967296∧l.length=n∧InstsV w a l∧InstsOk l∧40 * n≤140737488351232∧n≤c:=by
 obtain⟨v0,v1,v3,y0,y1,y3,m,rfl,rfl,_,t0,t1,t3⟩:=Go.Joins.open_agg3 Tryz.underlying25 (by kernel_rfl) (by kernel_rfl) hv h
 obtain⟨n0,e0,_,w0⟩:=DataW.trod_int Tryz.underlying22 t0
 obtain⟨n1,e1,_,w1⟩:=DataW.trod_int Tryz.underlying22 t1
 simp at e0 e1
 subst e0;subst e1
 have b0:=bounds_u32 w0
 have b1:=bounds_u32 w1
 obtain⟨a,n,c,rfl⟩:∃ a n c,v3=.slice a n c:=by
  rcases Go.Deep.open_slice Tryz.underlying23 t3 with ⟨hcs,_⟩ | ⟨x,l,c,mm,nn,D,Pl,hcs,_⟩
  ·simp at hcs;exact⟨_,_,_,hcs⟩
  ·simp at hcs;exact⟨_,_,_,hcs⟩
 obtain⟨l,hl,hv3,hok,hr,hc⟩:=open_insts t3 (fun k hk=>hs k (by
  simp only [DataW.weights,Tryz.underlying25]
  exact DataW.weights_mem_each (j:=2) rfl rfl _ hk))
 exact⟨n0,n1,a,n,c,l,rfl,by omega,by omega,by omega,by omega,hl,hv3,hok,hr,hc⟩
end Go.Proofs.YtlcaedibmlidlaaGreat
namespace Go.Proofs.YtlcaedibmlidlaaGreat
open Go.RowKit
theorem size_list (s:ByteArray):s.data.toList.length=s.size:=by rw [Array.length_toList];rfl
def strI (s:ByteArray):List Int:=s.data.toList.map fun b=>(b.toNat:Int)
theorem strI_len (s:ByteArray):(strI s).length=s.size:=by rw [strI,List.length_map,size_list]
theorem strI_within (s:ByteArray):Within 256 (strI s):=by
 intro z hz
 simp only [strI,List.mem_map] at hz
 obtain⟨b,_,rfl⟩:=hz
 have:=b.toNat_lt
 omega
theorem nth_strI (s:ByteArray) (k:Nat) (h:k<s.size):nth (strI s) k=(s[k].toNat:Int):=by
 have h':k<s.data.toList.length:=by rw [size_list];exact h
 have e:s[k]=s.data.toList[k]:=rfl
 rw [e]
 have h2:(strI s)[k]?=some ((s.data.toList[k].toNat:Int)):=by rw [strI,List.getElem?_map,List.getElem?_eq_getElem h'];rfl
 rw [nth,List.getD,h2];rfl
def NoNul (s:ByteArray):Prop:=∀ k,k<s.size→nth (strI s) k≠0
theorem index_none (s:ByteArray) (h:NoNul s):Lib.indexByte s.data.toList (0:Int).toNat.toUInt8=-1:=by
 have hge:=Lib.indexByte_ge s.data.toList (0:Int).toNat.toUInt8
 apply Classical.byContradiction
 intro hne
 obtain⟨o,ho⟩:∃ o:Nat,Lib.indexByte s.data.toList (0:Int).toNat.toUInt8=o:=⟨(Lib.indexByte s.data.toList (0:Int).toNat.toUInt8).toNat,by omega⟩
 have:=(Lib.indexByte_some ho).1
 have hlt:o<s.data.toList.length:=by
  rcases Nat.lt_or_ge o s.data.toList.length with h1 | h1
  ·exact h1
  ·rw [List.getElem?_eq_none h1] at this;simp at this
 have hs:o<s.size:=by rw [← size_list];exact hlt
 apply h o hs
 rw [nth_strI s o hs]
 have e:s[o]=s.data.toList[o]:=rfl
 rw [List.getElem?_eq_getElem hlt] at this
 rw [e,Option.some.inj this]
 rfl
theorem index_some (s:ByteArray) (k:Nat) (hk:k<s.size) (h:nth (strI s) k=0):0≤Lib.indexByte s.data.toList (0:Int).toNat.toUInt8:=by
 have hge:=Lib.indexByte_ge s.data.toList (0:Int).toNat.toUInt8
 apply Classical.byContradiction
 intro hne
 have hm:Lib.indexByte s.data.toList (0:Int).toNat.toUInt8=-1:=by omega
 have:=Lib.indexByte_none hm k
 have hlt:k<s.data.toList.length:=by rw [size_list];exact hk
 apply this
 rw [List.getElem?_eq_getElem hlt]
 rw [nth_strI s k hk] at h
 have e:s[k]=s.data.toList[k]:=rfl
 rw [e] at h
 have:s.data.toList[k].toNat=0:=by omega
 exact congrArg some (UInt8.toNat_inj.1 this)
def padI (s:ByteArray):List Int:=filled (strI s) s.size (4 * (s.size / 4+1))
def textW (s:ByteArray):List Int:=splitL (padI s)
theorem padI_len (s:ByteArray):(padI s).length=4 * (s.size / 4+1):=filled_len _ _ _ (by omega) (by rw [strI_len];omega)
theorem textW_len (s:ByteArray):(textW s).length=s.size / 4+1:=by rw [textW,splitL_len,padI_len];omega
theorem padI_lo (s:ByteArray) (k:Nat) (h:k<s.size):nth (padI s) k=nth (strI s) k:=by
 have e:(strI s).take s.size=strI s:=List.take_of_length_le (by rw [strI_len];omega)
 rw [padI,filled,e,getD_left _ _ _ (by rw [strI_len];exact h)]
theorem padI_hi (s:ByteArray) (k:Nat) (h:s.size≤k):nth (padI s) k=0:=by
 have e:(strI s).take s.size=strI s:=List.take_of_length_le (by rw [strI_len];omega)
 rw [padI,filled,e,getD_right _ _ _ (by rw [strI_len];exact h)]
 simp only [nth,List.getD,List.getElem?_replicate]
 split <;> rfl
theorem padI_within (s:ByteArray):Within 256 (padI s):=by
 intro z hz
 simp only [padI,filled,List.mem_append,List.mem_replicate] at hz
 rcases hz with hz | ⟨_,rfl⟩
 ·exact strI_within s z (List.mem_of_mem_take hz)
 ·omega
theorem partL_padI (s:ByteArray):partL (padI s) s.size (s.size / 4+1)=textW s:=by
 have h:=partL_whole (padI s) (by rw [padI_len];omega)
 rw [padI_len,show 4 * (s.size / 4+1) / 4=s.size / 4+1 by omega] at h
 rw [textW,← h]
 unfold partL
 apply List.map_congr_left
 intro k hk
 have hk':k<s.size / 4+1:=List.mem_range.1 hk
 unfold partW
 rw [if_pos (show 4 * k<4 * (s.size / 4+1) by omega),if_pos (show 4 * k+1<4 * (s.size / 4+1) by omega),if_pos (show 4 * k+2<4 * (s.size / 4+1) by omega),if_pos (show 4 * k+3<4 * (s.size / 4+1) by omega)]
 have f:∀ i,(if i<s.size then nth (padI s) i else 0)=nth (padI s) i:=fun i=>by
  split
  ·rfl
  ·rw [padI_hi s i (by omega)]
 have f':∀ i (c:Int),(if i<s.size then nth (padI s) i * c else 0)=nth (padI s) i * c:=fun i c=>by
  split
  ·rfl
  ·rw [padI_hi s i (by omega)];omega
 rw [f,f',f',f']
set_option linter.unusedVariables false
def namingT:List (Int×ByteArray):=[
 (1,⟨#[79,112,85,110,100,101,102,47,116,114,47,47,47,48,47,55]⟩),
 (3,⟨#[79,112,83,111,117,114,99,101,47,47,108,110,47,47,48,47,52]⟩),
 (5,⟨#[79,112,78,97,109,101,47,47,105,115,47,47,48,47,53]⟩),
 (6,⟨#[79,112,77,101,109,98,101,114,78,97,109,101,47,47,105,110,115,47,47,48,47,53]⟩),
 (7,⟨#[79,112,83,116,114,105,110,103,47,114,47,115,47,47,48,47,52]⟩),
 (14,⟨#[79,112,77,101,109,111,114,121,77,111,100,101,108,47,47,97,109,47,47,48,47,49]⟩),
 (15,⟨#[79,112,69,110,116,114,121,80,111,105,110,116,47,47,101,105,115,47,105,47,48,47,50]⟩),
 (16,⟨#[79,112,69,120,101,99,117,116,105,111,110,77,111,100,101,47,47,105,120,47,47,48,47,51]⟩),
 (17,⟨#[79,112,67,97,112,97,98,105,108,105,116,121,47,47,107,47,47,48,47,48]⟩),
 (19,⟨#[79,112,84,121,112,101,86,111,105,100,47,114,47,47,47,48,47,55]⟩),
 (20,⟨#[79,112,84,121,112,101,66,111,111,108,47,114,47,47,47,48,47,55]⟩),
 (21,⟨#[79,112,84,121,112,101,73,110,116,47,114,47,110,110,47,47,48,47,55]⟩),
 (23,⟨#[79,112,84,121,112,101,86,101,99,116,111,114,47,114,47,105,110,47,47,48,47,55]⟩),
 (28,⟨#[79,112,84,121,112,101,65,114,114,97,121,47,114,47,105,105,47,47,48,47,55]⟩),
 (30,⟨#[79,112,84,121,112,101,83,116,114,117,99,116,47,114,47,47,105,47,48,47,55]⟩),
 (32,⟨#[79,112,84,121,112,101,80,111,105,110,116,101,114,47,114,47,99,105,47,47,48,47,55]⟩),
 (33,⟨#[79,112,84,121,112,101,70,117,110,99,116,105,111,110,47,114,47,105,47,105,47,48,47,55]⟩)]
def makingT:List (Int×ByteArray):=[
 (41,⟨#[79,112,67,111,110,115,116,97,110,116,84,114,117,101,47,116,114,47,47,47,48,47,55]⟩),
 (42,⟨#[79,112,67,111,110,115,116,97,110,116,70,97,108,115,101,47,116,114,47,47,47,48,47,55]⟩),
 (43,⟨#[79,112,67,111,110,115,116,97,110,116,47,116,114,47,110,47,47,48,47,55]⟩),
 (44,⟨#[79,112,67,111,110,115,116,97,110,116,67,111,109,112,111,115,105,116,101,47,116,114,47,47,105,47,48,47,55]⟩),
 (46,⟨#[79,112,67,111,110,115,116,97,110,116,78,117,108,108,47,116,114,47,47,47,48,47,55]⟩),
 (54,⟨#[79,112,70,117,110,99,116,105,111,110,47,116,114,47,102,105,47,47,48,47,56]⟩),
 (55,⟨#[79,112,70,117,110,99,116,105,111,110,80,97,114,97,109,101,116,101,114,47,116,114,47,47,47,48,47,56]⟩),
 (56,⟨#[79,112,70,117,110,99,116,105,111,110,69,110,100,47,47,47,47,48,47,56]⟩),
 (57,⟨#[79,112,70,117,110,99,116,105,111,110,67,97,108,108,47,116,114,47,105,47,105,47,48,47,56]⟩),
 (59,⟨#[79,112,86,97,114,105,97,98,108,101,47,116,114,47,99,47,105,47,49,47,55]⟩),
 (61,⟨#[79,112,76,111,97,100,47,116,114,47,105,47,47,48,47,56]⟩),
 (62,⟨#[79,112,83,116,111,114,101,47,47,105,105,47,47,48,47,56]⟩),
 (65,⟨#[79,112,65,99,99,101,115,115,67,104,97,105,110,47,116,114,47,105,47,105,47,48,47,56]⟩),
 (71,⟨#[79,112,68,101,99,111,114,97,116,101,47,47,105,100,47,110,47,48,47,54]⟩),
 (77,⟨#[79,112,86,101,99,116,111,114,69,120,116,114,97,99,116,68,121,110,97,109,105,99,47,116,114,47,105,105,47,47,48,47,56]⟩),
 (78,⟨#[79,112,86,101,99,116,111,114,73,110,115,101,114,116,68,121,110,97,109,105,99,47,116,114,47,105,105,105,47,47,48,47,56]⟩),
 (79,⟨#[79,112,86,101,99,116,111,114,83,104,117,102,102,108,101,47,116,114,47,105,105,47,110,47,48,47,56]⟩),
 (80,⟨#[79,112,67,111,109,112,111,115,105,116,101,67,111,110,115,116,114,117,99,116,47,116,114,47,47,105,47,48,47,56]⟩),
 (81,⟨#[79,112,67,111,109,112,111,115,105,116,101,69,120,116,114,97,99,116,47,116,114,47,105,47,110,47,48,47,56]⟩),
 (82,⟨#[79,112,67,111,109,112,111,115,105,116,101,73,110,115,101,114,116,47,116,114,47,105,105,47,110,47,48,47,56]⟩),
 (83,⟨#[79,112,67,111,112,121,79,98,106,101,99,116,47,116,114,47,105,47,47,48,47,56]⟩)]
def countingT:List (Int×ByteArray):=[
 (124,⟨#[79,112,66,105,116,99,97,115,116,47,116,114,47,105,47,47,48,47,56]⟩),
 (126,⟨#[79,112,83,78,101,103,97,116,101,47,116,114,47,105,47,47,48,47,56]⟩),
 (128,⟨#[79,112,73,65,100,100,47,116,114,47,105,105,47,47,48,47,56]⟩),
 (130,⟨#[79,112,73,83,117,98,47,116,114,47,105,105,47,47,48,47,56]⟩),
 (132,⟨#[79,112,73,77,117,108,47,116,114,47,105,105,47,47,48,47,56]⟩),
 (134,⟨#[79,112,85,68,105,118,47,116,114,47,105,105,47,47,48,47,56]⟩),
 (135,⟨#[79,112,83,68,105,118,47,116,114,47,105,105,47,47,48,47,56]⟩),
 (137,⟨#[79,112,85,77,111,100,47,116,114,47,105,105,47,47,48,47,56]⟩),
 (138,⟨#[79,112,83,82,101,109,47,116,114,47,105,105,47,47,48,47,56]⟩),
 (139,⟨#[79,112,83,77,111,100,47,116,114,47,105,105,47,47,48,47,56]⟩),
 (149,⟨#[79,112,73,65,100,100,67,97,114,114,121,47,116,114,47,105,105,47,47,48,47,56]⟩),
 (150,⟨#[79,112,73,83,117,98,66,111,114,114,111,119,47,116,114,47,105,105,47,47,48,47,56]⟩),
 (151,⟨#[79,112,85,77,117,108,69,120,116,101,110,100,101,100,47,116,114,47,105,105,47,47,48,47,56]⟩),
 (152,⟨#[79,112,83,77,117,108,69,120,116,101,110,100,101,100,47,116,114,47,105,105,47,47,48,47,56]⟩),
 (154,⟨#[79,112,65,110,121,47,116,114,47,105,47,47,48,47,56]⟩),
 (155,⟨#[79,112,65,108,108,47,116,114,47,105,47,47,48,47,56]⟩)]
def comparingT:List (Int×ByteArray):=[
 (164,⟨#[79,112,76,111,103,105,99,97,108,69,113,117,97,108,47,116,114,47,105,105,47,47,48,47,56]⟩),
 (165,⟨#[79,112,76,111,103,105,99,97,108,78,111,116,69,113,117,97,108,47,116,114,47,105,105,47,47,48,47,56]⟩),
 (166,⟨#[79,112,76,111,103,105,99,97,108,79,114,47,116,114,47,105,105,47,47,48,47,56]⟩),
 (167,⟨#[79,112,76,111,103,105,99,97,108,65,110,100,47,116,114,47,105,105,47,47,48,47,56]⟩),
 (168,⟨#[79,112,76,111,103,105,99,97,108,78,111,116,47,116,114,47,105,47,47,48,47,56]⟩),
 (169,⟨#[79,112,83,101,108,101,99,116,47,116,114,47,105,105,105,47,47,48,47,56]⟩),
 (170,⟨#[79,112,73,69,113,117,97,108,47,116,114,47,105,105,47,47,48,47,56]⟩),
 (171,⟨#[79,112,73,78,111,116,69,113,117,97,108,47,116,114,47,105,105,47,47,48,47,56]⟩),
 (172,⟨#[79,112,85,71,114,101,97,116,101,114,84,104,97,110,47,116,114,47,105,105,47,47,48,47,56]⟩),
 (173,⟨#[79,112,83,71,114,101,97,116,101,114,84,104,97,110,47,116,114,47,105,105,47,47,48,47,56]⟩),
 (174,⟨#[79,112,85,71,114,101,97,116,101,114,84,104,97,110,69,113,117,97,108,47,116,114,47,105,105,47,47,48,47,56]⟩),
 (175,⟨#[79,112,83,71,114,101,97,116,101,114,84,104,97,110,69,113,117,97,108,47,116,114,47,105,105,47,47,48,47,56]⟩),
 (176,⟨#[79,112,85,76,101,115,115,84,104,97,110,47,116,114,47,105,105,47,47,48,47,56]⟩),
 (177,⟨#[79,112,83,76,101,115,115,84,104,97,110,47,116,114,47,105,105,47,47,48,47,56]⟩),
 (178,⟨#[79,112,85,76,101,115,115,84,104,97,110,69,113,117,97,108,47,116,114,47,105,105,47,47,48,47,56]⟩),
 (179,⟨#[79,112,83,76,101,115,115,84,104,97,110,69,113,117,97,108,47,116,114,47,105,105,47,47,48,47,56]⟩)]
def bitT:List (Int×ByteArray):=[
 (194,⟨#[79,112,83,104,105,102,116,82,105,103,104,116,76,111,103,105,99,97,108,47,116,114,47,105,105,47,47,48,47,56]⟩),
 (195,⟨#[79,112,83,104,105,102,116,82,105,103,104,116,65,114,105,116,104,109,101,116,105,99,47,116,114,47,105,105,47,47,48,47,56]⟩),
 (196,⟨#[79,112,83,104,105,102,116,76,101,102,116,76,111,103,105,99,97,108,47,116,114,47,105,105,47,47,48,47,56]⟩),
 (197,⟨#[79,112,66,105,116,119,105,115,101,79,114,47,116,114,47,105,105,47,47,48,47,56]⟩),
 (198,⟨#[79,112,66,105,116,119,105,115,101,88,111,114,47,116,114,47,105,105,47,47,48,47,56]⟩),
 (199,⟨#[79,112,66,105,116,119,105,115,101,65,110,100,47,116,114,47,105,105,47,47,48,47,56]⟩),
 (200,⟨#[79,112,78,111,116,47,116,114,47,105,47,47,48,47,56]⟩),
 (201,⟨#[79,112,66,105,116,70,105,101,108,100,73,110,115,101,114,116,47,116,114,47,105,105,105,105,47,47,48,47,56]⟩),
 (202,⟨#[79,112,66,105,116,70,105,101,108,100,83,69,120,116,114,97,99,116,47,116,114,47,105,105,105,47,47,48,47,56]⟩),
 (203,⟨#[79,112,66,105,116,70,105,101,108,100,85,69,120,116,114,97,99,116,47,116,114,47,105,105,105,47,47,48,47,56]⟩),
 (204,⟨#[79,112,66,105,116,82,101,118,101,114,115,101,47,116,114,47,105,47,47,48,47,56]⟩),
 (205,⟨#[79,112,66,105,116,67,111,117,110,116,47,116,114,47,105,47,47,48,47,56]⟩)]
def flowT:List (Int×ByteArray):=[
 (245,⟨#[79,112,80,104,105,47,116,114,47,47,105,105,47,48,47,56]⟩),
 (246,⟨#[79,112,76,111,111,112,77,101,114,103,101,47,47,105,105,103,47,47,48,47,56]⟩),
 (247,⟨#[79,112,83,101,108,101,99,116,105,111,110,77,101,114,103,101,47,47,105,104,47,47,48,47,56]⟩),
 (248,⟨#[79,112,76,97,98,101,108,47,114,47,47,47,48,47,56]⟩),
 (249,⟨#[79,112,66,114,97,110,99,104,47,47,105,47,47,48,47,56]⟩),
 (250,⟨#[79,112,66,114,97,110,99,104,67,111,110,100,105,116,105,111,110,97,108,47,47,105,105,105,47,47,48,47,56]⟩),
 (251,⟨#[79,112,83,119,105,116,99,104,47,47,105,105,47,110,105,47,48,47,56]⟩),
 (252,⟨#[79,112,75,105,108,108,47,47,47,47,48,47,56]⟩),
 (253,⟨#[79,112,82,101,116,117,114,110,47,47,47,47,48,47,56]⟩),
 (254,⟨#[79,112,82,101,116,117,114,110,86,97,108,117,101,47,47,105,47,47,48,47,56]⟩),
 (255,⟨#[79,112,85,110,114,101,97,99,104,97,98,108,101,47,47,47,47,48,47,56]⟩)]
def enumT:List (Int×ByteArray):=[
 (107,⟨#[48,58,77,97,116,114,105,120,59,49,58,83,104,97,100,101,114,59]⟩),
 (97,⟨#[48,58,76,111,103,105,99,97,108,59]⟩),
 (109,⟨#[48,58,83,105,109,112,108,101,59,49,58,71,76,83,76,52,53,48,59]⟩),
 (101,⟨#[48,58,86,101,114,116,101,120,59,52,58,70,114,97,103,109,101,110,116,59]⟩),
 (120,⟨#[55,58,79,114,105,103,105,110,85,112,112,101,114,76,101,102,116,59]⟩),
 (108,⟨#[48,58,85,110,107,110,111,119,110,59,49,58,69,83,83,76,59,50,58,71,76,83,76,59]⟩),
 (99,⟨#[49,58,73,110,112,117,116,59,51,58,79,117,116,112,117,116,59,54,58,80,114,105,118,97,116,101,59,55,58,70,117,110,99,116,105,111,110,59]⟩),
 (100,⟨#[48,58,82,101,108,97,120,101,100,80,114,101,99,105,115,105,111,110,59,49,49,58,66,117,105,108,116,73,110,59,49,52,58,70,108,97,116,59,51,48,58,76,111,99,97,116,105,111,110,59]⟩),
 (102,⟨#[48,58,78,111,110,101,59,49,58,73,110,108,105,110,101,59,50,58,68,111,110,116,73,110,108,105,110,101,59,52,58,80,117,114,101,59,56,58,67,111,110,115,116,59]⟩),
 (104,⟨#[48,58,78,111,110,101,59,49,58,70,108,97,116,116,101,110,59,50,58,68,111,110,116,70,108,97,116,116,101,110,59]⟩),
 (103,⟨#[48,58,78,111,110,101,59,49,58,85,110,114,111,108,108,59,50,58,68,111,110,116,85,110,114,111,108,108,59]⟩)]
abbrev Frm:=ByteArray×Bool×Bool×ByteArray×ByteArray×Int×Int
def refT:List (Int×Frm):=[
 (1,⟨#[79,112,85,110,100,101,102]⟩,true,true,⟨#[]⟩,⟨#[]⟩,0,7),
 (3,⟨#[79,112,83,111,117,114,99,101]⟩,false,false,⟨#[108,110]⟩,⟨#[]⟩,0,4),
 (5,⟨#[79,112,78,97,109,101]⟩,false,false,⟨#[105,115]⟩,⟨#[]⟩,0,5),
 (6,⟨#[79,112,77,101,109,98,101,114,78,97,109,101]⟩,false,false,⟨#[105,110,115]⟩,⟨#[]⟩,0,5),
 (7,⟨#[79,112,83,116,114,105,110,103]⟩,false,true,⟨#[115]⟩,⟨#[]⟩,0,4),
 (14,⟨#[79,112,77,101,109,111,114,121,77,111,100,101,108]⟩,false,false,⟨#[97,109]⟩,⟨#[]⟩,0,1),
 (15,⟨#[79,112,69,110,116,114,121,80,111,105,110,116]⟩,false,false,⟨#[101,105,115]⟩,⟨#[105]⟩,0,2),
 (16,⟨#[79,112,69,120,101,99,117,116,105,111,110,77,111,100,101]⟩,false,false,⟨#[105,120]⟩,⟨#[]⟩,0,3),
 (17,⟨#[79,112,67,97,112,97,98,105,108,105,116,121]⟩,false,false,⟨#[107]⟩,⟨#[]⟩,0,0),
 (19,⟨#[79,112,84,121,112,101,86,111,105,100]⟩,false,true,⟨#[]⟩,⟨#[]⟩,0,7),
 (20,⟨#[79,112,84,121,112,101,66,111,111,108]⟩,false,true,⟨#[]⟩,⟨#[]⟩,0,7),
 (21,⟨#[79,112,84,121,112,101,73,110,116]⟩,false,true,⟨#[110,110]⟩,⟨#[]⟩,0,7),
 (23,⟨#[79,112,84,121,112,101,86,101,99,116,111,114]⟩,false,true,⟨#[105,110]⟩,⟨#[]⟩,0,7),
 (28,⟨#[79,112,84,121,112,101,65,114,114,97,121]⟩,false,true,⟨#[105,105]⟩,⟨#[]⟩,0,7),
 (30,⟨#[79,112,84,121,112,101,83,116,114,117,99,116]⟩,false,true,⟨#[]⟩,⟨#[105]⟩,0,7),
 (32,⟨#[79,112,84,121,112,101,80,111,105,110,116,101,114]⟩,false,true,⟨#[99,105]⟩,⟨#[]⟩,0,7),
 (33,⟨#[79,112,84,121,112,101,70,117,110,99,116,105,111,110]⟩,false,true,⟨#[105]⟩,⟨#[105]⟩,0,7),
 (41,⟨#[79,112,67,111,110,115,116,97,110,116,84,114,117,101]⟩,true,true,⟨#[]⟩,⟨#[]⟩,0,7),
 (42,⟨#[79,112,67,111,110,115,116,97,110,116,70,97,108,115,101]⟩,true,true,⟨#[]⟩,⟨#[]⟩,0,7),
 (43,⟨#[79,112,67,111,110,115,116,97,110,116]⟩,true,true,⟨#[110]⟩,⟨#[]⟩,0,7),
 (44,⟨#[79,112,67,111,110,115,116,97,110,116,67,111,109,112,111,115,105,116,101]⟩,true,true,⟨#[]⟩,⟨#[105]⟩,0,7),
 (46,⟨#[79,112,67,111,110,115,116,97,110,116,78,117,108,108]⟩,true,true,⟨#[]⟩,⟨#[]⟩,0,7),
 (54,⟨#[79,112,70,117,110,99,116,105,111,110]⟩,true,true,⟨#[102,105]⟩,⟨#[]⟩,0,8),
 (55,⟨#[79,112,70,117,110,99,116,105,111,110,80,97,114,97,109,101,116,101,114]⟩,true,true,⟨#[]⟩,⟨#[]⟩,0,8),
 (56,⟨#[79,112,70,117,110,99,116,105,111,110,69,110,100]⟩,false,false,⟨#[]⟩,⟨#[]⟩,0,8),
 (57,⟨#[79,112,70,117,110,99,116,105,111,110,67,97,108,108]⟩,true,true,⟨#[105]⟩,⟨#[105]⟩,0,8),
 (59,⟨#[79,112,86,97,114,105,97,98,108,101]⟩,true,true,⟨#[99]⟩,⟨#[105]⟩,1,7),
 (61,⟨#[79,112,76,111,97,100]⟩,true,true,⟨#[105]⟩,⟨#[]⟩,0,8),
 (62,⟨#[79,112,83,116,111,114,101]⟩,false,false,⟨#[105,105]⟩,⟨#[]⟩,0,8),
 (65,⟨#[79,112,65,99,99,101,115,115,67,104,97,105,110]⟩,true,true,⟨#[105]⟩,⟨#[105]⟩,0,8),
 (71,⟨#[79,112,68,101,99,111,114,97,116,101]⟩,false,false,⟨#[105,100]⟩,⟨#[110]⟩,0,6),
 (77,⟨#[79,112,86,101,99,116,111,114,69,120,116,114,97,99,116,68,121,110,97,109,105,99]⟩,true,true,⟨#[105,105]⟩,⟨#[]⟩,0,8),
 (78,⟨#[79,112,86,101,99,116,111,114,73,110,115,101,114,116,68,121,110,97,109,105,99]⟩,true,true,⟨#[105,105,105]⟩,⟨#[]⟩,0,8),
 (79,⟨#[79,112,86,101,99,116,111,114,83,104,117,102,102,108,101]⟩,true,true,⟨#[105,105]⟩,⟨#[110]⟩,0,8),
 (80,⟨#[79,112,67,111,109,112,111,115,105,116,101,67,111,110,115,116,114,117,99,116]⟩,true,true,⟨#[]⟩,⟨#[105]⟩,0,8),
 (81,⟨#[79,112,67,111,109,112,111,115,105,116,101,69,120,116,114,97,99,116]⟩,true,true,⟨#[105]⟩,⟨#[110]⟩,0,8),
 (82,⟨#[79,112,67,111,109,112,111,115,105,116,101,73,110,115,101,114,116]⟩,true,true,⟨#[105,105]⟩,⟨#[110]⟩,0,8),
 (83,⟨#[79,112,67,111,112,121,79,98,106,101,99,116]⟩,true,true,⟨#[105]⟩,⟨#[]⟩,0,8),
 (124,⟨#[79,112,66,105,116,99,97,115,116]⟩,true,true,⟨#[105]⟩,⟨#[]⟩,0,8),
 (126,⟨#[79,112,83,78,101,103,97,116,101]⟩,true,true,⟨#[105]⟩,⟨#[]⟩,0,8),
 (128,⟨#[79,112,73,65,100,100]⟩,true,true,⟨#[105,105]⟩,⟨#[]⟩,0,8),
 (130,⟨#[79,112,73,83,117,98]⟩,true,true,⟨#[105,105]⟩,⟨#[]⟩,0,8),
 (132,⟨#[79,112,73,77,117,108]⟩,true,true,⟨#[105,105]⟩,⟨#[]⟩,0,8),
 (134,⟨#[79,112,85,68,105,118]⟩,true,true,⟨#[105,105]⟩,⟨#[]⟩,0,8),
 (135,⟨#[79,112,83,68,105,118]⟩,true,true,⟨#[105,105]⟩,⟨#[]⟩,0,8),
 (137,⟨#[79,112,85,77,111,100]⟩,true,true,⟨#[105,105]⟩,⟨#[]⟩,0,8),
 (138,⟨#[79,112,83,82,101,109]⟩,true,true,⟨#[105,105]⟩,⟨#[]⟩,0,8),
 (139,⟨#[79,112,83,77,111,100]⟩,true,true,⟨#[105,105]⟩,⟨#[]⟩,0,8),
 (149,⟨#[79,112,73,65,100,100,67,97,114,114,121]⟩,true,true,⟨#[105,105]⟩,⟨#[]⟩,0,8),
 (150,⟨#[79,112,73,83,117,98,66,111,114,114,111,119]⟩,true,true,⟨#[105,105]⟩,⟨#[]⟩,0,8),
 (151,⟨#[79,112,85,77,117,108,69,120,116,101,110,100,101,100]⟩,true,true,⟨#[105,105]⟩,⟨#[]⟩,0,8),
 (152,⟨#[79,112,83,77,117,108,69,120,116,101,110,100,101,100]⟩,true,true,⟨#[105,105]⟩,⟨#[]⟩,0,8),
 (154,⟨#[79,112,65,110,121]⟩,true,true,⟨#[105]⟩,⟨#[]⟩,0,8),
 (155,⟨#[79,112,65,108,108]⟩,true,true,⟨#[105]⟩,⟨#[]⟩,0,8),
 (164,⟨#[79,112,76,111,103,105,99,97,108,69,113,117,97,108]⟩,true,true,⟨#[105,105]⟩,⟨#[]⟩,0,8),
 (165,⟨#[79,112,76,111,103,105,99,97,108,78,111,116,69,113,117,97,108]⟩,true,true,⟨#[105,105]⟩,⟨#[]⟩,0,8),
 (166,⟨#[79,112,76,111,103,105,99,97,108,79,114]⟩,true,true,⟨#[105,105]⟩,⟨#[]⟩,0,8),
 (167,⟨#[79,112,76,111,103,105,99,97,108,65,110,100]⟩,true,true,⟨#[105,105]⟩,⟨#[]⟩,0,8),
 (168,⟨#[79,112,76,111,103,105,99,97,108,78,111,116]⟩,true,true,⟨#[105]⟩,⟨#[]⟩,0,8),
 (169,⟨#[79,112,83,101,108,101,99,116]⟩,true,true,⟨#[105,105,105]⟩,⟨#[]⟩,0,8),
 (170,⟨#[79,112,73,69,113,117,97,108]⟩,true,true,⟨#[105,105]⟩,⟨#[]⟩,0,8),
 (171,⟨#[79,112,73,78,111,116,69,113,117,97,108]⟩,true,true,⟨#[105,105]⟩,⟨#[]⟩,0,8),
 (172,⟨#[79,112,85,71,114,101,97,116,101,114,84,104,97,110]⟩,true,true,⟨#[105,105]⟩,⟨#[]⟩,0,8),
 (173,⟨#[79,112,83,71,114,101,97,116,101,114,84,104,97,110]⟩,true,true,⟨#[105,105]⟩,⟨#[]⟩,0,8),
 (174,⟨#[79,112,85,71,114,101,97,116,101,114,84,104,97,110,69,113,117,97,108]⟩,true,true,⟨#[105,105]⟩,⟨#[]⟩,0,8),
 (175,⟨#[79,112,83,71,114,101,97,116,101,114,84,104,97,110,69,113,117,97,108]⟩,true,true,⟨#[105,105]⟩,⟨#[]⟩,0,8),
 (176,⟨#[79,112,85,76,101,115,115,84,104,97,110]⟩,true,true,⟨#[105,105]⟩,⟨#[]⟩,0,8),
 (177,⟨#[79,112,83,76,101,115,115,84,104,97,110]⟩,true,true,⟨#[105,105]⟩,⟨#[]⟩,0,8),
 (178,⟨#[79,112,85,76,101,115,115,84,104,97,110,69,113,117,97,108]⟩,true,true,⟨#[105,105]⟩,⟨#[]⟩,0,8),
 (179,⟨#[79,112,83,76,101,115,115,84,104,97,110,69,113,117,97,108]⟩,true,true,⟨#[105,105]⟩,⟨#[]⟩,0,8),
 (194,⟨#[79,112,83,104,105,102,116,82,105,103,104,116,76,111,103,105,99,97,108]⟩,true,true,⟨#[105,105]⟩,⟨#[]⟩,0,8),
 (195,⟨#[79,112,83,104,105,102,116,82,105,103,104,116,65,114,105,116,104,109,101,116,105,99]⟩,true,true,⟨#[105,105]⟩,⟨#[]⟩,0,8),
 (196,⟨#[79,112,83,104,105,102,116,76,101,102,116,76,111,103,105,99,97,108]⟩,true,true,⟨#[105,105]⟩,⟨#[]⟩,0,8),
 (197,⟨#[79,112,66,105,116,119,105,115,101,79,114]⟩,true,true,⟨#[105,105]⟩,⟨#[]⟩,0,8),
 (198,⟨#[79,112,66,105,116,119,105,115,101,88,111,114]⟩,true,true,⟨#[105,105]⟩,⟨#[]⟩,0,8),
 (199,⟨#[79,112,66,105,116,119,105,115,101,65,110,100]⟩,true,true,⟨#[105,105]⟩,⟨#[]⟩,0,8),
 (200,⟨#[79,112,78,111,116]⟩,true,true,⟨#[105]⟩,⟨#[]⟩,0,8),
 (201,⟨#[79,112,66,105,116,70,105,101,108,100,73,110,115,101,114,116]⟩,true,true,⟨#[105,105,105,105]⟩,⟨#[]⟩,0,8),
 (202,⟨#[79,112,66,105,116,70,105,101,108,100,83,69,120,116,114,97,99,116]⟩,true,true,⟨#[105,105,105]⟩,⟨#[]⟩,0,8),
 (203,⟨#[79,112,66,105,116,70,105,101,108,100,85,69,120,116,114,97,99,116]⟩,true,true,⟨#[105,105,105]⟩,⟨#[]⟩,0,8),
 (204,⟨#[79,112,66,105,116,82,101,118,101,114,115,101]⟩,true,true,⟨#[105]⟩,⟨#[]⟩,0,8),
 (205,⟨#[79,112,66,105,116,67,111,117,110,116]⟩,true,true,⟨#[105]⟩,⟨#[]⟩,0,8),
 (245,⟨#[79,112,80,104,105]⟩,true,true,⟨#[]⟩,⟨#[105,105]⟩,0,8),
 (246,⟨#[79,112,76,111,111,112,77,101,114,103,101]⟩,false,false,⟨#[105,105,103]⟩,⟨#[]⟩,0,8),
 (247,⟨#[79,112,83,101,108,101,99,116,105,111,110,77,101,114,103,101]⟩,false,false,⟨#[105,104]⟩,⟨#[]⟩,0,8),
 (248,⟨#[79,112,76,97,98,101,108]⟩,false,true,⟨#[]⟩,⟨#[]⟩,0,8),
 (249,⟨#[79,112,66,114,97,110,99,104]⟩,false,false,⟨#[105]⟩,⟨#[]⟩,0,8),
 (250,⟨#[79,112,66,114,97,110,99,104,67,111,110,100,105,116,105,111,110,97,108]⟩,false,false,⟨#[105,105,105]⟩,⟨#[]⟩,0,8),
 (251,⟨#[79,112,83,119,105,116,99,104]⟩,false,false,⟨#[105,105]⟩,⟨#[110,105]⟩,0,8),
 (252,⟨#[79,112,75,105,108,108]⟩,false,false,⟨#[]⟩,⟨#[]⟩,0,8),
 (253,⟨#[79,112,82,101,116,117,114,110]⟩,false,false,⟨#[]⟩,⟨#[]⟩,0,8),
 (254,⟨#[79,112,82,101,116,117,114,110,86,97,108,117,101]⟩,false,false,⟨#[105]⟩,⟨#[]⟩,0,8),
 (255,⟨#[79,112,85,110,114,101,97,99,104,97,98,108,101]⟩,false,false,⟨#[]⟩,⟨#[]⟩,0,8)]
def namesT:List (Int×Int×ByteArray):=[
 (107,0,⟨#[77,97,116,114,105,120]⟩),
 (107,1,⟨#[83,104,97,100,101,114]⟩),
 (97,0,⟨#[76,111,103,105,99,97,108]⟩),
 (109,0,⟨#[83,105,109,112,108,101]⟩),
 (109,1,⟨#[71,76,83,76,52,53,48]⟩),
 (101,0,⟨#[86,101,114,116,101,120]⟩),
 (101,4,⟨#[70,114,97,103,109,101,110,116]⟩),
 (120,7,⟨#[79,114,105,103,105,110,85,112,112,101,114,76,101,102,116]⟩),
 (108,0,⟨#[85,110,107,110,111,119,110]⟩),
 (108,1,⟨#[69,83,83,76]⟩),
 (108,2,⟨#[71,76,83,76]⟩),
 (99,1,⟨#[73,110,112,117,116]⟩),
 (99,3,⟨#[79,117,116,112,117,116]⟩),
 (99,6,⟨#[80,114,105,118,97,116,101]⟩),
 (99,7,⟨#[70,117,110,99,116,105,111,110]⟩),
 (100,0,⟨#[82,101,108,97,120,101,100,80,114,101,99,105,115,105,111,110]⟩),
 (100,11,⟨#[66,117,105,108,116,73,110]⟩),
 (100,14,⟨#[70,108,97,116]⟩),
 (100,30,⟨#[76,111,99,97,116,105,111,110]⟩),
 (102,0,⟨#[78,111,110,101]⟩),
 (102,1,⟨#[73,110,108,105,110,101]⟩),
 (102,2,⟨#[68,111,110,116,73,110,108,105,110,101]⟩),
 (102,4,⟨#[80,117,114,101]⟩),
 (102,8,⟨#[67,111,110,115,116]⟩),
 (104,0,⟨#[78,111,110,101]⟩),
 (104,1,⟨#[70,108,97,116,116,101,110]⟩),
 (104,2,⟨#[68,111,110,116,70,108,97,116,116,101,110]⟩),
 (103,0,⟨#[78,111,110,101]⟩),
 (103,1,⟨#[85,110,114,111,108,108]⟩),
 (103,2,⟨#[68,111,110,116,85,110,114,111,108,108]⟩)]
set_option linter.unusedSimpArgs false
def Agree (lo:Nat) (a a':Act):Prop:=a'.tmps.size=a.tmps.size∧a'.defers=a.defers∧∀ i,i<lo→a'.tmps.getD i undef=a.tmps.getD i undef
theorem Agree.refl (lo:Nat) (a:Act):Agree lo a a:=⟨rfl,rfl,fun _ _=>rfl⟩
theorem Agree.trans {lo:Nat} {a b c:Act} (h:Agree lo a b) (k:Agree lo b c):Agree lo a c:=⟨k.1.trans h.1,k.2.1.trans h.2.1,fun i hi=>(k.2.2 i hi).trans (h.2.2 i hi)⟩
theorem getD_put (a:Act) (d i:Nat) (v:Value):(a.put (some d) v).tmps.getD i undef=if d=i∧i<a.tmps.size then v else a.tmps.getD i undef:=by
 simp only [Act.put,Array.getD_eq_getD_getElem?,Array.getElem?_setIfInBounds]
 split
 ·rename_i h;subst h
  by_cases h:d<a.tmps.size <;> simp [h]
 ·rename_i h;simp [h]
theorem Agree.put {lo:Nat} (a:Act) {d:Nat} (h:lo≤d) (v:Value):Agree lo a (a.put (some d) v) :=
 ⟨by simp [Act.put],by simp [Act.put],fun i hi=>by rw [getD_put,if_neg (by omega)]⟩
theorem op_value {P:Program} {o:Oper} {a:Act} {w:World} {K:Act→World→Prop} {Q:Exit→Act→World→Prop} {v:Value} (h:(execOp a.eval o).run P w=.ok (.value v) w) (hK:K (a.put o.dst v) w):o.wp P a w K Q:=by
 unfold Oper.wp;rw [h];exact hK
def testOf (x lo b:Nat) (kd:IntKind):List Oper→Option Int
 | [⟨some t,.binOp .eql _ (.tmp x') (.const (.int kd' k)) _,_,_,_,none⟩,⟨some b',.assign (.tmp t'),_,_,_,none⟩] =>
  if x'=x∧kd'=kd∧b'=b∧t'=t∧lo≤t∧lo≤b then some k else none
 | _=>none
theorem wp_test {P:Program} {Q:Exit→Act→World→Prop} {x lo b id:Nat} {kd:IntKind} {k n:Int} {ops:Array Oper} (h:testOf x lo b kd ops.toList=some k) {a:Act} {w:World}
  (hx:a.tmps.getD x undef=.int kd n) (hs:b<a.tmps.size)
  (hK:∀ a',Agree lo a a'→a'.tmps.getD b undef=.bool (n==k)→Q .normal a' w) (hts:∀ t o,ops.toList.head?=some o→o.dst=some t→t<a.tmps.size):(Code.region id ops false).wp P Q a w:=by
 refine wp_region_list ?_
 generalize hl:ops.toList=l at *
 unfold testOf at h
 split at h
 case h_2=>cases h
 rename_i t e1 x' kd' k' e2 e3 e4 e5 b' t' e6 e7 e8
 split at h
 case isFalse=>cases h
 rename_i hh
 obtain⟨rfl,rfl,rfl,rfl,h1,h2⟩:=hh
 cases h
 have ht:t'<a.tmps.size:=hts t' _ rfl rfl
 refine wpList_plain rfl fun K hK1=>?_
 have ev:a.tmps[x']?.getD undef=.int kd' n:=by rw [← Array.getD_eq_getD_getElem?];exact hx
 refine op_value (v:=.bool (n==k)) (by simp [execOp,go_sem,ev]) ?_
 refine hK1 _ _ (wpList_plain rfl fun K2 hK2=>?_)
 have ev2:(a.put (some t') (.bool (n==k))).tmps[t']?.getD undef=.bool (n==k):=by
  rw [← Array.getD_eq_getD_getElem?,getD_put,if_pos ⟨rfl,ht⟩]
 generalize ha2:a.put (some t') (.bool (n==k))=a2 at *
 refine op_value (v:=.bool (n==k)) (by simp [execOp,go_sem,ev2]) ?_
 subst ha2
 refine hK2 _ _ (hK _ ((Agree.put a h1 _).trans (Agree.put _ h2 _)) ?_)
 rw [getD_put,if_pos ⟨rfl,by simpa [Act.put] using hs⟩]
def armsOf (x lo top:Nat) (kd:IntKind):Nat→Code→Option (List (Int×Code))
 | 0,_=>none
 | fuel+1,c =>
  match c with
  | .skip=>some []
  | .seq (.region _ ops false) (.cond (.tmp b) arm rest) =>
   match testOf x lo b kd ops.toList,armsOf x lo top kd fuel rest with
   | some k,some l=>if b<top∧(ops.toList.all fun o=>match o.dst with | some t=>decide (t<top) | none=>true)=true then some ((k,arm) :: l) else none
   | _,_=>none
  | _=>none
theorem wp_arms {P:Program} {Q:Exit→Act→World→Prop} {x lo top:Nat} {kd:IntKind} {n:Int} (hlo:x<lo) :
  ∀ (fuel:Nat) (c:Code) (l:List (Int×Code)) (a:Act) (w:World),armsOf x lo top kd fuel c=some l→a.tmps.size=top→a.tmps.getD x undef=.int kd n →
   (∀ a' k d,Agree lo a a'→(k,d)∈l→n=k→d.wp P Q a' w)→(∀ a',Agree lo a a'→(∀ k d,(k,d)∈l→n≠k)→Q .normal a' w)→c.wp P Q a w:=by
 intro fuel
 induction fuel with
 | zero=>intro c l a w h;cases h
 | succ fuel ih =>
  intro c l a w h hs hx harm hno
  rw [armsOf.eq_def] at h
  dsimp only at h
  split at h
  ·cases h
   exact wp_skip (hno a (Agree.refl _ _) (fun _ _ hm=>by cases hm))
  ·rename_i id ops b arm rest
   split at h
   case h_2=>cases h
   rename_i k l' hk hl'
   split at h
   case isFalse=>cases h
   rename_i hb
   cases h
   refine wp_seq (wp_test (lo:=lo) hk hx (by rw [hs];exact hb.1) (fun a' hag hb'=>?_) (fun t o ho ht=>?_))
   ·refine wp_cond_split (t:=n==k) hb' (fun ht=>?_) (fun hf=>?_)
    ·exact harm a' k arm hag List.mem_cons_self (by simpa using ht)
    ·refine ih rest l' a' w hl' (hag.1.trans hs) ((hag.2.2 x hlo).trans hx) (fun a2 k2 d2 h2 hm e=>harm a2 k2 d2 (hag.trans h2) (List.mem_cons_of_mem _ hm) e) (fun a2 h2 hn=>hno a2 (hag.trans h2) (fun k2 d2 hm=>?_))
     rcases List.mem_cons.1 hm with e | hm
     ·cases e;simpa using hf
     ·exact hn k2 d2 hm
   ·have hm:o∈ops.toList:=List.mem_of_mem_head? ho
    have:=List.all_eq_true.1 hb.2 o hm
    rw [ht] at this
    simp only [decide_eq_true_eq] at this
    rw [hs];exact this
  ·cases h
/-! ### a switch over texts -/

def armText (r:Nat):Code→Option ByteArray
 | .seq (.region _ ops false) .ret =>
  match ops.toList with
  | [⟨some r',.assign (.const (.string s)),_,_,_,none⟩]=>if r'=r then some s else none
  | _=>none
 | _=>none
theorem wp_armText {P:Program} {Q:Exit→Act→World→Prop} {r:Nat} {c:Code} {s:ByteArray} (h:armText r c=some s) {a:Act} {w:World} (hQ:Q .ret (a.put (some r) (.string s)) w):c.wp P Q a w:=by
 unfold armText at h
 split at h
 case h_2=>cases h
 rename_i id ops
 split at h
 case h_2=>cases h
 rename_i r' s' e1 e2 e3 hl
 split at h
 case isFalse=>cases h
 rename_i e
 subst e
 cases h
 refine wp_seq (wp_region_list ?_)
 rw [hl]
 refine wpList_plain rfl fun K hK=>?_
 refine op_value (v:=.string s) (by simp [execOp,go_sem]) ?_
 exact hK _ _ (wpList_nil (wp_ret hQ))
def textsOf (r:Nat):List (Int×Code)→Option (List (Int×ByteArray))
 | []=>some []
 | (k,c) :: l=>match armText r c,textsOf r l with
  | some s,some t=>some ((k,s) :: t)
  | _,_=>none
theorem textsOf_mem {r:Nat}:∀ {l:List (Int×Code)} {t:List (Int×ByteArray)},textsOf r l=some t→∀ k c,(k,c)∈l→∃ s,armText r c=some s∧(k,s)∈t
 | [],_,_,_,_,hm=>by cases hm
 | (k',c') :: l,t,h,k,c,hm=>by
  rw [textsOf] at h
  split at h
  case h_2=>cases h
  rename_i s t' h1 h2
  cases h
  rcases List.mem_cons.1 hm with e | hm
  ·cases e;exact⟨s,h1,List.mem_cons_self⟩
  ·obtain⟨s2,h3,h4⟩:=textsOf_mem h2 k c hm
   exact⟨s2,h3,List.mem_cons_of_mem _ h4⟩
theorem textsOf_keys {r:Nat}:∀ {l:List (Int×Code)} {t:List (Int×ByteArray)},textsOf r l=some t→∀ k s,(k,s)∈t→∃ c,(k,c)∈l
 | [],_,h,_,_,hm=>by rw [textsOf] at h;cases h;cases hm
 | (k',c') :: l,t,h,k,s,hm=>by
  rw [textsOf] at h
  split at h
  case h_2=>cases h
  rename_i s' t' h1 h2
  cases h
  rcases List.mem_cons.1 hm with e | hm
  ·cases e;exact⟨c',List.mem_cons_self⟩
  ·obtain⟨c2,h3⟩:=textsOf_keys h2 k s hm
   exact⟨c2,List.mem_cons_of_mem _ h3⟩
def textSwitch (top:Nat) (kd:IntKind):Code→Option (List (Int×ByteArray))
 | .seq (.region _ o0 false) (.seq (.seq (.region _ o1 false) (.block _ sw)) c) =>
  match o0.toList,o1.toList,armText 2 c with
  | [⟨some 2,.assign (.const (.string _)),_,_,_,none⟩],[⟨some 3,.move (.tmp 0),_,_,_,none⟩],some s =>
   if s.data=#[] then match armsOf 3 4 top kd 200 sw with
    | some l=>textsOf 2 l
    | none=>none
   else none
  | _,_,_=>none
 | _=>none
def lookT:List (Int×ByteArray)→Int→ByteArray
 | [],_=>⟨#[]⟩
 | (k,s) :: l,n=>if n=k then s else lookT l n
def oneEach (l:List (Int×ByteArray)):Bool:=match l with
 | []=>true
 | (k,_) :: l=>(l.all fun p=>decide (p.1≠k)) && oneEach l
theorem lookT_mem:∀ {l:List (Int×ByteArray)},oneEach l=true→∀ k s,(k,s)∈l→lookT l k=s
 | [],_,_,_,h=>by cases h
 | (k',s') :: l,h1,k,s,hm=>by
  rw [oneEach,Bool.and_eq_true] at h1
  rcases List.mem_cons.1 hm with e | hm
  ·cases e;simp [lookT]
  ·have:=List.all_eq_true.1 h1.1 (k,s) hm
   simp only [ne_eq,decide_not,Bool.not_eq_true',decide_eq_false_iff_not] at this
   rw [lookT,if_neg this]
   exact lookT_mem h1.2 k s hm
theorem lookT_none:∀ {l:List (Int×ByteArray)} {n:Int},(∀ k s,(k,s)∈l→n≠k)→lookT l n=⟨#[]⟩
 | [],_,_=>rfl
 | (k',s') :: l,n,h=>by
  rw [lookT,if_neg (h k' s' List.mem_cons_self)]
  exact lookT_none fun k s hm=>h k s (List.mem_cons_of_mem _ hm)
theorem calls_textSwitch {P:Program} {f top:Nat} {fn:Func} {c:Code} {kd:IntKind} {t:List (Int×ByteArray)} (hf:P.funcs[f]?=some fn) (hb:fn.body=some c) (hn:fn.ntmps=top) (h4:4≤top) (hr:fn.results=#[.tmp 2])
  (ht:textSwitch top kd c=some t) (h1:oneEach t=true) (n:Int) (w:World) :
  Calls P f #[.int kd n] w fun e w'=>e=.returned (.string (lookT t n))∧w=w':=by
 refine calls_of_wp hf hb ?_
 unfold textSwitch at ht
 split at ht
 case h_2=>cases ht
 rename_i i0 o0 i1 o1 i2 sw cc
 split at ht
 case h_2=>cases ht
 rename_i s0 y1 y2 y3 z1 z2 z3 s e0 e1 e2
 split at ht
 case isFalse=>cases ht
 rename_i hs
 split at ht
 case h_2=>cases ht
 rename_i l hl
 obtain⟨sd⟩:=s
 simp only at hs
 subst hs
 generalize ha:({ tmps:=#[.int kd n]++Array.replicate (fn.ntmps - (#[Value.int kd n]:Array Value).size) undef,defers:=[] }:Act)=a
 have hsz:a.tmps.size=top:=by rw [← ha];simp [hn];omega
 have ha0:a.tmps.getD 0 undef=.int kd n:=by rw [← ha];rw [Array.getD_eq_getD_getElem?,Array.getElem?_append_left (by simp)];rfl
 have had:a.defers=[]:=by rw [← ha]
 clear ha
 refine wp_seq (wp_region_list ?_)
 rw [e0]
 refine wpList_plain rfl fun K hK=>?_
 refine op_value (v:=.string s0) (by simp [execOp,go_sem]) ?_
 refine hK _ _ (wpList_nil ?_)
 refine wp_seq (wp_seq (wp_region_list ?_))
 rw [e1]
 refine wpList_plain rfl fun K2 hK2=>?_
 have ev:(a.put (some 2) (.string s0)).tmps[0]?.getD undef=.int kd n:=by
  rw [← Array.getD_eq_getD_getElem?,getD_put,if_neg (by omega),ha0]
 generalize ha2:a.put (some 2) (.string s0)=a2 at *
 refine op_value (v:=.int kd n) (by simp [execOp,go_sem,ev]) ?_
 subst ha2
 refine hK2 _ _ (wpList_nil (wp_block ?_))
 generalize hA:(a.put (some 2) (.string s0)).put (some 3) (.int kd n)=A
 have hAs:A.tmps.size=top:=by rw [← hA];simp [Act.put,hsz]
 have hAx:A.tmps.getD 3 undef=.int kd n:=by rw [← hA,getD_put,if_pos ⟨rfl,by simp [Act.put,hsz];omega⟩]
 have hAd:A.defers=[]:=by rw [← hA];simp [Act.put,had]
 clear hA
 have fin:∀ (A':Act) (s:ByteArray),Agree 4 A A'→lookT t n=s→bodyPost P fn (fun e w'=>e=.returned (.string (lookT t n))∧w=w') .ret (A'.put (some 2) (.string s)) w:=fun A' s hag e =>
  ⟨by simp [Act.put,hag.2.1,hAd],.string s,by rw [results_tmp hr,getD_put,if_pos ⟨rfl,by rw [hag.1,hAs];omega⟩],by rw [e],rfl⟩
 refine wp_arms (x:=3) (lo:=4) (n:=n) (by omega) 200 sw l A w hl hAs hAx (fun A' k d hag hm e=>?_) (fun A' hag hno=>?_)
 ·obtain⟨s,h3,h5⟩:=textsOf_mem ht k d hm
  exact wp_armText h3 (fin A' s hag (by rw [e];exact lookT_mem h1 k s h5))
 ·exact wp_armText e2 (fin A' _ hag (lookT_none fun k s hm=>by obtain⟨c,hc⟩:=textsOf_keys ht k s hm;exact hno k c hc))
def sgn (s:ByteArray) (k:Nat):Int:=((s.data.toList.getD k 0).toNat:Int)
theorem sgn_at (s:ByteArray) (k:Nat) (h:k<s.size):((s[k]'h).toNat:Int)=sgn s k:=by
 have h':k<s.data.toList.length:=by simpa using h
 unfold sgn
 rw [List.getD_eq_getElem?_getD,List.getElem?_eq_getElem h']
 rfl
abbrev RdSt:=Int×Int×Frm
def rdStep (s:ByteArray) (k:Nat) (c:Int) (x:RdSt):RdSt :=
 match x with
 | (col,fr,nm,t,r,fx,rs,mo,pa) =>
  if c=47 then (col+1,k+1,nm,t,r,fx,rs,mo,pa)
  else if col=0 then (col,fr,s.extract fr.toNat (k+1),t,r,fx,rs,mo,pa)
  else if col=1 then (col,fr,nm,t || (c==116),r || (c==114),fx,rs,mo,pa)
  else if col=2 then (col,fr,nm,t,r,s.extract fr.toNat (k+1),rs,mo,pa)
  else if col=3 then (col,fr,nm,t,r,fx,s.extract fr.toNat (k+1),mo,pa)
  else if col=4 then (col,fr,nm,t,r,fx,rs,10 * mo+(c - 48),pa)
  else (col,fr,nm,t,r,fx,rs,mo,c - 48)
def rdTo (s:ByteArray):Nat→RdSt
 | 0=>(0,0,⟨#[]⟩,false,false,⟨#[]⟩,⟨#[]⟩,0,0)
 | k+1=>rdStep s k (sgn s k) (rdTo s k)
def rdOk (k:Nat) (c:Int) (x:RdSt):Bool :=
 decide (c<128∧0≤c∧0≤x.1∧x.1≤5∧0≤x.2.1∧x.2.1≤k∧0≤x.2.2.2.2.2.2.2.1∧x.2.2.2.2.2.2.2.1≤1000∧(x.1=4→c≠47→48≤c)∧(x.1=5→c≠47→48≤c))
def goodT (s:ByteArray):Bool:=(List.range s.size).all fun k=>rdOk k (sgn s k) (rdTo s k)
theorem goodT_at {s:ByteArray} (h:goodT s=true) {k:Nat} (hk:k<s.size):rdOk k (sgn s k) (rdTo s k)=true:=List.all_eq_true.1 h k (List.mem_range.2 hk)
def rdF (s:ByteArray):Frm:=(rdTo s s.size).2.2
def ftxt (n:Int):ByteArray:=if n<41 then lookT namingT n else if n<124 then lookT makingT n else if n<164 then lookT countingT n else if n<194 then lookT comparingT n else if n<245 then lookT bitT n else lookT flowT n
set_option maxRecDepth 10000
def formV (op:Int) (f:Frm):Value:=.agg #[.int .u16 op,.string f.1,.bool f.2.1,.bool f.2.2.1,.string f.2.2.2.1,.string f.2.2.2.2.1,.int .i64 f.2.2.2.2.2.1,.int .u8 f.2.2.2.2.2.2]
def noFrm:Frm:=(⟨#[]⟩,false,false,⟨#[]⟩,⟨#[]⟩,0,0)
theorem form_any (n:Int) (nm:ByteArray) (t r:Bool) (fx rs:ByteArray) (mo pa:Int) (w:World) :
  Calls Tryz.prog 156 #[.int .u16 n,.string nm,.bool t,.bool r,.string fx,.string rs,.int .i64 mo,.int .u8 pa] w fun e w'=>e=.returned (.agg #[.int .u16 n,.string nm,.bool t,.bool r,.string fx,.string rs,.int .i64 mo,.int .u8 pa])∧Below w.heap.size w w':=by
 go_enter Tryz.func156,Tryz.ntmps156
 go_wp2
 go_goals
 exact bodyPost_ret (v:=.agg #[.int .u16 n,.string nm,.bool t,.bool r,.string fx,.string rs,.int .i64 mo,.int .u8 pa]) (by simp [results,Tryz.results156,go_sem]) rfl ⟨rfl,(Below.refl _ _).alloc (Nat.le_refl _) _⟩
end Go.Proofs.YtlcaedibmlidlaaGreat
