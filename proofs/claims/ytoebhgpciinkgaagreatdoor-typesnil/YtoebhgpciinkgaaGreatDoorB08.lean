/-
  Texts in one: MapU, MapV, CodeIds, MathU, MathV, MathW, MathJ, LayoutKindO, LayoutKindA, LayoutKindB, LayoutKindC, LayoutKindD, LayoutKindE, LayoutKindF, LayoutKindOf, LayoutWalk0, LayoutEnds.
-/
import Derived.Test.YtoebhgpciinkgaaGreatDoorB06
import Derived.Maps.OwnSet
import Derived.StringKeys
import Derived.KernelRfl
namespace Go.Proofs.YtoebhgpciinkgaaGreatDoor
open Go.RowKit Go.Maps
set_option linter.unusedVariables false
set_option linter.unusedSimpArgs false
set_option maxRecDepth 10000
theorem keyU:Keyed Tryz.prog 22:=int_keyed Tryz.underlying22
theorem keyU_of {x:Int} (h0:0≤x) (h1:x<4294967296):keyOf Tryz.prog 22 (.int .u32 x)=some (.int .u32 x):=keyOf_int_mk Tryz.underlying22 (by simp [Lit.wf,show IntKind.u32.min=0 from rfl,show IntKind.u32.max=4294967295 from rfl];omega)
def MapU (w:World) (E:TypeId) (q:IntKind) (b n:Nat) (f:Int→Option Int):Prop :=
 ∃ D:DataW Unit,w.ownsMap Tryz.prog 22 (plainElem Tryz.prog E) b n D∧(∀ x,Maps.has D (.int .u32 x)=(f x).isSome)∧∀ x,D.atKey (.int .u32 x) (.lit (.int q 0))=.lit (.int q ((f x).getD 0))
theorem MapU.made (w:World) (E:TypeId) (q:IntKind):MapU (w.alloc (.map #[] 0)) E q w.heap.size 0 (fun _=>none) :=
 ⟨.map [],World.ownsMap_made _ _ _ _,fun x=>rfl,fun x=>rfl⟩
theorem MapU.lt {w:World} {E:TypeId} {q:IntKind} {b n:Nat} {f:Int→Option Int} (h:MapU w E q b n f):b<w.heap.size:=by obtain⟨D,h1,_⟩:=h;exact h1.lt
theorem MapU.below {w w':World} {E:TypeId} {q:IntKind} {b n:Nat} {f:Int→Option Int} (h:MapU w E q b n f) (hb:Below w.heap.size w w'):MapU w' E q b n f:=by
 have hl:=h.lt
 obtain⟨D,⟨es,ck,h1,h2⟩,h3⟩:=h
 exact⟨D,⟨es,ck,(hb.block b hl).trans h1,h2⟩,h3⟩
theorem MapU.block {w w':World} {E:TypeId} {q:IntKind} {b n:Nat} {f:Int→Option Int} (h:MapU w E q b n f) (hb:w'.heap[b]?=w.heap[b]?):MapU w' E q b n f:=by
 obtain⟨D,⟨es,ck,h1,h2⟩,h3⟩:=h
 exact⟨D,⟨es,ck,hb.trans h1,h2⟩,h3⟩
theorem MapU.mono {w:World} {E:TypeId} {q:IntKind} {b n n':Nat} {f:Int→Option Int} (h:MapU w E q b n f) (hn:n≤n'):MapU w E q b n' f:=by
 obtain⟨D,h1,h2⟩:=h
 exact⟨D,h1.mono hn,h2⟩
theorem MapU.congr {w:World} {E:TypeId} {q:IntKind} {b n:Nat} {f g:Int→Option Int} (h:MapU w E q b n f) (e:∀ x,f x=g x):MapU w E q b n g:=by
 have:f=g:=funext e
 rw [← this];exact h
theorem MapU.put {w':World} {E:TypeId} {q:IntKind} {b n':Nat} {f:Int→Option Int} {D:DataW Unit} {x v:Int} (hD:IsMap D) (h1:∀ x,Maps.has D (.int .u32 x)=(f x).isSome) (h2:∀ x,D.atKey (.int .u32 x) (.lit (.int q 0))=.lit (.int q ((f x).getD 0)))
  (h:w'.ownsMap Tryz.prog 22 (plainElem Tryz.prog E) b n' (D.put (.int .u32 x) (.lit (.int q v)))):MapU w' E q b n' (fun y=>if y=x then some v else f y):=by
 refine⟨_,h,fun y=>?_,fun y=>?_⟩
 ·show _=(if y=x then some v else f y).isSome
  by_cases e:y=x
  ·subst e;rw [if_pos rfl];exact has_put_same (k:=.int .u32 y) hD (by simp [WideAt.IsKeyLit]) _
  ·rw [if_neg e,← h1 y];exact has_put_other (by simpa using e) _
 ·show _=DataW.lit (.int q ((if y=x then some v else f y).getD 0))
  by_cases e:y=x
  ·subst e;rw [if_pos rfl];exact atKey_put_same (k:=.int .u32 y) hD (by simp [WideAt.IsKeyLit]) _ _
  ·rw [if_neg e,← h2 y];exact atKey_put_other (by simpa using e) _ _
section
variable {w : World} {ops : Array Oper} {rest : List Oper} {o : Oper} {a : Act} {Q : Exit → Act → World → Prop}
theorem wpList_lookU_ok (hg:o.guard=none) (m x:Operand) (t:TypeId) (hop:o.op=Op.lookup t m x true) (E:TypeId) (q:IntKind) (ht:Tryz.prog.underlying t=some (.map 22 E)) (he:Tryz.prog.underlying E=some (.int q)) (hz:(zeroValue E).run Tryz.prog w=.ok (.int q 0) w)
  (b n:Nat) (f:Int→Option Int) (hm:a.eval m=.map (some b)) (h:MapU w E q b n f) (key:Int) (hx:a.eval x=.int .u32 key) (k0:0≤key) (k1:key<4294967296)
  (hK:wpList Tryz.prog ops Q rest (a.put o.dst (.tuple #[.int q ((f key).getD 0),.bool (f key).isSome])) w):wpList Tryz.prog ops Q (o :: rest) a w:=by
 obtain⟨D,h1,h2,h3⟩:=h
 refine wpList_lookup_own_ok_int w hg m x t hop 22 E q keyU ht he hz b n D hm h1 _ _ hx (keyU_of k0 k1) ?_
 intro c hat _
 rw [h3] at hat
 simp only [DataW.lit.injEq,Lit.int.injEq,true_and] at hat
 rw [← hat,h2]
 exact hK
theorem wpList_putU (hg:o.guard=none) (m x v:Operand) (t:TypeId) (hop:o.op=Op.mapUpdate t m x v) (E:TypeId) (q:IntKind) (ht:Tryz.prog.underlying t=some (.map 22 E)) (he:Tryz.prog.underlying E=some (.int q))
  (b n:Nat) (f:Int→Option Int) (hm:a.eval m=.map (some b)) (h:MapU w E q b n f) (hn:n<maxLen) (key val:Int) (hx:a.eval x=.int .u32 key) (k0:0≤key) (k1:key<4294967296) (hv:a.eval v=.int q val) (hw:(Lit.int q val).wf=true)
  (hK:∀ w',MapU w' E q b (n+1) (fun y=>if y=key then some val else f y)→w.grownBy w' (some b)→wpList Tryz.prog ops Q rest (a.put o.dst undef) w'):wpList Tryz.prog ops Q (o :: rest) a w:=by
 obtain⟨D,h1,h2,h3⟩:=h
 refine wpList_mapUpdate_own w hg m x v t hop 22 E keyU ht _ b n D hm h1 hn _ _ _ hx hv (keyU_of k0 k1) _ [] (plainElem_int he hw) ?_
 intro w' h4 h5
 exact hK w' (MapU.put h1.isMap h2 h3 h4) h5
end
def selfElem (v:Value):Option (DataW Value×List MemPlace):=some (.held v,[])
def MapV (w:World) (b n:Nat) (z:Value) (f:Int→Value):Prop :=
 ∃ D:DataW Value,w.ownsMap Tryz.prog 22 selfElem b n D∧∀ x,D.atKey (.int .u32 x) (.held z)=.held (f x)
theorem MapV.made (w:World) (z:Value):MapV (w.alloc (.map #[] 0)) w.heap.size 0 z (fun _=>z) :=
 ⟨.map [],World.ownsMap_made _ _ _ _,fun x=>rfl⟩
theorem MapV.lt {w:World} {b n:Nat} {z:Value} {f:Int→Value} (h:MapV w b n z f):b<w.heap.size:=by obtain⟨D,h1,_⟩:=h;exact h1.lt
theorem MapV.obj {w:World} {b n:Nat} {z:Value} {f:Int→Value} (h:MapV w b n z f):∃ es ck,w.heap[b]?=some (.map es ck):=by
 obtain⟨D,⟨es,ck,h1,_⟩,_⟩:=h;exact⟨es,ck,h1⟩
theorem MapU.obj {w:World} {E:TypeId} {q:IntKind} {b n:Nat} {f:Int→Option Int} (h:MapU w E q b n f):∃ es ck,w.heap[b]?=some (.map es ck):=by
 obtain⟨D,⟨es,ck,h1,_⟩,_⟩:=h;exact⟨es,ck,h1⟩
theorem MapV.block {w w':World} {b n:Nat} {z:Value} {f:Int→Value} (h:MapV w b n z f) (hb:w'.heap[b]?=w.heap[b]?):MapV w' b n z f:=by
 obtain⟨D,⟨es,ck,h1,h2⟩,h3⟩:=h
 exact⟨D,⟨es,ck,hb.trans h1,h2⟩,h3⟩
theorem MapV.mono {w:World} {b n n':Nat} {z:Value} {f:Int→Value} (h:MapV w b n z f) (hn:n≤n'):MapV w b n' z f:=by
 obtain⟨D,h1,h2⟩:=h
 exact⟨D,h1.mono hn,h2⟩
theorem MapV.look {w:World} {b n:Nat} {z:Value} {f:Int→Value} (h:MapV w b n z f) (t E:TypeId) (ht:Tryz.prog.underlying t=some (.map 22 E)) (hz:(zeroValue E).run Tryz.prog w=.ok z w) (key:Int) (k0:0≤key) (k1:key<4294967296) :
  (Instr.lookup t (.map (some b)) (.int .u32 key) false).run Tryz.prog w=.ok (f key) w:=by
 obtain⟨D,h1,h2⟩:=h
 obtain⟨v,ps,hrun,hv⟩:=h1.lookup keyU ht hz (zd:=.held z) (zp:=[]) rfl (keyU_of k0 k1)
 rw [h2] at hv
 simp only [selfElem,Option.some.injEq,Prod.mk.injEq,DataW.held.injEq] at hv
 rw [hrun,hv.1]
theorem MapV.put {w:World} {b n:Nat} {z:Value} {f:Int→Value} (h:MapV w b n z f) (t E:TypeId) (ht:Tryz.prog.underlying t=some (.map 22 E)) (hn:n<maxLen) (key:Int) (val:Value) (k0:0≤key) (k1:key<4294967296) :
  ∃ w',(Instr.mapUpdate t (.map (some b)) (.int .u32 key) val).run Tryz.prog w=.ok () w'∧MapV w' b (n+1) z (fun y=>if y=key then val else f y)∧w.grownBy w' (some b):=by
 obtain⟨D,h1,h2⟩:=h
 obtain⟨w',hrun,r1,r2⟩:=h1.update keyU ht hn (keyU_of k0 k1) (show selfElem val=some (.held val,[]) from rfl)
 refine⟨w',hrun,⟨_,r1,fun y=>?_⟩,r2⟩
 show _=DataW.held (if y=key then val else f y)
 by_cases e:y=key
 ·subst e;rw [if_pos rfl];exact atKey_put_same (k:=.int .u32 y) h1.isMap (by simp [WideAt.IsKeyLit]) _ _
 ·rw [if_neg e,← h2 y];exact atKey_put_other (by simpa using e) _ _
theorem MapU.look {w:World} {E:TypeId} {q:IntKind} {b n:Nat} {f:Int→Option Int} (h:MapU w E q b n f) (t:TypeId) (ht:Tryz.prog.underlying t=some (.map 22 E)) (he:Tryz.prog.underlying E=some (.int q)) (hz:(zeroValue E).run Tryz.prog w=.ok (.int q 0) w) (key:Int) (k0:0≤key) (k1:key<4294967296) :
  (Instr.lookup t (.map (some b)) (.int .u32 key) false).run Tryz.prog w=.ok (.int q ((f key).getD 0)) w:=by
 obtain⟨D,h1,h2,h3⟩:=h
 obtain⟨c,hrun,hat,_⟩:=h1.lookup_int keyU ht he hz (keyU_of k0 k1)
 rw [h3] at hat
 simp only [DataW.lit.injEq,Lit.int.injEq,true_and] at hat
 rw [hrun,hat]
theorem MapU.ins {w:World} {E:TypeId} {q:IntKind} {b n:Nat} {f:Int→Option Int} (h:MapU w E q b n f) (t:TypeId) (ht:Tryz.prog.underlying t=some (.map 22 E)) (he:Tryz.prog.underlying E=some (.int q)) (hn:n<maxLen) (key val:Int) (k0:0≤key) (k1:key<4294967296) (hw:(Lit.int q val).wf=true) :
  ∃ w',(Instr.mapUpdate t (.map (some b)) (.int .u32 key) (.int q val)).run Tryz.prog w=.ok () w'∧MapU w' E q b (n+1) (fun y=>if y=key then some val else f y)∧w.grownBy w' (some b):=by
 obtain⟨D,h1,h2,h3⟩:=h
 obtain⟨w',hrun,r1,r2⟩:=h1.update keyU ht hn (keyU_of k0 k1) (plainElem_int he hw)
 exact⟨w',hrun,MapU.put h1.isMap h2 h3 r1,r2⟩
/-! ### by texts -/
theorem keyedS:Keyed Tryz.prog 9:=string_keyed Tryz.underlying9
theorem keyedS_of {s:ByteArray} (h:s.size≤maxLen):keyOf Tryz.prog 9 (.string s)=some (.string s.data.toList):=Go.WideMaps.keyOf_string_mk Tryz.underlying9 h
def MapS (w:World) (b n:Nat) (f:List UInt8→Bool):Prop :=
 ∃ D:DataW Unit,w.ownsMap Tryz.prog 9 (plainElem Tryz.prog 22) b n D∧∀ s,Maps.has D (.string s)=f s
theorem MapS.made (w:World):MapS (w.alloc (.map #[] 0)) w.heap.size 0 (fun _=>false):=⟨.map [],World.ownsMap_made _ _ _ _,fun x=>rfl⟩
theorem MapS.lt {w:World} {b n:Nat} {f:List UInt8→Bool} (h:MapS w b n f):b<w.heap.size:=by obtain⟨D,h1,_⟩:=h;exact h1.lt
theorem MapS.obj {w:World} {b n:Nat} {f:List UInt8→Bool} (h:MapS w b n f):∃ es ck,w.heap[b]?=some (.map es ck):=by
 obtain⟨D,⟨es,ck,h1,_⟩,_⟩:=h;exact⟨es,ck,h1⟩
theorem MapS.block {w w':World} {b n:Nat} {f:List UInt8→Bool} (h:MapS w b n f) (hb:w'.heap[b]?=w.heap[b]?):MapS w' b n f:=by
 obtain⟨D,⟨es,ck,h1,h2⟩,h3⟩:=h
 exact⟨D,⟨es,ck,hb.trans h1,h2⟩,h3⟩
theorem MapS.mono {w:World} {b n n':Nat} {f:List UInt8→Bool} (h:MapS w b n f) (hn:n≤n'):MapS w b n' f:=by
 obtain⟨D,h1,h2⟩:=h
 exact⟨D,h1.mono hn,h2⟩
theorem MapS.congr {w:World} {b n:Nat} {f g:List UInt8→Bool} (h:MapS w b n f) (e:∀ s,f s=g s):MapS w b n g:=by
 have:f=g:=funext e
 rw [← this];exact h
theorem MapS.look {w:World} {b n:Nat} {f:List UInt8→Bool} (h:MapS w b n f) (t:TypeId) (ht:Tryz.prog.underlying t=some (.map 9 22)) (hz:(zeroValue 22).run Tryz.prog w=.ok (.int .u32 0) w) (s:ByteArray) (hs:s.size≤maxLen) :
  ∃ c,(Instr.lookup t (.map (some b)) (.string s) true).run Tryz.prog w=.ok (.tuple #[.int .u32 c,.bool (f s.data.toList)]) w:=by
 obtain⟨D,h1,h2⟩:=h
 obtain⟨v,ps,hrun,hv⟩:=h1.look_ok keyedS ht hz (plainElem_int Tryz.underlying22 (by decide)) (keyedS_of hs)
 obtain⟨c,rfl,_,_⟩:=plainElem_int_inv Tryz.underlying22 hv
 exact⟨c,by rw [hrun,h2]⟩
theorem MapS.put {w:World} {b n:Nat} {f:List UInt8→Bool} (h:MapS w b n f) (t:TypeId) (ht:Tryz.prog.underlying t=some (.map 9 22)) (hn:n<maxLen) (s:ByteArray) (hs:s.size≤maxLen) (val:Int) (hw:(Lit.int .u32 val).wf=true) :
  ∃ w',(Instr.mapUpdate t (.map (some b)) (.string s) (.int .u32 val)).run Tryz.prog w=.ok () w'∧MapS w' b (n+1) (fun y=>f y || decide (y=s.data.toList))∧w.grownBy w' (some b):=by
 obtain⟨D,h1,h2⟩:=h
 obtain⟨w',hrun,r1,r2⟩:=h1.update keyedS ht hn (keyedS_of hs) (plainElem_int Tryz.underlying22 hw)
 refine⟨w',hrun,⟨_,r1,fun y=>?_⟩,r2⟩
 show _=(f y || decide (y=s.data.toList))
 by_cases e:y=s.data.toList
 ·subst e;simp only [decide_true,Bool.or_true];exact has_put_same (k:=.string s.data.toList) h1.isMap (by simp [WideAt.IsKeyLit]) _
 ·simp only [e,decide_false,Bool.or_false];rw [← h2 y];exact has_put_other (by simpa using e) _
end Go.Proofs.YtoebhgpciinkgaaGreatDoor
namespace Go.Proofs.YtoebhgpciinkgaaGreatDoor
open Go.RowKit
set_option linter.unusedVariables false
set_option linter.unusedSimpArgs false
set_option maxRecDepth 10000
def idsA (x:ArgT):List Int:=if x.1=1 then [x.2.1] else []
def idsTo (t:Int) (l:List ArgT) (k:Nat):List Int:=(if t=0 then [] else [t])++(l.take k).flatMap idsA
def idsI (x:InstT):List Int:=idsTo x.2.1 x.2.2.2 x.2.2.2.length
theorem idsTo_zero (t:Int) (l:List ArgT):idsTo t l 0=if t=0 then [] else [t]:=by simp [idsTo]
theorem idsTo_succ (t:Int) (l:List ArgT) (k:Nat) (h:k<l.length):idsTo t l (k+1)=idsTo t l k++idsA (nthA l k):=by
 unfold idsTo
 rw [List.take_add_one,List.getElem?_eq_getElem h,nthA_lt _ _ h,Option.toList_some,List.flatMap_append]
 simp [List.append_assoc]
theorem idsTo_len (t:Int) (l:List ArgT) (k:Nat):(idsTo t l k).length≤1+k:=by
 unfold idsTo
 have h1:((l.take k).flatMap idsA).length≤(l.take k).length:=by
  generalize l.take k=m
  induction m with
  | nil=>simp
  | cons x m ih =>
   rw [List.flatMap_cons,List.length_append,List.length_cons]
   have:(idsA x).length≤1:=by unfold idsA;split <;> simp
   omega
 have h2:(l.take k).length≤k:=by rw [List.length_take];omega
 rw [List.length_append]
 have h3:(if t=0 then [] else [t]:List Int).length≤1:=by split <;> simp
 omega
theorem Ids.info:(Tryz.prog.info? 22).map (fun i=>(i.zero,i.size,i.bytes))=some (some (.int .u32 0),1,4):=by kernel_rfl
structure IdsS (w wr : World) (xo xt xr : Int) (ax : Option Addr) (n cx : Nat) (v : Value) (zs : List Int) : Prop where
  own : wr.ownsRow (w.heap.size + 1) 22 1 v zs.length (zs.map (Value.int .u32))
  box : wr.heap[w.heap.size]? = some (.cells #[.int .u16 xo, .int .u32 xt, .int .u32 xr, .slice ax n cx] 71 (0, 0))
  bel : Below w.heap.size w wr
theorem IdsS.below {w wr wr':World} {xo xt xr:Int} {ax:Option Addr} {n cx:Nat} {v:Value} {zs:List Int} (h:IdsS w wr xo xt xr ax n cx v zs) (hb:Below wr.heap.size wr wr'):IdsS w wr' xo xt xr ax n cx v zs :=
 ⟨own_below h.own hb,(hb.block _ (Array.getElem?_eq_some_iff.1 h.box).1).trans h.box,h.bel.trans (hb.mono h.bel.size)⟩
theorem IdsS.push {w wr w5:World} {xo xt xr:Int} {ax:Option Addr} {n cx:Nat} {v v':Value} {zs:List Int} {y:Int} (h:IdsS w wr xo xt xr ax n cx v zs) (hg:wr.grownBy w5 v.ownBlock) (hown:w5.ownsRow (w.heap.size+1) 22 1 v' (zs.length+1) (zs.map (Value.int .u32)++[.int .u32 y])):IdsS w w5 xo xt xr ax n cx v' (zs++[y]):=by
 have hlo:∀ g,v.ownBlock=some g→w.heap.size+1≤g:=fun g e=>(h.own.lt g e).1
 refine⟨?_,?_,?_⟩
 ·rw [List.length_append,List.map_append];exact hown
 ·exact (hg.block _ (Array.getElem?_eq_some_iff.1 h.box).1 (fun e=>by have:=hlo _ e.symm;omega)).trans h.box
 ·exact h.bel.grown hg h.bel.size (fun k e=>by have:=hlo k e;omega)
set_option maxHeartbeats 2000000 in
theorem codeIds_any (x:InstT) (ax:Option Addr) (n cx:Nat) (w:World) (hv:ArgsV w ax x.2.2.2) (hl:x.2.2.2.length=n) (hn:24 * n≤140737488351232) :
  Calls Tryz.prog 92 #[instV x ax n cx] w fun e w'=>Below w.heap.size w w'∧∃ a m c,e=.returned (.slice a m c)∧(idsI x).length=m∧w'.ownsRow w.heap.size 22 1 (.slice a m c) m ((idsI x).map (Value.int .u32)):=by
 obtain⟨i0,hi,hz0,hz1,hz2⟩:=info_parts Ids.info
 have HI:Hid (Tryz.prog.info? 22=some i0∧i0.zero=some (.int .u32 0)∧i0.size=1∧i0.bytes=4):=⟨hi,hz0,hz1,hz2⟩
 clear hi hz0 hz1 hz2
 obtain⟨xo,xt,xr,xl⟩:=x
 unfold instV
 simp only at *
 have HL:Hid (xl.length=n):=hl
 have eI:idsI (xo,xt,xr,xl)=idsTo xt xl n:=by unfold idsI;simp only;rw [hl]
 rw [eI]
 clear eI hl
 have hS0:IdsS w (w.alloc (.cells #[.int .u16 xo,.int .u32 xt,.int .u32 xr,.slice ax n cx] 71)) xo xt xr ax n cx (.slice none 0 0) []:=⟨World.ownsRow_nil _ _ _ _,alloc_new w _ _,(Below.refl _ w).alloc (Nat.le_refl _) _⟩
 by_cases ht:xt=0
 ·subst ht
  have HS0:Hid (IdsS w (w.alloc (.cells #[.int .u16 xo,.int .u32 0,.int .u32 xr,.slice ax n cx] 71)) xo 0 xr ax n cx (.slice none 0 0) []):=hS0
  clear hS0
  go_enter Tryz.func92,Tryz.ntmps92
  go_wp2
  go_loopw [3,17] (fun v i wr=>∃ k:Nat,k≤n∧i=.int .i64 k∧IdsS w wr xo 0 xr ax n cx v (idsTo 0 xl k)) (fun _ i _=>n - (intOf i).toNat)
  case atStart=>exact⟨0,Nat.zero_le _,rfl,by rw [idsTo_zero,if_pos rfl];exact HS0.out⟩
  case round =>
   obtain⟨k,hk,rfl,hS⟩:=hrel
   clear HS0
   have hA:=hv.below hS.bel
   obtain⟨a',cap',rfl⟩:∃ a cap,u3=.slice a (idsTo 0 xl k).length cap:=by
    rcases hS.own.2 with ⟨rfl,h0⟩ | ⟨g,cap,cur,rfl,_⟩
    ·exact⟨none,0,by rw [h0]⟩
    ·exact⟨_,_,rfl⟩
   by_cases hlt:k<n
   ·have hkl:k<xl.length:=by rw [HL.out];exact hlt
    obtain⟨b1,o1,rfl,hb1,p1,p2,p3⟩:=hA k hkl
    have hsu:=idsTo_succ 0 xl k hkl
    have hln:=idsTo_len 0 xl k
    have HSU:Hid _:=hsu
    generalize idsTo 0 xl k=zs at *
    have HS2:Hid (idsTo 0 xl (k+1)=zs++idsA (nthA xl k)):=HSU.out
    clear hsu HSU
    generalize nthA xl k=z at *
    obtain⟨z1,z2,z3⟩:=z
    simp only at *
    have hki:(k:Int)<(n:Int):=by omega
    have hk0:(0:Int)≤(k:Int):=by omega
    have hS4:=hS.below ((Below.refl _ wr).alloc (Nat.le_refl _) (.cells #[.int .u8 z1,.int .u32 z2,.string z3] 87))
    clear hA
    by_cases h1:z1=1
    ·subst h1
     have hA1:idsA (1,z2,z3)=[z2]:=by simp [idsA]
     have N1:Hid (((wr.alloc (.cells #[.int .u8 1,.int .u32 z2,.string z3] 87)).alloc (.cells #[.int .u32 z2] 22)).ownsRow (w.heap.size+1) 22 1 (.slice a' zs.length cap') zs.length ((zs).map (Value.int .u32))):=own_below hS4.own ((Below.refl _ _).alloc (Nat.le_refl _) _)
     have N2:Hid (∀ (j:Nat) (u:Value),[Value.int .u32 z2][j]?=some u→((wr.alloc (.cells #[.int .u8 1,.int .u32 z2,.string z3] 87)).alloc (.cells #[.int .u32 z2] 22)).cell? ((⟨wr.heap.size+1,0,none⟩:Addr).add j)=some u):=World.news_of_block (cs:=#[.int .u32 z2]) (t:=22) (fr:=(0,0)) (by first | exact alloc_new _ _ _ | simpa using alloc_new ((wr.alloc (.cells #[.int .u8 1,.int .u32 z2,.string z3] 87))) #[.int .u32 z2] 22)
     have N3:Hid (∀ u:Value,u∈[Value.int .u32 z2]→u.oneCell'=true):=by intro u hu;simp at hu;subst hu;rfl
     have N4:zs.length+1≤maxLen:=by unfold maxLen;omega
     have N5:(zs.length+1) * 4≤140737488355328:=by omega
     have N6:Hid (w.heap.size+1≤((wr.alloc (.cells #[.int .u8 1,.int .u32 z2,.string z3] 87)).alloc (.cells #[.int .u32 z2] 22)).heap.size):=by show _≤_;rw [World.size_alloc];have:=(Array.getElem?_eq_some_iff.1 hS4.box).1;omega
     have HS:Hid (IdsS w ((wr.alloc (.cells #[.int .u8 1,.int .u32 z2,.string z3] 87)).alloc (.cells #[.int .u32 z2] 22)) xo 0 xr (some ⟨b1,o1,none⟩) n cx (.slice a' zs.length cap') zs):=hS4.below ((Below.refl _ _).alloc (Nat.le_refl _) _)
     go_wp2_with (at_builtin;refine wpList_append_own _ rfl (.tmp 24) (.tmp 27) 26 rfl (w.heap.size+1) 22 i0 (.int .u32 0) 1 4 Tryz.underlying26 HI.out.1 HI.out.2.1 HI.out.2.2.1 HI.out.2.2.2 rfl (by decide) _ zs.length (zs.map (Value.int .u32)) rfl N1.out ⟨wr.heap.size+1,0,none⟩ 1 1 [.int .u32 z2] rfl rfl N2.out N3.out N4 N5 N6.out ?_)
     intro v5 w5 hown5 hgr5 _
     have hS5:=HS.out.push hgr5 hown5
     obtain⟨a6,cap6,rfl⟩:∃ a cap,v5=.slice a (zs.length+1) cap:=by
      rcases hown5.2 with ⟨_,h0⟩ | ⟨g,cap,cur,rfl,_⟩
      ·omega
      ·exact⟨_,_,rfl⟩
     clear hown5 hgr5 N1 N2 N3 N6 HS hS4
     go_wp2
     go_roundw
     case rel=>exact⟨k+1,by omega,by go_num,by rw [HS2.out,hA1];exact hS5⟩
     case measure=>simp [intOf];omega
    ·have hA1:idsA (z1,z2,z3)=[]:=by simp [idsA,h1]
     have HS4:Hid (IdsS w (wr.alloc (.cells #[.int .u8 z1,.int .u32 z2,.string z3] 87)) xo 0 xr (some ⟨b1,o1,none⟩) n cx (.slice a' zs.length cap') zs):=hS4
     clear hS4
     go_wp2
     go_roundw
     case rel=>exact⟨k+1,by omega,by go_num,by rw [HS2.out,hA1,List.append_nil];exact HS4.out⟩
     case measure=>simp [intOf];omega
   ·obtain rfl:k=n:=by omega
    have hfin:=hS.bel
    have hown:=hS.own
    clear hS hA
    go_wp2
    go_ret
    refine⟨hfin,a',_,cap',rfl,rfl,?_⟩
    refine⟨hown.1,?_⟩
    rcases hown.2 with hn0 | ⟨g,cap,cur,e1,hb,rest⟩
    ·exact .inl hn0
    ·exact .inr ⟨g,cap,cur,e1,by omega,rest⟩
 ·have ht':=ht
  have N1:Hid (((w.alloc (.cells #[.int .u16 xo,.int .u32 xt,.int .u32 xr,.slice ax n cx] 71)).alloc (.cells #[.int .u32 xt] 22)).ownsRow (w.heap.size+1) 22 1 (.slice none 0 0) ([]:List Int).length ((([]:List Int)).map (Value.int .u32))):=own_below hS0.own ((Below.refl _ _).alloc (Nat.le_refl _) _)
  have N2:Hid (∀ (j:Nat) (u:Value),[Value.int .u32 xt][j]?=some u→((w.alloc (.cells #[.int .u16 xo,.int .u32 xt,.int .u32 xr,.slice ax n cx] 71)).alloc (.cells #[.int .u32 xt] 22)).cell? ((⟨w.heap.size+1,0,none⟩:Addr).add j)=some u):=World.news_of_block (cs:=#[.int .u32 xt]) (t:=22) (fr:=(0,0)) (by first | exact alloc_new _ _ _ | simpa using alloc_new ((w.alloc (.cells #[.int .u16 xo,.int .u32 xt,.int .u32 xr,.slice ax n cx] 71))) #[.int .u32 xt] 22)
  have N3:Hid (∀ u:Value,u∈[Value.int .u32 xt]→u.oneCell'=true):=by intro u hu;simp at hu;subst hu;rfl
  have N4:([]:List Int).length+1≤maxLen:=by unfold maxLen;simp
  have N5:(([]:List Int).length+1) * 4≤140737488355328:=by simp
  have N6:Hid (w.heap.size+1≤((w.alloc (.cells #[.int .u16 xo,.int .u32 xt,.int .u32 xr,.slice ax n cx] 71)).alloc (.cells #[.int .u32 xt] 22)).heap.size):=by show _≤_;rw [World.size_alloc];have:=(Array.getElem?_eq_some_iff.1 hS0.box).1;omega
  have HS:Hid (IdsS w ((w.alloc (.cells #[.int .u16 xo,.int .u32 xt,.int .u32 xr,.slice ax n cx] 71)).alloc (.cells #[.int .u32 xt] 22)) xo xt xr ax n cx (.slice none 0 0) ([]:List Int)):=hS0.below ((Below.refl _ _).alloc (Nat.le_refl _) _)
  clear hS0
  go_enter Tryz.func92,Tryz.ntmps92
  go_wp2_with (at_builtin;refine wpList_append_own _ rfl (.tmp 9) (.tmp 12) 26 rfl (w.heap.size+1) 22 i0 (.int .u32 0) 1 4 Tryz.underlying26 HI.out.1 HI.out.2.1 HI.out.2.2.1 HI.out.2.2.2 rfl (by decide) _ 0 [] rfl N1.out ⟨w.heap.size+1,0,none⟩ 1 1 [.int .u32 xt] rfl rfl N2.out N3.out N4 N5 N6.out ?_)
  intro v5 w5 hown5 hgr5 _
  have hS5:=HS.out.push hgr5 hown5
  obtain⟨a5,cap5,rfl⟩:∃ a cap,v5=.slice a 1 cap:=by
   rcases hown5.2 with ⟨_,h0⟩ | ⟨g,cap,cur,rfl,_⟩
   ·cases h0
   ·exact⟨_,_,rfl⟩
  have b3:=(one_block hS5.box).1 3
  have HS5:Hid (IdsS w w5 xo xt xr ax n cx (.slice a5 1 cap5) [xt]):=hS5
  clear hown5 hgr5 N1 N2 N3 N6 HS N4 N5 hS5
  go_wp2
  go_loopw [3,17] (fun v i wr=>∃ k:Nat,k≤n∧i=.int .i64 k∧IdsS w wr xo xt xr ax n cx v (idsTo xt xl k)) (fun _ i _=>n - (intOf i).toNat)
  case atStart=>exact⟨0,Nat.zero_le _,rfl,by rw [idsTo_zero,if_neg ht'];exact HS5.out⟩
  case round =>
   obtain⟨k,hk,rfl,hS⟩:=hrel
   clear HS5
   have hA:=hv.below hS.bel
   obtain⟨a',cap',rfl⟩:∃ a cap,u3=.slice a (idsTo xt xl k).length cap:=by
    rcases hS.own.2 with ⟨rfl,h0⟩ | ⟨g,cap,cur,rfl,_⟩
    ·exact⟨none,0,by rw [h0]⟩
    ·exact⟨_,_,rfl⟩
   by_cases hlt:k<n
   ·have hkl:k<xl.length:=by rw [HL.out];exact hlt
    obtain⟨b1,o1,rfl,hb1,p1,p2,p3⟩:=hA k hkl
    have hsu:=idsTo_succ xt xl k hkl
    have hln:=idsTo_len xt xl k
    have HSU:Hid _:=hsu
    generalize idsTo xt xl k=zs at *
    have HS2:Hid (idsTo xt xl (k+1)=zs++idsA (nthA xl k)):=HSU.out
    clear hsu HSU
    generalize nthA xl k=z at *
    obtain⟨z1,z2,z3⟩:=z
    simp only at *
    have hki:(k:Int)<(n:Int):=by omega
    have hk0:(0:Int)≤(k:Int):=by omega
    have hS4:=hS.below ((Below.refl _ wr).alloc (Nat.le_refl _) (.cells #[.int .u8 z1,.int .u32 z2,.string z3] 87))
    clear hA
    by_cases h1:z1=1
    ·subst h1
     have hA1:idsA (1,z2,z3)=[z2]:=by simp [idsA]
     have N1:Hid (((wr.alloc (.cells #[.int .u8 1,.int .u32 z2,.string z3] 87)).alloc (.cells #[.int .u32 z2] 22)).ownsRow (w.heap.size+1) 22 1 (.slice a' zs.length cap') zs.length ((zs).map (Value.int .u32))):=own_below hS4.own ((Below.refl _ _).alloc (Nat.le_refl _) _)
     have N2:Hid (∀ (j:Nat) (u:Value),[Value.int .u32 z2][j]?=some u→((wr.alloc (.cells #[.int .u8 1,.int .u32 z2,.string z3] 87)).alloc (.cells #[.int .u32 z2] 22)).cell? ((⟨wr.heap.size+1,0,none⟩:Addr).add j)=some u):=World.news_of_block (cs:=#[.int .u32 z2]) (t:=22) (fr:=(0,0)) (by first | exact alloc_new _ _ _ | simpa using alloc_new ((wr.alloc (.cells #[.int .u8 1,.int .u32 z2,.string z3] 87))) #[.int .u32 z2] 22)
     have N3:Hid (∀ u:Value,u∈[Value.int .u32 z2]→u.oneCell'=true):=by intro u hu;simp at hu;subst hu;rfl
     have N4:zs.length+1≤maxLen:=by unfold maxLen;omega
     have N5:(zs.length+1) * 4≤140737488355328:=by omega
     have N6:Hid (w.heap.size+1≤((wr.alloc (.cells #[.int .u8 1,.int .u32 z2,.string z3] 87)).alloc (.cells #[.int .u32 z2] 22)).heap.size):=by show _≤_;rw [World.size_alloc];have:=(Array.getElem?_eq_some_iff.1 hS4.box).1;omega
     have HS:Hid (IdsS w ((wr.alloc (.cells #[.int .u8 1,.int .u32 z2,.string z3] 87)).alloc (.cells #[.int .u32 z2] 22)) xo xt xr (some ⟨b1,o1,none⟩) n cx (.slice a' zs.length cap') zs):=hS4.below ((Below.refl _ _).alloc (Nat.le_refl _) _)
     go_wp2_with (at_builtin;refine wpList_append_own _ rfl (.tmp 24) (.tmp 27) 26 rfl (w.heap.size+1) 22 i0 (.int .u32 0) 1 4 Tryz.underlying26 HI.out.1 HI.out.2.1 HI.out.2.2.1 HI.out.2.2.2 rfl (by decide) _ zs.length (zs.map (Value.int .u32)) rfl N1.out ⟨wr.heap.size+1,0,none⟩ 1 1 [.int .u32 z2] rfl rfl N2.out N3.out N4 N5 N6.out ?_)
     intro v5 w5 hown5 hgr5 _
     have hS5:=HS.out.push hgr5 hown5
     obtain⟨a6,cap6,rfl⟩:∃ a cap,v5=.slice a (zs.length+1) cap:=by
      rcases hown5.2 with ⟨_,h0⟩ | ⟨g,cap,cur,rfl,_⟩
      ·omega
      ·exact⟨_,_,rfl⟩
     clear hown5 hgr5 N1 N2 N3 N6 HS hS4
     go_wp2
     go_roundw
     case rel=>exact⟨k+1,by omega,by go_num,by rw [HS2.out,hA1];exact hS5⟩
     case measure=>simp [intOf];omega
    ·have hA1:idsA (z1,z2,z3)=[]:=by simp [idsA,h1]
     have HS4:Hid (IdsS w (wr.alloc (.cells #[.int .u8 z1,.int .u32 z2,.string z3] 87)) xo xt xr (some ⟨b1,o1,none⟩) n cx (.slice a' zs.length cap') zs):=hS4
     clear hS4
     go_wp2
     go_roundw
     case rel=>exact⟨k+1,by omega,by go_num,by rw [HS2.out,hA1,List.append_nil];exact HS4.out⟩
     case measure=>simp [intOf];omega
   ·obtain rfl:k=n:=by omega
    have hfin:=hS.bel
    have hown:=hS.own
    clear hS hA
    go_wp2
    go_ret
    refine⟨hfin,a',_,cap',rfl,rfl,?_⟩
    refine⟨hown.1,?_⟩
    rcases hown.2 with hn0 | ⟨g,cap,cur,e1,hb,rest⟩
    ·exact .inl hn0
    ·exact .inr ⟨g,cap,cur,e1,by omega,rest⟩
theorem shape_at {b:Int} {l:List InstT} (h:(shapeE b l).1=0) (k:Nat) (hk:k<l.length):rawE (nthI l k) b=0:=shape_each h k hk


def InB (b i:Int):Prop:=1≤i∧i<b
theorem idE_in {must:Bool} {n b e:Int} (h0:0≤n) (he:e≠0) (h:idE must n b e=0) (hn:n≠0):InB b n:=by
 unfold idE at h
 split at h
 ·exact absurd h he
 ·rename_i h1
  simp [hn] at h1
  subst h1
  split at h
  ·cases h
  ·rename_i h2
   simp at h2
   exact⟨by omega,by omega⟩
theorem wrongA_in {c:Int} {x:ArgT} {b:Int} (h0:0≤x.2.1) (h:wrongA c x b=0) (hk:x.1=1):InB b x.2.1:=by
 unfold wrongA at h
 split at h
 ·cases h
 ·rename_i h1
  rw [if_neg (by omega)] at h
  have hm:mayStandB c x=true:=by simpa using h1
  unfold mayStandB at hm
  simp only [Bool.and_eq_true,beq_iff_eq] at hm
  have hkc:kindI c=1:=by rw [← hm.1.2];exact hk
  unfold faultW at h
  rw [if_pos hkc] at h
  split at h
  ·cases h
  ·rename_i h2
   unfold noneB at h2
   simp at h2
   exact⟨by omega,by omega⟩
theorem wrongL_in {f:Frm} {b:Int}:∀ (l:List ArgT) (k:Nat),wrongL f b k l=0→∀ j,j<l.length→wrongA (letterI f ((k+j:Nat):Int)) (nthA l j) b=0
 | [],_,_,j,hj=>by simp at hj
 | x :: l,k,h,j,hj=>by
  rw [wrongL] at h
  by_cases h1:wrongA (letterI f k) x b=0
  ·rw [if_pos h1] at h
   cases j with
   | zero=>simpa [nthA] using h1
   | succ j =>
    have:=wrongL_in l (k+1) h j (by simpa using hj)
    rw [show k+(j+1)=k+1+j by omega]
    simpa [nthA] using this
  ·rw [if_neg h1] at h;exact absurd h h1
theorem ids_in {x:InstT} {b:Int} (hok:InstOk x) (h:rawE x b=0):(x.2.1≠0→InB b x.2.1)∧(x.2.2.1≠0→InB b x.2.2.1)∧∀ j,j<x.2.2.2.length→(nthA x.2.2.2 j).1=1→InB b (nthA x.2.2.2 j).2.1:=by
 obtain⟨_,h2,_⟩:=rawWs_ok h
 obtain⟨i1,i2,i3,_,_⟩:=faultI_zero h2
 obtain⟨_,_,a3,_,a5,_,a7,_⟩:=hok
 refine⟨fun hn=>idE_in a3 (by decide) i1 hn,fun hn=>idE_in a5 (by decide) i2 hn,fun j hj hk=>?_⟩
 exact wrongA_in (a7 j hj).2.2.1 (wrongL_in _ 0 i3 j hj) hk
theorem or512:bits .or .u16 0 512=512:=by decide +kernel
theorem or2048:bits .or .u16 0 2048=2048:=by decide +kernel
theorem or1024:bits .or .u16 0 1024=1024:=by decide +kernel
theorem or2560:bits .or .u16 2048 512=2560:=by decide +kernel
theorem or3072:bits .or .u16 1024 2048=3072:=by decide +kernel
theorem or3584:bits .or .u16 3072 512=3584:=by decide +kernel
set_option maxHeartbeats 1000000 in
theorem kindOf_54 (w:World):Calls Tryz.prog 137 #[.int .u16 54] w fun e w'=>e=.returned (.int .u16 1)∧w=w':=by
 go_enter Tryz.func137,Tryz.ntmps137
 go_wp2
 go_ret
 simp [or512,or1024,or2048,or2560,or3072,or3584]
set_option maxHeartbeats 1000000 in
theorem kindOf_55 (w:World):Calls Tryz.prog 137 #[.int .u16 55] w fun e w'=>e=.returned (.int .u16 2)∧w=w':=by
 go_enter Tryz.func137,Tryz.ntmps137
 go_wp2
 go_ret
 simp [or512,or1024,or2048,or2560,or3072,or3584]
set_option maxHeartbeats 1000000 in
theorem kindOf_56 (w:World):Calls Tryz.prog 137 #[.int .u16 56] w fun e w'=>e=.returned (.int .u16 4)∧w=w':=by
 go_enter Tryz.func137,Tryz.ntmps137
 go_wp2
 go_ret
 simp [or512,or1024,or2048,or2560,or3072,or3584]
set_option maxHeartbeats 1000000 in
theorem kindOf_248 (w:World):Calls Tryz.prog 137 #[.int .u16 248] w fun e w'=>e=.returned (.int .u16 8)∧w=w':=by
 go_enter Tryz.func137,Tryz.ntmps137
 go_wp2
 go_ret
 simp [or512,or1024,or2048,or2560,or3072,or3584]
set_option maxHeartbeats 1000000 in
theorem kindOf_59 (w:World):Calls Tryz.prog 137 #[.int .u16 59] w fun e w'=>e=.returned (.int .u16 16)∧w=w':=by
 go_enter Tryz.func137,Tryz.ntmps137
 go_wp2
 go_ret
 simp [or512,or1024,or2048,or2560,or3072,or3584]
set_option maxHeartbeats 1000000 in
theorem kindOf_245 (w:World):Calls Tryz.prog 137 #[.int .u16 245] w fun e w'=>e=.returned (.int .u16 32)∧w=w':=by
 go_enter Tryz.func137,Tryz.ntmps137
 go_wp2
 go_ret
 simp [or512,or1024,or2048,or2560,or3072,or3584]
set_option maxHeartbeats 1000000 in
theorem kindOf_247 (w:World):Calls Tryz.prog 137 #[.int .u16 247] w fun e w'=>e=.returned (.int .u16 128)∧w=w':=by
 go_enter Tryz.func137,Tryz.ntmps137
 go_wp2
 go_ret
 simp [or512,or1024,or2048,or2560,or3072,or3584]
set_option maxHeartbeats 1000000 in
theorem kindOf_246 (w:World):Calls Tryz.prog 137 #[.int .u16 246] w fun e w'=>e=.returned (.int .u16 256)∧w=w':=by
 go_enter Tryz.func137,Tryz.ntmps137
 go_wp2
 go_ret
 simp [or512,or1024,or2048,or2560,or3072,or3584]
set_option maxHeartbeats 1000000 in
theorem kindOf_250 (w:World):Calls Tryz.prog 137 #[.int .u16 250] w fun e w'=>e=.returned (.int .u16 3584)∧w=w':=by
 go_enter Tryz.func137,Tryz.ntmps137
 go_wp2
 go_ret
 simp [or512,or1024,or2048,or2560,or3072,or3584]
set_option maxHeartbeats 1000000 in
theorem kindOf_249 (w:World):Calls Tryz.prog 137 #[.int .u16 249] w fun e w'=>e=.returned (.int .u16 2560)∧w=w':=by
 go_enter Tryz.func137,Tryz.ntmps137
 go_wp2
 go_ret
 simp [or512,or1024,or2048,or2560,or3072,or3584]
set_option maxHeartbeats 1000000 in
theorem kindOf_252 (w:World):Calls Tryz.prog 137 #[.int .u16 252] w fun e w'=>e=.returned (.int .u16 512)∧w=w':=by
 go_enter Tryz.func137,Tryz.ntmps137
 go_wp2
 go_ret
 simp [or512,or1024,or2048,or2560,or3072,or3584]
set_option maxHeartbeats 1000000 in
theorem kindOf_253 (w:World):Calls Tryz.prog 137 #[.int .u16 253] w fun e w'=>e=.returned (.int .u16 512)∧w=w':=by
 go_enter Tryz.func137,Tryz.ntmps137
 go_wp2
 go_ret
 simp [or512,or1024,or2048,or2560,or3072,or3584]
set_option maxHeartbeats 1000000 in
theorem kindOf_254 (w:World):Calls Tryz.prog 137 #[.int .u16 254] w fun e w'=>e=.returned (.int .u16 512)∧w=w':=by
 go_enter Tryz.func137,Tryz.ntmps137
 go_wp2
 go_ret
 simp [or512,or1024,or2048,or2560,or3072,or3584]
set_option maxHeartbeats 1000000 in
theorem kindOf_255 (w:World):Calls Tryz.prog 137 #[.int .u16 255] w fun e w'=>e=.returned (.int .u16 512)∧w=w':=by
 go_enter Tryz.func137,Tryz.ntmps137
 go_wp2
 go_ret
 simp [or512,or1024,or2048,or2560,or3072,or3584]
set_option maxHeartbeats 1000000 in
theorem kindOf_251 (w:World):Calls Tryz.prog 137 #[.int .u16 251] w fun e w'=>e=.returned (.int .u16 1536)∧w=w':=by
 go_enter Tryz.func137,Tryz.ntmps137
 go_wp2
 go_ret
 simp [or512,or1024,or2048,or2560,or3072,or3584]
set_option maxHeartbeats 1000000 in
theorem kindOf_other (op:Int) (w:World) (h54:(op==54)=false) (h55:(op==55)=false) (h56:(op==56)=false) (h248:(op==248)=false) (h59:(op==59)=false) (h245:(op==245)=false) (h247:(op==247)=false) (h246:(op==246)=false) (h250:(op==250)=false) (h249:(op==249)=false) (h252:(op==252)=false) (h253:(op==253)=false) (h254:(op==254)=false) (h255:(op==255)=false) (h251:(op==251)=false):Calls Tryz.prog 137 #[.int .u16 op] w fun e w'=>e=.returned (.int .u16 64)∧w=w':=by
 go_enter Tryz.func137,Tryz.ntmps137
 go_wp2
 go_ret
 simp
def kindOp (op:Int):Int :=
 if op=54 then 1 else if op=55 then 2 else if op=56 then 4 else if op=248 then 8 else if op=59 then 16 else if op=245 then 32 else if op=247 then 128 else if op=246 then 256
 else if op=250 then 3584 else if op=249 then 2560 else if op=252∨op=253∨op=254∨op=255 then 512 else if op=251 then 1536 else 64
def endsB (op:Int):Bool:=decide (249≤op) && decide (op≤255)
theorem kindOf_any (op:Int) (w:World):Calls Tryz.prog 137 #[.int .u16 op] w fun e w'=>e=.returned (.int .u16 (kindOp op))∧w=w':=by
 by_cases h54:op=54
 ·subst h54;exact kindOf_54 w
 by_cases h55:op=55
 ·subst h55;exact kindOf_55 w
 by_cases h56:op=56
 ·subst h56;exact kindOf_56 w
 by_cases h248:op=248
 ·subst h248;exact kindOf_248 w
 by_cases h59:op=59
 ·subst h59;exact kindOf_59 w
 by_cases h245:op=245
 ·subst h245;exact kindOf_245 w
 by_cases h247:op=247
 ·subst h247;exact kindOf_247 w
 by_cases h246:op=246
 ·subst h246;exact kindOf_246 w
 by_cases h250:op=250
 ·subst h250;exact kindOf_250 w
 by_cases h249:op=249
 ·subst h249;exact kindOf_249 w
 by_cases h252:op=252
 ·subst h252;exact kindOf_252 w
 by_cases h253:op=253
 ·subst h253;exact kindOf_253 w
 by_cases h254:op=254
 ·subst h254;exact kindOf_254 w
 by_cases h255:op=255
 ·subst h255;exact kindOf_255 w
 by_cases h251:op=251
 ·subst h251;exact kindOf_251 w
 have e:kindOp op=64:=by
  unfold kindOp
  simp [h54,h55,h56,h248,h59,h245,h247,h246,h250,h249,h252,h253,h254,h255,h251]
 rw [e]
 exact kindOf_other op w (by simpa using h54) (by simpa using h55) (by simpa using h56) (by simpa using h248) (by simpa using h59) (by simpa using h245) (by simpa using h247) (by simpa using h246) (by simpa using h250) (by simpa using h249) (by simpa using h252) (by simpa using h253) (by simpa using h254) (by simpa using h255) (by simpa using h251)
def partO (op:Int):Int:=if (lookF refT op).2 then (lookF refT op).1.2.2.2.2.2.2 else 0
def partI (x:InstT):Int:=if x.1=59∧(nthA x.2.2.2 0).2.1=7 then 8 else partO x.1
def kindX (x:InstT):Int:=if partI x=8 then kindOp x.1 else 0
def partAt (l:List InstT) (k:Nat):Int:=if k<l.length then partI (nthI l k) else 9
def kindAt (l:List InstT) (k:Nat):Int:=if k<l.length then kindX (nthI l k) else 0
theorem var_args {x:InstT} {b:Int} (h:rawE x b=0) (h5:x.1=59):1≤x.2.2.2.length:=by
 obtain⟨h1,h2,_⟩:=rawWs_ok h
 have h4:=(faultI_zero h2).2.2.2.1
 rw [h5] at h4
 have e1:(lookF refT 59).1.2.2.2.1.size=1:=by kernel_rfl
 unfold wholeN at h4
 rw [e1] at h4
 split at h4
 ·cases h4
 ·omega
structure KeepB (B : Nat) (w w' : World) : Prop where
  os : w'.os = w.os
  tape : w'.tape = w.tape
  output : w'.output = w.output
  size : w.heap.size ≤ w'.heap.size
  block : ∀ k, k < w.heap.size → k ≠ B → w'.heap[k]? = w.heap[k]?
theorem KeepB.refl (B:Nat) (w:World):KeepB B w w:=⟨rfl,rfl,rfl,Nat.le_refl _,fun _ _ _=>rfl⟩
theorem KeepB.trans {B:Nat} {w w' w'':World} (h:KeepB B w w') (h':KeepB B w' w''):KeepB B w w'' :=
 ⟨h'.os.trans h.os,h'.tape.trans h.tape,h'.output.trans h.output,Nat.le_trans h.size h'.size,fun k hk hb=>(h'.block k (Nat.lt_of_lt_of_le hk h.size) hb).trans (h.block k hk hb)⟩
theorem KeepB.of_below {B:Nat} {w w':World} (h:Below w.heap.size w w'):KeepB B w w':=⟨h.os,h.tape,h.output,h.size,fun k hk _=>h.block k hk⟩
theorem KeepB.set {B:Nat} (w:World) (i:Nat) (v:Value):KeepB B w (w.setCell ⟨B,i,none⟩ v):=⟨rfl,rfl,rfl,by rw [World.size_setCell];exact Nat.le_refl _,fun k _ hb=>Below.heap_setCell _ _ _ _ (by simpa using hb)⟩
structure WkB (B : Nat) (ins : Value) (ps : Nat → Int) (fv : Value) (at_ part kind : Int) (W : World) : Prop where
  blk : ∃ cs : Array Value, W.heap[B]? = some (.cells cs 133 (0, 0)) ∧ cs.size = 25 ∧ cs[0]? = some ins ∧ (∀ i, i < 20 → cs[1 + i]? = some (.int .i64 (ps i))) ∧ cs[21]? = some fv ∧ cs[22]? = some (.int .i64 at_) ∧ cs[23]? = some (.int .u8 part) ∧ cs[24]? = some (.int .u16 kind)
theorem WkB.lt {B:Nat} {ins:Value} {ps:Nat→Int} {fv:Value} {at_ part kind:Int} {W:World} (h:WkB B ins ps fv at_ part kind W):B<W.heap.size:=by obtain⟨cs,h1,_⟩:=h.blk;exact (Array.getElem?_eq_some_iff.1 h1).1
theorem WkB.block {B:Nat} {ins:Value} {ps:Nat→Int} {fv:Value} {at_ part kind:Int} {W W':World} (h:WkB B ins ps fv at_ part kind W) (hb:W'.heap[B]?=W.heap[B]?):WkB B ins ps fv at_ part kind W':=by
 obtain⟨cs,h1,h2⟩:=h.blk;exact⟨cs,hb.trans h1,h2⟩
theorem WkB.below {B:Nat} {ins:Value} {ps:Nat→Int} {fv:Value} {at_ part kind:Int} {W W':World} (h:WkB B ins ps fv at_ part kind W) (hb:Below W.heap.size W W'):WkB B ins ps fv at_ part kind W':=h.block (hb.block B h.lt)
theorem WkB.cells {B:Nat} {ins:Value} {ps:Nat→Int} {fv:Value} {at_ part kind:Int} {W:World} (h:WkB B ins ps fv at_ part kind W):W.cell? ⟨B,0,none⟩=some ins∧(∀ i,i<20→W.cell? ⟨B,1+i,none⟩=some (.int .i64 (ps i)))∧W.cell? ⟨B,21,none⟩=some fv∧W.cell? ⟨B,22,none⟩=some (.int .i64 at_)∧W.cell? ⟨B,23,none⟩=some (.int .u8 part)∧W.cell? ⟨B,24,none⟩=some (.int .u16 kind)∧∀ i,W.frozen? ⟨B,i,none⟩=false:=by
 obtain⟨cs,h1,h2,h3,h4,h5,h6,h7,h8⟩:=h.blk
 have e:∀ i,W.cell? ⟨B,i,none⟩=cs[i]?:=fun i=>by simp [World.cell?,h1]
 exact⟨(e 0).trans h3,fun i hi=>(e _).trans (h4 i hi),(e 21).trans h5,(e 22).trans h6,(e 23).trans h7,(e 24).trans h8,fun i=>by simp [World.frozen?,h1]⟩
theorem WkB.put {B:Nat} {ins:Value} {ps:Nat→Int} {fv:Value} {at_ part kind:Int} {W:World} (h:WkB B ins ps fv at_ part kind W) (i:Nat) (v:Value) {ins':Value} {ps':Nat→Int} {fv':Value} {at' part' kind':Int}
  (k0:(if i=0 then v else ins)=ins') (kp:∀ j,j<20→(if i=1+j then v else .int .i64 (ps j))=.int .i64 (ps' j)) (k21:(if i=21 then v else fv)=fv') (k22:(if i=22 then v else .int .i64 at_)=.int .i64 at') (k23:(if i=23 then v else .int .u8 part)=.int .u8 part') (k24:(if i=24 then v else .int .u16 kind)=.int .u16 kind'):WkB B ins' ps' fv' at' part' kind' (W.setCell ⟨B,i,none⟩ v):=by
 obtain⟨cs,h1,h2,h3,h4,h5,h6,h7,h8⟩:=h.blk
 have e:∀ (j:Nat) (u u':Value),j<25→cs[j]?=some u→(if i=j then v else u)=u'→(cs.setIfInBounds i v)[j]?=some u':=fun j u u' hj hu hk=>by
  by_cases hij:i=j
  ·subst hij;rw [if_pos rfl] at hk;rw [Array.getElem?_setIfInBounds_self_of_lt (by omega),hk]
  ·rw [if_neg hij] at hk;rw [Array.getElem?_setIfInBounds_ne hij,hu,hk]
 exact⟨cs.setIfInBounds i v,by simp [World.setCell,Array.getElem?_modify,h1],by simp [h2],e 0 _ _ (by omega) h3 k0,fun j hj=>e (1+j) _ _ (by omega) (h4 j hj) (kp j hj),e 21 _ _ (by omega) h5 k21,e 22 _ _ (by omega) h6 k22,e 23 _ _ (by omega) h7 k23,e 24 _ _ (by omega) h8 k24⟩
theorem WkB.setAt {B:Nat} {ins:Value} {ps:Nat→Int} {fv:Value} {at_ part kind:Int} {W:World} (h:WkB B ins ps fv at_ part kind W) (x:Int):WkB B ins ps fv x part kind (W.setCell ⟨B,22,none⟩ (.int .i64 x)):=h.put 22 _ (by simp) (fun j hj=>by rw [if_neg (by omega)]) (by simp) (by simp) (by simp) (by simp)
theorem WkB.setPart {B:Nat} {ins:Value} {ps:Nat→Int} {fv:Value} {at_ part kind:Int} {W:World} (h:WkB B ins ps fv at_ part kind W) (x:Int):WkB B ins ps fv at_ x kind (W.setCell ⟨B,23,none⟩ (.int .u8 x)):=h.put 23 _ (by simp) (fun j hj=>by rw [if_neg (by omega)]) (by simp) (by simp) (by simp) (by simp)
theorem WkB.setKind {B:Nat} {ins:Value} {ps:Nat→Int} {fv:Value} {at_ part kind:Int} {W:World} (h:WkB B ins ps fv at_ part kind W) (x:Int):WkB B ins ps fv at_ part x (W.setCell ⟨B,24,none⟩ (.int .u16 x)):=h.put 24 _ (by simp) (fun j hj=>by rw [if_neg (by omega)]) (by simp) (by simp) (by simp) (by simp)
theorem WkB.setFuncs {B:Nat} {ins:Value} {ps:Nat→Int} {fv:Value} {at_ part kind:Int} {W:World} (h:WkB B ins ps fv at_ part kind W) (x:Value):WkB B ins ps x at_ part kind (W.setCell ⟨B,21,none⟩ x):=h.put 21 _ (by simp) (fun j hj=>by rw [if_neg (by omega)]) (by simp) (by simp) (by simp) (by simp)
theorem WkB.setSpan {B:Nat} {ins:Value} {ps:Nat→Int} {fv:Value} {at_ part kind:Int} {W:World} (h:WkB B ins ps fv at_ part kind W) (i:Nat) (hi:i<20) (x:Int):WkB B ins (fun j=>if j=i then x else ps j) fv at_ part kind (W.setCell ⟨B,1+i,none⟩ (.int .i64 x)):=h.put (1+i) _ (by rw [if_neg (by omega)]) (fun j hj=>by by_cases e:j=i <;> simp [e];intro e2;exact absurd (by omega) e) (by rw [if_neg (by omega)]) (by rw [if_neg (by omega)]) (by rw [if_neg (by omega)]) (by rw [if_neg (by omega)])
set_option maxHeartbeats 4000000 in
theorem partOf_any (x:InstT) (ax:Option Addr) (n cx:Nat) (w:World) (hv:ArgsV w ax x.2.2.2) (hl:x.2.2.2.length=n) (h59:x.1=59→1≤n) :
  Calls Tryz.prog 136 #[instV x ax n cx] w fun e w'=>e=.returned (.int .u8 (partI x))∧Below w.heap.size w w':=by
 obtain⟨xo,xt,xr,xl⟩:=x
 unfold instV partI
 simp only at *
 have hO:=fun wx=>of_any xo wx
 have hba:Below w.heap.size w (w.alloc (.cells #[.int .u16 xo,.int .u32 xt,.int .u32 xr,.slice ax n cx] 71)):=(Below.refl _ w).alloc (Nat.le_refl _) _
 have HBA:=hide hba
 have hof:∃ nm ty re fx rs mo o,ofV xo=.agg #[.int .u16 o,.string nm,.bool ty,.bool re,.string fx,.string rs,.int .i64 mo,.int .u8 (partO xo)]:=by
  unfold ofV partO formV
  cases h:(lookF refT xo).2 with
  | true=>exact⟨_,_,_,_,_,_,_,by simp;exact⟨rfl,rfl,rfl,rfl,rfl,rfl,rfl⟩⟩
  | false=>exact⟨_,_,_,_,_,_,_,by simp [noFrm];exact⟨rfl,rfl,rfl,rfl,rfl,rfl,rfl⟩⟩
 obtain⟨nm,ty,re,fx,rs,mo,o,ho⟩:=hof
 rw [ho] at hO
 generalize hp:partO xo=po at *
 have OTHER:¬ (xo=59∧(nthA xl 0).2.1=7)→Calls Tryz.prog 136 #[.agg #[.int .u16 xo,.int .u32 xt,.int .u32 xr,.slice ax n cx]] w fun e w'=>e=.returned (.int .u8 po)∧Below w.heap.size w w':=by
  intro hno
  by_cases h1:xo=59
  ·subst h1
   have h7:(nthA xl 0).2.1≠7:=fun e=>hno ⟨rfl,e⟩
   obtain⟨ba,oa,rfl,hb,z0,z1,z2⟩:=hv 0 (by have:=h59 rfl;omega)
   have hn0:(0:Int)<(n:Int):=by have:=h59 rfl;omega
   have zz1:=(hba.cell (p:=⟨ba,oa+0 * 3+1,none⟩) hb).trans z1
   rw [show oa+0 * 3+1=oa+1 by omega] at zz1
   generalize (nthA xl 0).2.1=y at *
   have h7':(y==7)=false:=by simpa using h7
   clear hno h7 hv hl h59 z0 z1 z2 hba hp ho
   go_enter Tryz.func136,Tryz.ntmps136
   go_wp2_with fail
   refine (hO _).mono ?_
   rintro e w1 ⟨rfl,hb1⟩
   have HB1:=hide (HBA.out.trans (hb1.mono HBA.out.size))
   clear hb1 hO zz1
   go_wp2_with fail
   go_ret
   exact⟨rfl,HB1.out.alloc HB1.out.size _⟩
  ·have h1':(xo==59)=false:=by simpa using h1
   clear hno h1 hv hl h59 hba hp ho
   go_enter Tryz.func136,Tryz.ntmps136
   go_wp2_with fail
   refine (hO _).mono ?_
   rintro e w1 ⟨rfl,hb1⟩
   have HB1:=hide (HBA.out.trans (hb1.mono HBA.out.size))
   clear hb1 hO
   go_wp2_with fail
   go_ret
   exact⟨rfl,HB1.out.alloc HB1.out.size _⟩
 by_cases hc:xo=59∧(nthA xl 0).2.1=7
 ·rw [if_pos hc]
  obtain⟨rfl,h7⟩:=hc
  obtain⟨ba,oa,rfl,hb,z0,z1,z2⟩:=hv 0 (by have:=h59 rfl;omega)
  have hn0:(0:Int)<(n:Int):=by have:=h59 rfl;omega
  rw [h7] at z1
  have zz1:=(hba.cell (p:=⟨ba,oa+0 * 3+1,none⟩) hb).trans z1
  rw [show oa+0 * 3+1=oa+1 by omega] at zz1
  clear OTHER h7 hv hl h59 z0 z1 z2 hba hp ho hO
  go_enter Tryz.func136,Tryz.ntmps136
  go_wp2_with fail
  go_ret
  exact⟨rfl,HBA.out⟩
 ·rw [if_neg hc]
  exact OTHER hc
theorem kind_ends (op:Int):(bits .and .u16 (kindOp op) 512==0)=!(endsB op):=by
 by_cases h54:op=54
 ·subst h54;decide +kernel
 by_cases h55:op=55
 ·subst h55;decide +kernel
 by_cases h56:op=56
 ·subst h56;decide +kernel
 by_cases h248:op=248
 ·subst h248;decide +kernel
 by_cases h59:op=59
 ·subst h59;decide +kernel
 by_cases h245:op=245
 ·subst h245;decide +kernel
 by_cases h247:op=247
 ·subst h247;decide +kernel
 by_cases h246:op=246
 ·subst h246;decide +kernel
 by_cases h250:op=250
 ·subst h250;decide +kernel
 by_cases h249:op=249
 ·subst h249;decide +kernel
 by_cases h252:op=252
 ·subst h252;decide +kernel
 by_cases h253:op=253
 ·subst h253;decide +kernel
 by_cases h254:op=254
 ·subst h254;decide +kernel
 by_cases h255:op=255
 ·subst h255;decide +kernel
 by_cases h251:op=251
 ·subst h251;decide +kernel
 have e:kindOp op=64:=by
  unfold kindOp
  simp [h54,h55,h56,h248,h59,h245,h247,h246,h250,h249,h252,h253,h254,h255,h251]
 have e2:endsB op=false:=by unfold endsB;simp;omega
 rw [e,e2]
 decide +kernel
end Go.Proofs.YtoebhgpciinkgaaGreatDoor
