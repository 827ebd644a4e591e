/-
  Texts in one: AppendView, GrRows, GraphMarks, GraphOnce, GraphTurned, Cut.
-/
import Derived.Test.YtlcaedibmlidlaaGreatB01
import Derived.WalkMore
import Derived.BigRegion
import Derived.Deep.RegionWith
import Derived.OwnWalk
import Derived.Deep.MidRow
namespace Go.Proofs.YtlcaedibmlidlaaGreat
open Go.RowKit
set_option maxRecDepth 10000
theorem wpList_append_view {P:Program} (w:World) {ops:Array Oper} {rest:List Oper} {o:Oper} {a:Act} {Q:Exit→Act→World→Prop} (hgd:o.guard=none) (s x:Operand) (t:TypeId)
  (ho:o.op=.call { callee:=.builtin .append,args:=#[s,x],argTypes:=#[t,t] })
  (base:Nat) (e:TypeId) (i:TypeInfo) (z:Value) (bytes:Nat) (k:IntKind) (ht:P.underlying t=some (.slice e)) (hi:P.info? e=some i) (hz:i.zero=some z)
  (hsize:i.size=1) (hby:i.bytes=bytes) (hzs:z.cells.size=1)
  (v:Value) (n:Nat) (xs:List Int) (hs:a.eval s=v) (hown:w.ownsRow base e 1 v n (xs.map (Value.int k)))
  (ad:Option Addr) (m c:Nat) (zs:List Int) (hx:a.eval x=.slice ad m c) (hv:View k w ad zs) (hl:zs.length=m)
  (h63:n+m≤maxLen) (hbytes:(n+m) * bytes≤140737488355328) (hbase:base≤w.heap.size)
  (h:∀ v' w',w'.ownsRow base e 1 v' (n+m) ((xs++zs).map (Value.int k))→w.grownBy w' v.ownBlock→wpList P ops Q rest (a.put o.dst v') w'):wpList P ops Q (o :: rest) a w:=by
 by_cases h0:m=0
 ·subst h0
  have hz0:zs=[]:=List.eq_nil_of_length_eq_zero hl
  subst hz0
  obtain⟨b,n',cap,hve,hle⟩:∃ b n' cap,v=.slice b n' cap∧n'≤cap:=by
   rcases hown.2 with ⟨rfl,rfl⟩ | ⟨g,cap,cur,rfl,_,_,hle,_⟩
   ·exact⟨_,_,_,rfl,Nat.le_refl _⟩
   ·exact⟨_,_,_,rfl,hle⟩
  refine append_run w hgd s x t ho v _ v w hs hx (fun ty=>?_) ?_
  ·rw [hve];exact run_append_nothing w t ty e i ht hi b n' cap hle ad c
  ·refine h v w ?_ ⟨rfl,rfl,rfl,Nat.le_refl _,fun _ _ _=>rfl⟩
   rw [List.append_nil];exact hown
 ·obtain⟨b',o',rfl,_,_⟩:=hv 0 (by omega)
  refine wpList_append_own w hgd s x t ho base e i z 1 bytes ht hi hz hsize hby hzs (by omega) v n (xs.map (Value.int k)) hs hown ⟨b',o',none⟩ m c (zs.map (Value.int k)) hx (by rw [List.length_map,hl];omega) ?_ ?_ h63 hbytes hbase (fun v' w' h2 h3 _=>h v' w' (by rw [List.map_append];exact h2) h3)
  ·intro j u hj
   rw [List.getElem?_map] at hj
   have hjl:j<zs.length:=by
    rcases Nat.lt_or_ge j zs.length with h | h
    ·exact h
    ·rw [List.getElem?_eq_none h] at hj;simp at hj
   obtain⟨b2,o2,e2,_,hc⟩:=hv j hjl
   simp at e2
   obtain⟨rfl,rfl⟩:=e2
   rw [Addr.add_lit,hc,← hj,List.getElem?_eq_getElem hjl]
   simp [nth,List.getD,hjl]
  ·intro u hu
   obtain⟨y,_,rfl⟩:=List.mem_map.1 hu
   rfl
theorem View.ofOwned {k:IntKind} {w:World} {B e n:Nat} {v:Value} {zs:List Int} (h:w.ownsRow B e 1 v n (zs.map (Value.int k))):∃ a cap,v=.slice a n cap∧View k w a zs∧zs.length=n:=by
 have hl:zs.length=n:=by have:=h.1;simpa using this
 have hc:=fun g hg=>h.cells (g:=g) hg
 rcases h.2 with ⟨rfl,rfl⟩ | ⟨g,cap,cur,rfl,_,hg,_⟩
 ·exact⟨none,0,rfl,fun j hj=>by omega,hl⟩
 ·refine⟨some ⟨g,0,none⟩,cap,rfl,fun j hj=>⟨g,0,rfl,(Array.getElem?_eq_some_iff.1 hg).1,?_⟩,hl⟩
  have:=hc g rfl j (.int k (nth zs j)) (by simp [nth,List.getD,hj])
  rw [Addr.add_lit] at this
  exact this
set_option linter.unusedVariables false
set_option linter.unusedSimpArgs false
theorem own_mono {w:World} {lo lo' e size n:Nat} {v:Value} {xs:List Value} (h:w.ownsRow lo e size v n xs) (hl:lo'≤lo):w.ownsRow lo' e size v n xs:=by
 refine⟨h.1,?_⟩
 rcases h.2 with hn | ⟨g,cap,cur,e1,hg,rest⟩
 ·exact .inl hn
 ·exact .inr ⟨g,cap,cur,e1,Nat.le_trans hl hg,rest⟩
theorem own_shapeG {w:World} {lo e size n:Nat} {v:Value} {xs:List Value} (h:w.ownsRow lo e size v n xs):∃ a c,v=.slice a n c:=by
 rcases h.2 with ⟨rfl,h0⟩ | ⟨g,cap,cur,rfl,_⟩
 ·exact⟨none,0,by rw [h0]⟩
 ·exact⟨_,_,rfl⟩
def cellsL (V:Nat→Value) (m:Nat):List Value:=(List.range m).map V
theorem cellsL_len (V:Nat→Value) (m:Nat):(cellsL V m).length=m:=by simp [cellsL]
theorem cellsL_at (V:Nat→Value) (m j:Nat) (h:j<m):(cellsL V m)[j]?=some (V j):=by simp [cellsL,h]
theorem cellsL_set (V:Nat→Value) (m j:Nat) (v:Value) (h:j<m):(cellsL V m).set j v=cellsL (fun k=>if k=j then v else V k) m:=by
 apply List.ext_getElem?
 intro i
 by_cases hi:i<m
 ·rw [List.getElem?_set,cellsL_at _ m i hi,cellsL_len]
  by_cases e:j=i
  ·subst e;simp [h,cellsL_at _ m j h]
  ·have e':¬ i=j:=fun x=>e x.symm
   simp [e,e',cellsL_at _ m i hi]
 ·rw [List.getElem?_eq_none (by rw [List.length_set,cellsL_len];omega),List.getElem?_eq_none (by rw [cellsL_len];omega)]
theorem cellsL_succ (V:Nat→Value) (m:Nat) (v:Value):cellsL V m++[v]=cellsL (fun k=>if k=m then v else V k) (m+1):=by
 unfold cellsL
 rw [List.range_succ,List.map_append]
 congr 1
 ·apply List.map_congr_left
  intro k hk
  have:=List.mem_range.1 hk
  rw [if_neg (by omega)]
 ·simp
def rowL (hv:Value) (V:Nat→Value) (N:List (List Int)):Option Nat→RowX
 | none=>⟨26,1,hv,N.length,cellsL V N.length⟩
 | some j=>⟨3,1,V j,(rowN N j).length,(rowN N j).map (Value.int .i64)⟩
def inL (N:List (List Int)):Option Nat→Prop
 | none=>True
 | some j=>j<N.length
def OwnL (w:World) (lo:Nat) (hv:Value) (N:List (List Int)):Prop:=∃ V,RowsX w lo (inL N) (rowL hv V N)
theorem OwnL.same {w w':World} {lo:Nat} {hv:Value} {N:List (List Int)} (h:OwnL w lo hv N) (hs:∀ g cs T fr,lo≤g→(T=3∨T=26)→w.heap[g]?=some (.cells cs T fr)→w'.heap[g]?=some (.cells cs T fr)):OwnL w' lo hv N:=by
 obtain⟨V,hV⟩:=h
 refine⟨V,fun q hq=>?_,hV.apart⟩
 have ho:=hV.own q hq
 unfold RowX.own at ho ⊢
 refine⟨ho.1,?_⟩
 rcases ho.2 with hn | ⟨g,cap,cur,e,hg,hgg,rest⟩
 ·exact .inl hn
 ·refine .inr ⟨g,cap,cur,e,hg,hs g _ _ _ hg ?_ hgg,rest⟩
  cases q <;> simp [rowL]
theorem rowsL_same {w w':World} {lo:Nat} {hv:Value} {V:Nat→Value} {N:List (List Int)} (hV:RowsX w lo (inL N) (rowL hv V N)) (hs:∀ g cs T fr,lo≤g→(T=3∨T=26)→w.heap[g]?=some (.cells cs T fr)→w'.heap[g]?=some (.cells cs T fr)):RowsX w' lo (inL N) (rowL hv V N):=by
 refine⟨fun q hq=>?_,hV.apart⟩
 have ho:=hV.own q hq
 unfold RowX.own at ho ⊢
 refine⟨ho.1,?_⟩
 rcases ho.2 with hn | ⟨g,cap,cur,e,hg,hgg,rest⟩
 ·exact .inl hn
 ·refine .inr ⟨g,cap,cur,e,hg,hs g _ _ _ hg ?_ hgg,rest⟩
  cases q <;> simp [rowL]
theorem rowsL_read {w:World} {lo:Nat} {hv:Value} {V:Nat→Value} {N:List (List Int)} (hV:RowsX w lo (inL N) (rowL hv V N)) {j:Nat} (hj:j<N.length):∃ h c aj cj,hv=.slice (some ⟨h,0,none⟩) N.length c∧V j=.slice aj (rowN N j).length cj∧w.cell? ⟨h,j,none⟩=some (V j)∧View .i64 w aj (rowN N j)∧h<w.heap.size:=by
 have h0:w.ownsRow lo 26 1 hv N.length (cellsL V N.length):=hV.own none trivial
 have hr:w.ownsRow lo 3 1 (V j) (rowN N j).length ((rowN N j).map (Value.int .i64)):=hV.own (some j) hj
 obtain⟨aj,cj,ej,hvj,_⟩:=View.ofOwned hr
 rcases h0.2 with ⟨e,hn⟩ | ⟨g,cap,cur,e,hg,hgg,hle,_⟩
 ·omega
 ·subst e
  exact⟨g,cap,aj,cj,rfl,ej,by rw [h0.cellAt j (by omega),cellsL_at V _ j hj],hvj,(Array.getElem?_eq_some_iff.1 hgg).1⟩
theorem OwnL.kept {w w':World} {lo:Nat} {hv:Value} {N:List (List Int)} {ob:Option Nat} (h:OwnL w lo hv N) (hg:w.grownBy w' ob) (hob:∀ g,ob=some g→g<lo):OwnL w' lo hv N:=by
 obtain⟨V,hV⟩:=h;exact⟨V,hV.kept hg hob⟩
theorem OwnL.below {w w':World} {lo:Nat} {hv:Value} {N:List (List Int)} (h:OwnL w lo hv N) (hb:Below w.heap.size w w'):OwnL w' lo hv N:=h.kept (ob:=none) ⟨hb.os,hb.tape,hb.output,hb.size,fun k hk _=>hb.block k hk⟩ (fun g e=>by cases e)
theorem OwnL.mono {w:World} {lo lo':Nat} {hv:Value} {N:List (List Int)} (h:OwnL w lo hv N) (hl:lo'≤lo):OwnL w lo' hv N:=by
 obtain⟨V,hV⟩:=h;exact⟨V,fun q hq=>own_mono (hV.own q hq) hl,hV.apart⟩
def LV (w:World) (a:Option Addr) (N:List (List Int)):Prop :=
 ∀ j,j<N.length→∃ b off aj nj cj,a=some ⟨b,off,none⟩∧b<w.heap.size∧w.cell? ⟨b,off+j,none⟩=some (.slice aj nj cj)∧(rowN N j).length=nj∧nj≤cj∧View .i64 w aj (rowN N j)
theorem LV.below {w w':World} {a:Option Addr} {N:List (List Int)} (h:LV w a N) (hb:Below w.heap.size w w'):LV w' a N:=by
 intro j hj
 obtain⟨b,off,aj,nj,cj,e,hlt,h1,h2,h3,h4⟩:=h j hj
 exact⟨b,off,aj,nj,cj,e,Nat.lt_of_lt_of_le hlt hb.size,(hb.cell (p:=⟨b,off+j,none⟩) hlt).trans h1,h2,h3,h4.below hb⟩
theorem LV.at {w:World} {a:Option Addr} {N:List (List Int)} (h:LV w a N) {j:Nat} (hj:j<N.length):∃ b off aj nj cj,a=some ⟨b,off,none⟩∧b<w.heap.size∧w.cell? ⟨b,off+j,none⟩=some (.slice aj nj cj)∧(rowN N j).length=nj∧nj≤cj∧View .i64 w aj (rowN N j):=h j hj
theorem OwnL.head {w:World} {lo:Nat} {hv:Value} {N:List (List Int)} (h:OwnL w lo hv N):∃ a c,hv=.slice a N.length c∧N.length≤c∧LV w a N∧(∀ b off,a=some ⟨b,off,none⟩→lo≤b∧b<w.heap.size):=by
 obtain⟨V,hV⟩:=h
 have h0:w.ownsRow lo 26 1 hv N.length (cellsL V N.length):=hV.own none trivial
 rcases h0.2 with ⟨e,hn⟩ | ⟨g,cap,cur,e,hg,hgg,hle,_⟩
 ·exact⟨none,0,by rw [e,hn],by omega,fun j hj=>by omega,fun b off e=>by cases e⟩
 ·refine⟨some ⟨g,0,none⟩,cap,e,hle,fun j hj=>?_,fun b off e=>by cases e;exact⟨hg,(Array.getElem?_eq_some_iff.1 hgg).1⟩⟩
  have hr:w.ownsRow lo 3 1 (V j) (rowN N j).length ((rowN N j).map (Value.int .i64)):=hV.own (some j) hj
  obtain⟨aj,cj,ej,hvj,_⟩:=View.ofOwned hr
  have hcj:(rowN N j).length≤cj:=by
   rcases hr.2 with ⟨e1,e2⟩ | ⟨g',cap',cur',e1,_,_,hle',_⟩
   ·rw [e1] at ej;simp at ej;omega
   ·rw [e1] at ej;simp at ej;omega
  refine⟨g,0,aj,_,cj,rfl,(Array.getElem?_eq_some_iff.1 hgg).1,?_,rfl,hcj,hvj⟩
  subst e
  rw [Nat.zero_add,h0.cellAt j (by omega),cellsL_at V _ j hj,ej]
theorem OwnL.put {W w:World} {lo h c:Nat} {N:List (List Int)} (hN:OwnL W lo (.slice (some ⟨h,0,none⟩) N.length c) N) (hb:Below W.heap.size W w) {j:Nat} (hj:j<N.length) {v:Value} {l:List Int} (hlo:lo≤W.heap.size) (hv:w.ownsRow W.heap.size 3 1 v l.length (l.map (Value.int .i64))) :
  OwnL (w.setCell ⟨h,j,none⟩ v) lo (.slice (some ⟨h,0,none⟩) N.length c) (N.set j l)∧(∃ u,w.cell? ⟨h,j,none⟩=some u)∧w.frozen? ⟨h,j,none⟩=false∧h<W.heap.size:=by
 obtain⟨V,hV⟩:=hN
 have h1:=hV.put (w':=w) (R':=fun q=>if q=some j then ⟨3,1,v,l.length,l.map (Value.int .i64)⟩ else rowL (.slice (some ⟨h,0,none⟩) N.length c) V N q) (some j) hj ⟨hb.os,hb.tape,hb.output,hb.size,fun k hk _=>hb.block k hk⟩ (by rw [if_pos rfl];exact own_mono hv hlo) (by rw [if_pos rfl];exact .inr fun g e=>(World.ownsRow.lt hv g e).1) (fun q hq hne=>if_neg hne)
 have h0:w.ownsRow lo 26 1 (.slice (some ⟨h,0,none⟩) N.length c) N.length (cellsL V N.length):=by have:=h1.own none trivial;simpa [RowX.own,rowL] using this
 have hs:=own_setAt h0 j v
 have hV0:W.ownsRow lo 26 1 (.slice (some ⟨h,0,none⟩) N.length c) N.length (cellsL V N.length):=hV.own none trivial
 refine⟨⟨fun k=>if k=j then v else V k,?_⟩,⟨V j,by rw [h0.cellAt j (by omega),cellsL_at V _ j hj]⟩,h0.frozenAt _,(World.ownsRow.lt hV0 h rfl).2⟩
 have h2:=h1.put (w':=w.setCell ⟨h,j,none⟩ v) (R':=rowL (.slice (some ⟨h,0,none⟩) N.length c) (fun k=>if k=j then v else V k) (N.set j l)) none trivial (by simpa [rowL,Value.ownBlock] using grown_setCell w h j v) (by
   unfold RowX.own rowL
   simp only [List.length_set]
   rw [← cellsL_set V _ j v hj];exact hs) (.inl rfl) (fun q hq hne=>by
   cases q with
   | none=>exact absurd rfl hne
   | some k =>
    have hk:k<N.length:=hq
    by_cases e:k=j
    ·subst e;simp [rowL,rowN_set N l k k hj]
    ·have e2:¬ (some k=some j):=fun x=>e (Option.some.inj x)
     simp [rowL,e,e2,rowN_set N l j k hj])
 refine⟨fun q hq=>h2.own q (by cases q with | none=>trivial | some k=>have:k<(N.set j l).length:=hq;rwa [List.length_set] at this),fun q q' hq hq'=>h2.apart q q' (by cases q with | none=>trivial | some k=>have:k<(N.set j l).length:=hq;rwa [List.length_set] at this) (by cases q' with | none=>trivial | some k=>have:k<(N.set j l).length:=hq';rwa [List.length_set] at this)⟩
theorem OwnL.row {w:World} {lo h c:Nat} {N:List (List Int)} (hN:OwnL w lo (.slice (some ⟨h,0,none⟩) N.length c) N) {j:Nat} (hj:j<N.length):∃ v,w.cell? ⟨h,j,none⟩=some v∧w.frozen? ⟨h,j,none⟩=false∧h<w.heap.size∧lo≤h∧w.ownsRow lo 3 1 v (rowN N j).length ((rowN N j).map (Value.int .i64)) ∧
  ∀ (w':World) (v':Value) (l:List Int),w.grownBy w' v.ownBlock→(v'.ownBlock=v.ownBlock∨∀ g,v'.ownBlock=some g→w.heap.size≤g)→w'.ownsRow lo 3 1 v' l.length (l.map (Value.int .i64))→OwnL (w'.setCell ⟨h,j,none⟩ v') lo (.slice (some ⟨h,0,none⟩) N.length c) (N.set j l)∧(∃ u,w'.cell? ⟨h,j,none⟩=some u)∧w'.frozen? ⟨h,j,none⟩=false:=by
 obtain⟨V,hV⟩:=hN
 have hh:w.ownsRow lo 26 1 (.slice (some ⟨h,0,none⟩) N.length c) N.length (cellsL V N.length):=hV.own none trivial
 refine⟨V j,by rw [hh.cellAt j (by omega),cellsL_at V _ j hj],hh.frozenAt _,(World.ownsRow.lt hh h rfl).2,(World.ownsRow.lt hh h rfl).1,hV.own (some j) hj,fun w' v' l hg hvb hv=>?_⟩
 have h1:=hV.put (w':=w') (R':=fun q=>if q=some j then ⟨3,1,v',l.length,l.map (Value.int .i64)⟩ else rowL (.slice (some ⟨h,0,none⟩) N.length c) V N q) (some j) hj hg (by rw [if_pos rfl];exact hv) (by rw [if_pos rfl];exact hvb) (fun q hq hne=>if_neg hne)
 have h0:w'.ownsRow lo 26 1 (.slice (some ⟨h,0,none⟩) N.length c) N.length (cellsL V N.length):=by have:=h1.own none trivial;simpa [RowX.own,rowL] using this
 have hs:=own_setAt h0 j v'
 refine⟨⟨fun k=>if k=j then v' else V k,?_⟩,⟨V j,by rw [h0.cellAt j (by omega),cellsL_at V _ j hj]⟩,h0.frozenAt _⟩
 have h2:=h1.put (w':=w'.setCell ⟨h,j,none⟩ v') (R':=rowL (.slice (some ⟨h,0,none⟩) N.length c) (fun k=>if k=j then v' else V k) (N.set j l)) none trivial (by simpa [rowL,Value.ownBlock] using grown_setCell w' h j v') (by
   unfold RowX.own rowL
   simp only [List.length_set]
   rw [← cellsL_set V _ j v' hj];exact hs) (.inl rfl) (fun q hq hne=>by
   cases q with
   | none=>exact absurd rfl hne
   | some k =>
    have hk:k<N.length:=hq
    by_cases e:k=j
    ·subst e;simp [rowL,rowN_set N l k k hj]
    ·have e2:¬ (some k=some j):=fun x=>e (Option.some.inj x)
     simp [rowL,e,e2,rowN_set N l j k hj])
 refine⟨fun q hq=>h2.own q (by cases q with | none=>trivial | some k=>have:k<(N.set j l).length:=hq;rwa [List.length_set] at this),fun q q' hq hq'=>h2.apart q q' (by cases q with | none=>trivial | some k=>have:k<(N.set j l).length:=hq;rwa [List.length_set] at this) (by cases q' with | none=>trivial | some k=>have:k<(N.set j l).length:=hq';rwa [List.length_set] at this)⟩
theorem OwnL.made {w:World} {lo h n:Nat} (hr:w.ownsRow lo 26 1 (.slice (some ⟨h,0,none⟩) n n) n (madeCells #[Value.slice none 0 0] (n * 1)).toList):OwnL w lo (.slice (some ⟨h,0,none⟩) n n) (List.replicate n []):=by
 have hc:(madeCells #[Value.slice none 0 0] (n * 1)).toList=cellsL (fun _=>.slice none 0 0) n:=by
  rw [Nat.mul_one,toList_madeCells_one (.slice none 0 0) n]
  unfold cellsL
  apply List.ext_getElem (by simp)
  intro i h1 h2
  simp
 rw [hc] at hr
 have hrow:∀ j,rowN (List.replicate n ([]:List Int)) j=[]:=fun j=>by
  unfold rowN
  by_cases hj:j<n
  ·simp [List.getD,List.getElem?_replicate,hj]
  ·simp [List.getD,List.getElem?_replicate,hj]
 refine⟨fun _=>.slice none 0 0,fun q hq=>?_,fun q q' hq hq' hne g e1 e2=>?_⟩
 ·cases q with
  | none=>simpa [RowX.own,rowL] using hr
  | some j=>simp only [RowX.own,rowL,hrow];exact World.ownsRow_nil _ _ _ _
 ·cases q with
  | none =>
   cases q' with
   | none=>exact hne rfl
   | some j=>simp [rowL,Value.ownBlock] at e2
  | some j=>simp [rowL,Value.ownBlock] at e1
theorem GrInts.info:(Tryz.prog.info? 3).map (fun i=>(i.zero,i.size,i.bytes))=some (some (.int .i64 0),1,8):=by kernel_rfl
theorem GrLists.info:(Tryz.prog.info? 26).map (fun i=>(i.zero,i.size,i.bytes))=some (some (.slice none 0 0),1,24):=by kernel_rfl
theorem wpList_app1 {w:World} {ops:Array Oper} {rest:List Oper} {o:Oper} {a:Act} {Q:Exit→Act→World→Prop} (hgd:o.guard=none) (s x:Operand) (ho:o.op=.call { callee:=.builtin .append,args:=#[s,x],argTypes:=#[26,26] })
  (lo:Nat) (v:Value) (zs:List Int) (y:Int) (hs:a.eval s=v) (B:Nat) (hx:a.eval x=.slice (some ⟨B,0,none⟩) 1 1) (hB:w.heap[B]?=some (.cells #[.int .i64 y] 3 (0,0))) (hown:w.ownsRow lo 3 1 v zs.length (zs.map (Value.int .i64))) (hn:zs.length<17592186044415) (hlo:lo≤w.heap.size)
  (h:∀ g cap w',w'.ownsRow lo 3 1 (.slice (some ⟨g,0,none⟩) (zs.length+1) cap) (zs++[y]).length ((zs++[y]).map (Value.int .i64))→w.grownBy w' v.ownBlock→(v.ownBlock=some g∨g=w.heap.size)→wpList Tryz.prog ops Q rest (a.put o.dst (.slice (some ⟨g,0,none⟩) (zs.length+1) cap)) w'):wpList Tryz.prog ops Q (o :: rest) a w:=by
 obtain⟨i0,hi,hz0,hz1,hz2⟩:=info_parts GrInts.info
 refine wpList_append_lies w hgd s x 26 ho lo 3 i0 (.int .i64 0) 1 8 Tryz.underlying26 hi hz0 hz1 hz2 rfl (by decide) v zs.length (zs.map (Value.int .i64)) hs hown ⟨B,0,none⟩ 1 1 [.int .i64 y] hx rfl (World.news_of_block (cs:=#[.int .i64 y]) (t:=3) (fr:=(0,0)) hB) (by intro u hu;simp at hu;subst hu;rfl) (by decide) (by unfold maxLen;omega) (by omega) hlo w.heap.size rfl ?_
 intro g cap w' h1 h2 h3 _
 exact h g cap w' (by simpa using h1) h2 h3
theorem OwnL.nil (w:World) (lo:Nat):OwnL w lo (.slice none 0 0) []:=by
 refine⟨fun _=>.slice none 0 0,fun q hq=>?_,fun q q' hq hq' hne g e1 e2=>?_⟩
 ·cases q with
  | none=>exact World.ownsRow_nil _ _ _ _
  | some j=>exact absurd hq (Nat.not_lt_zero j)
 ·cases q with
  | none=>simp [rowL,Value.ownBlock] at e1
  | some j=>exact absurd hq (Nat.not_lt_zero j)
def MkAt (w:World) (b off:Nat) (m:Nat→Nat):Prop:=∀ k,k<64→w.cell? ⟨b,off+k,none⟩=some (.int .u64 (m k:Int))∧w.frozen? ⟨b,off+k,none⟩=false∧m k<18446744073709551616
def hasM (m:Nat→Nat) (i:Nat):Bool:=(m (i / 64)).testBit (i % 64)
def setM (m:Nat→Nat) (i:Nat):Nat→Nat:=fun k=>if k=i / 64 then m k ||| 2 ^ (i % 64) else m k
theorem hasM_setM (m:Nat→Nat) (i j:Nat):hasM (setM m i) j=(decide (j=i) || hasM m j):=by
 unfold hasM setM
 by_cases h:j / 64=i / 64
 ·rw [if_pos h,Nat.testBit_or,Nat.testBit_two_pow]
  by_cases h2:j=i
  ·subst h2;simp
  ·have:¬ i % 64=j % 64:=by omega
   simp [h2,this]
 ·rw [if_neg h]
  have:¬ j=i:=fun e=>h (by rw [e])
  simp [this]
theorem setM_lt (m:Nat→Nat) (i k:Nat) (h:m k<18446744073709551616):setM m i k<18446744073709551616:=by
 unfold setM;split
 ·have:(2:Nat) ^ (i % 64)<2 ^ 64:=Nat.pow_lt_pow_right (by omega) (by omega)
  exact Nat.or_lt_two_pow (n:=64) h this
 ·exact h
theorem pow_wrap (r:Nat) (hr:r<64):IntKind.u64.wrap (2 ^ r)=(2:Int) ^ r:=by
 have hp:(2:Nat) ^ r<18446744073709551616:=Nat.pow_lt_pow_right (n:=64) (by omega) hr
 have e:(2:Int) ^ r=((2 ^ r:Nat):Int):=by simp
 rw [e]
 clear e
 generalize (2:Nat) ^ r=P at *
 rw [IntKind.wrap_u64]
 omega
theorem bit_and (v r:Nat) (h:v<18446744073709551616):(bits .and .u64 ((v:Int) / 2 ^ r) 1==1)=v.testBit r:=by
 have e:((v:Int) / 2 ^ r)=((v / 2 ^ r:Nat):Int):=by simp
 rw [e]
 have hb:=u64_and_nat (v / 2 ^ r) 1 (Nat.lt_of_le_of_lt (Nat.div_le_self _ _) h) (by omega)
 rw [show ((1:Nat):Int)=1 from rfl] at hb
 rw [hb,Nat.testBit_eq_decide_div_mod_eq,Nat.and_one_is_mod]
 rw [Bool.eq_iff_iff]
 simp
 omega
set_option maxHeartbeats 1000000 in
theorem marksHas_any (b off:Nat) (m:Nat→Nat) (i:Nat) (w:World) (h:MkAt w b off m) (hi:i<4096):Calls Tryz.prog 79 #[.pointer (some ⟨b,off,none⟩),.int .i64 (i:Int)] w fun e w'=>e=.returned (.bool (hasM m i))∧w=w':=by
 obtain⟨hc,hf,hm⟩:=h (i / 64) (by omega)
 have h0:(0:Int)≤(i:Int):=by omega
 have h1:(i:Int)<4096:=by omega
 obtain⟨q,hq⟩:∃ q,i / 64=q:=⟨_,rfl⟩
 obtain⟨r,hr⟩:∃ r,i % 64=r:=⟨_,rfl⟩
 have hqi:(i:Int) / 64=(q:Int):=by omega
 have hri:(i:Int) % 64=(r:Int):=by omega
 have HQ:Hid (q<64):=by show q<64;omega
 have hq1:(q:Int)<64:=by omega
 have hr1:(r:Int)<64:=by omega
 have HX:Hid (hasM m i=(m q).testBit r):=by show _=_;unfold hasM;rw [hq,hr]
 rw [hq] at hc hm
 generalize hasM m i=x at *
 generalize m q=v at *
 have HM:=hide hm
 clear h hi hf hq hr hm
 go_enter Tryz.func79,Tryz.ntmps79
 go_wp2
 go_ret
 exact⟨by rw [HX.out,bit_and v r HM.out];rfl,rfl⟩
set_option maxHeartbeats 2000000 in
theorem marksSet_any (b off:Nat) (m:Nat→Nat) (i:Nat) (w:World) (h:MkAt w b off m) (hi:i<4096):Calls Tryz.prog 141 #[.pointer (some ⟨b,off,none⟩),.int .i64 (i:Int)] w fun e w'=>e=.returned (.tuple #[])∧∃ d,w'=(w.setCell ⟨b,off+i / 64,none⟩ (.int .u64 (setM m i (i / 64):Int))).drewN d:=by
 obtain⟨hc,hf,hm⟩:=h (i / 64) (by omega)
 have h0:(0:Int)≤(i:Int):=by omega
 have h1:(i:Int)<4096:=by omega
 obtain⟨q,hq⟩:∃ q,i / 64=q:=⟨_,rfl⟩
 obtain⟨r,hr⟩:∃ r,i % 64=r:=⟨_,rfl⟩
 have eq:(i:Int).tdiv 64=(q:Int):=by rw [Int.tdiv_eq_ediv_of_nonneg (by omega)];omega
 have em:(i:Int).tmod 64=(r:Int):=by rw [Int.tmod_eq_emod_of_nonneg (by omega)];omega
 have hqi:(i:Int) / 64=(q:Int):=by omega
 have hri:(i:Int) % 64=(r:Int):=by omega
 have hq1:(q:Int)<64:=by omega
 have hr1:(r:Int)<64:=by omega
 have hwq:IntKind.i64.wrap (q:Int)=(q:Int):=by rw [IntKind.wrap_i64];omega
 have hwr:IntKind.i64.wrap (r:Int)=(r:Int):=by rw [IntKind.wrap_i64];omega
 have HX:Hid ((setM m i q:Int)=bits .or .u64 (m q:Int) (2 ^ r)):=by
  show _=_
  unfold setM
  rw [if_pos hq.symm,hr]
  have hp:(2:Nat) ^ r<18446744073709551616:=Nat.pow_lt_pow_right (n:=64) (by omega) (by omega)
  rw [hq] at hm
  have:=u64_or_nat (m q) (2 ^ r) hm hp
  rw [← this];simp
 have hws:IntKind.u64.wrap (2 ^ r)=(2:Int) ^ r:=pow_wrap r (by omega)
 rw [hq] at hc hm hf ⊢
 generalize setM m i q=x at *
 generalize m q=v at *
 have HM:=hide hm
 clear h hi hq hr hm
 go_enter Tryz.func141,Tryz.ntmps141
 go_region_with (fail)
 all_goals
  go_end0
  rw [← HX.out]
  exact⟨rfl,1,rfl⟩
def arr64 (m:Nat→Nat):List Value:=(List.range 64).map fun k=>.int .u64 (m k:Int)
theorem arr64_len (m:Nat→Nat):(arr64 m).length=64:=by simp [arr64]
theorem arr64_get (m:Nat→Nat) (k:Nat) (h:k<64):(arr64 m)[k]?=some (.int .u64 (m k:Int)):=by simp [arr64,h]
theorem arr64_set (m:Nat→Nat) (i:Nat) (h:i<4096):(arr64 m).set (i / 64) (.int .u64 (setM m i (i / 64):Int))=arr64 (setM m i):=by
 apply List.ext_getElem?
 intro j
 by_cases hj:j<64
 ·rw [List.getElem?_set,arr64_get _ j hj,arr64_get _ j hj,arr64_len]
  by_cases e:i / 64=j
  ·subst e;simp [hj]
  ·have:setM m i j=m j:=by unfold setM;rw [if_neg (fun x=>e x.symm)]
   simp [e,this]
 ·rw [List.getElem?_eq_none (by rw [List.length_set,arr64_len];omega),List.getElem?_eq_none (by rw [arr64_len];omega)]
def MkB (w:World) (b:Nat) (m:Nat→Nat):Prop:=w.heap[b]?=some (.cells (arr64 m).toArray 99 (0,0))∧∀ k,m k<18446744073709551616
theorem MkB.at {w:World} {b:Nat} {m:Nat→Nat} (h:MkB w b m):MkAt w b 0 m:=fun k hk=>by
 refine⟨?_,?_,h.2 k⟩
 ·rw [Nat.zero_add];simp [World.cell?,h.1,arr64_get m k hk]
 ·simp [World.frozen?,h.1]
theorem MkB.set {w:World} {b:Nat} {m:Nat→Nat} (h:MkB w b m) {i:Nat} (hi:i<4096) (d:Nat):MkB ((w.setCell ⟨b,0+i / 64,none⟩ (.int .u64 (setM m i (i / 64):Int))).drewN d) b (setM m i):=by
 refine⟨?_,fun k=>setM_lt m i k (h.2 k)⟩
 show (w.setCell ⟨b,0+i / 64,none⟩ (.int .u64 (setM m i (i / 64):Int))).heap[b]?=_
 rw [Nat.zero_add]
 simp only [World.setCell,Array.getElem?_modify]
 rw [if_pos trivial,h.1,← arr64_set m i hi]
 simp
theorem MkB.below {w w':World} {b:Nat} {m:Nat→Nat} (h:MkB w b m) (hb:Below w.heap.size w w'):MkB w' b m:=⟨(hb.block b (Array.getElem?_eq_some_iff.1 h.1).1).trans h.1,h.2⟩
theorem MkB.kept {w w':World} {b:Nat} {m:Nat→Nat} {ob:Option Nat} (h:MkB w b m) (hg:w.grownBy w' ob) (hne:ob≠some b):MkB w' b m:=⟨(hg.block b (Array.getElem?_eq_some_iff.1 h.1).1 (fun e=>hne e.symm)).trans h.1,h.2⟩
theorem arr64_zero:(arr64 fun _=>0).toArray=#[.int .u64 0,.int .u64 0,.int .u64 0,.int .u64 0,.int .u64 0,.int .u64 0,.int .u64 0,.int .u64 0,.int .u64 0,.int .u64 0,.int .u64 0,.int .u64 0,.int .u64 0,.int .u64 0,.int .u64 0,.int .u64 0,.int .u64 0,.int .u64 0,.int .u64 0,.int .u64 0,.int .u64 0,.int .u64 0,.int .u64 0,.int .u64 0,.int .u64 0,.int .u64 0,.int .u64 0,.int .u64 0,.int .u64 0,.int .u64 0,.int .u64 0,.int .u64 0,.int .u64 0,.int .u64 0,.int .u64 0,.int .u64 0,.int .u64 0,.int .u64 0,.int .u64 0,.int .u64 0,.int .u64 0,.int .u64 0,.int .u64 0,.int .u64 0,.int .u64 0,.int .u64 0,.int .u64 0,.int .u64 0,.int .u64 0,.int .u64 0,.int .u64 0,.int .u64 0,.int .u64 0,.int .u64 0,.int .u64 0,.int .u64 0,.int .u64 0,.int .u64 0,.int .u64 0,.int .u64 0,.int .u64 0,.int .u64 0,.int .u64 0,.int .u64 0]:=rfl
theorem MkB.new (w:World):MkB (w.alloc (.cells #[.int .u64 0,.int .u64 0,.int .u64 0,.int .u64 0,.int .u64 0,.int .u64 0,.int .u64 0,.int .u64 0,.int .u64 0,.int .u64 0,.int .u64 0,.int .u64 0,.int .u64 0,.int .u64 0,.int .u64 0,.int .u64 0,.int .u64 0,.int .u64 0,.int .u64 0,.int .u64 0,.int .u64 0,.int .u64 0,.int .u64 0,.int .u64 0,.int .u64 0,.int .u64 0,.int .u64 0,.int .u64 0,.int .u64 0,.int .u64 0,.int .u64 0,.int .u64 0,.int .u64 0,.int .u64 0,.int .u64 0,.int .u64 0,.int .u64 0,.int .u64 0,.int .u64 0,.int .u64 0,.int .u64 0,.int .u64 0,.int .u64 0,.int .u64 0,.int .u64 0,.int .u64 0,.int .u64 0,.int .u64 0,.int .u64 0,.int .u64 0,.int .u64 0,.int .u64 0,.int .u64 0,.int .u64 0,.int .u64 0,.int .u64 0,.int .u64 0,.int .u64 0,.int .u64 0,.int .u64 0,.int .u64 0,.int .u64 0,.int .u64 0,.int .u64 0] 99)) w.heap.size (fun _=>0):=by
 refine⟨?_,fun k=>by show (0:Nat)<_;omega⟩
 rw [arr64_zero]
 show (w.heap.push _)[w.heap.size]?=_
 rw [Array.getElem?_push_size]
theorem hasM_zero (i:Nat):hasM (fun _=>0) i=false:=by simp [hasM]
def Marked (m:Nat→Nat) (c:List Int):Prop:=∀ i:Nat,i<4096→hasM m i=decide ((i:Int)∈c)
theorem marked_nil:Marked (fun _=>0) []:=fun i _=>by simp [hasM_zero]
theorem Marked.add {m:Nat→Nat} {c:List Int} (h:Marked m c) (i:Nat):Marked (setM m i) (c++[(i:Int)]):=fun j hj=>by
 rw [hasM_setM,h j hj,Bool.eq_iff_iff]
 simp only [Bool.or_eq_true,decide_eq_true_eq,List.mem_append,List.mem_singleton]
 constructor
 ·rintro (h | h)
  ·exact .inr (by rw [h])
  ·exact .inl h
 ·rintro (h | h)
  ·exact .inr h
  ·exact .inl (by omega)
theorem measZ2 {k n:Nat} (h:k<n):n - (intOf (.int .i64 ((k:Int)+1))).toNat<n - (intOf (.int .i64 (k:Int))).toNat:=by simp [intOf];omega
structure OnceS (w wr : World) (B : Nat) (v : Value) (zs : List Int) (m : Nat → Nat) : Prop where
  own : wr.ownsRow (B + 1) 3 1 v zs.length (zs.map (Value.int .i64))
  marks : MkB wr B m
  marked : Marked m zs
  bel : Below w.heap.size w wr
  lt : w.heap.size = B
theorem OnceS.mark {w wr:World} {B:Nat} {v:Value} {zs:List Int} {m:Nat→Nat} (h:OnceS w wr B v zs m) {x:Nat} (hx:x<4096) (d:Nat) {w3:World} (hd:w3=(wr.setCell ⟨B,0+x / 64,none⟩ (.int .u64 (setM m x (x / 64):Int))).drewN d) :
  w3.ownsRow (B+1) 3 1 v zs.length (zs.map (Value.int .i64))∧MkB w3 B (setM m x)∧Below w.heap.size w w3∧B<w3.heap.size:=by
 have hg:wr.grownBy w3 (some B):=by
  rw [hd]
  have:=grown_setCell wr B (0+x / 64) (.int .u64 (setM m x (x / 64):Int))
  exact⟨this.os,this.tape,this.output,this.size,this.block⟩
 have hm:MkB w3 B (setM m x):=by rw [hd];exact h.marks.set hx d
 refine⟨own_grown h.own hg (fun g e e2=>by have:=(World.ownsRow.lt h.own g e2).1;cases e;omega),hm,h.bel.grown hg h.bel.size (fun k e=>by cases e;have:=h.lt;omega),(Array.getElem?_eq_some_iff.1 hm.1).1⟩
theorem OnceS.push {w w3 w5:World} {B:Nat} {v v':Value} {zs:List Int} {m:Nat→Nat} {x:Nat} (o:Obj) (hown:w3.ownsRow (B+1) 3 1 v zs.length (zs.map (Value.int .i64))) (hm:MkB w3 B (setM m x)) (hb:Below w.heap.size w w3) (hl:w.heap.size=B) (hmk:Marked m zs) (hg:(w3.alloc o).grownBy w5 v.ownBlock) (h':w5.ownsRow (B+1) 3 1 v' (zs++[(x:Int)]).length ((zs++[(x:Int)]).map (Value.int .i64))):OnceS w w5 B v' (zs++[(x:Int)]) (setM m x):=by
 have ha:Below w3.heap.size w3 (w3.alloc o):=(Below.refl _ _).alloc (Nat.le_refl _) _
 refine⟨h',(hm.below ha).kept hg (fun e=>by have:=(World.ownsRow.lt hown B e).1;omega),hmk.add x,(hb.trans (ha.mono hb.size)).grown hg (by rw [World.size_alloc];have:=hb.size;omega) (fun k e=>by have:=(World.ownsRow.lt hown k e).1;omega),hl⟩
set_option maxHeartbeats 4000000 in
theorem once_any (a : Option Addr) (n c : Nat) (zs : List Int) (w : World) (hv : View .i64 w a zs) (hl : zs.length = n) (hn : 8 * n ≤ 140737488351232) (hr : ∀ x ∈ zs, 0 ≤ x ∧ x < 4096) :
    Calls Tryz.prog 94 #[.slice a n c] w fun e w' => ∃ v, e = .returned v ∧ w'.ownsRow w.heap.size 3 1 v (onceF zs).length ((onceF zs).map (Value.int .i64)) ∧ Below w.heap.size w w' := by
  obtain ⟨i0, hi, hz0, hz1, hz2⟩ := info_parts GrInts.info
  have HL := hide hl
  have HR := hide hr
  have HV := hide hv
  have HN := hide hn
  have hni : (8 : Int) * n ≤ 140737488351232 := by omega
  clear hl hr hv hn
  have HM := hide (MkB.new w)
  have HW0 : Hid ((w.alloc (.cells #[.int .u64 0, .int .u64 0, .int .u64 0, .int .u64 0, .int .u64 0, .int .u64 0, .int .u64 0, .int .u64 0, .int .u64 0, .int .u64 0, .int .u64 0, .int .u64 0, .int .u64 0, .int .u64 0, .int .u64 0, .int .u64 0, .int .u64 0, .int .u64 0, .int .u64 0, .int .u64 0, .int .u64 0, .int .u64 0, .int .u64 0, .int .u64 0, .int .u64 0, .int .u64 0, .int .u64 0, .int .u64 0, .int .u64 0, .int .u64 0, .int .u64 0, .int .u64 0, .int .u64 0, .int .u64 0, .int .u64 0, .int .u64 0, .int .u64 0, .int .u64 0, .int .u64 0, .int .u64 0, .int .u64 0, .int .u64 0, .int .u64 0, .int .u64 0, .int .u64 0, .int .u64 0, .int .u64 0, .int .u64 0, .int .u64 0, .int .u64 0, .int .u64 0, .int .u64 0, .int .u64 0, .int .u64 0, .int .u64 0, .int .u64 0, .int .u64 0, .int .u64 0, .int .u64 0, .int .u64 0, .int .u64 0, .int .u64 0, .int .u64 0, .int .u64 0] 99)).heap.size = w.heap.size + 1) := World.size_alloc _ _
  have HB0 : Hid (Below w.heap.size w (w.alloc (.cells #[.int .u64 0, .int .u64 0, .int .u64 0, .int .u64 0, .int .u64 0, .int .u64 0, .int .u64 0, .int .u64 0, .int .u64 0, .int .u64 0, .int .u64 0, .int .u64 0, .int .u64 0, .int .u64 0, .int .u64 0, .int .u64 0, .int .u64 0, .int .u64 0, .int .u64 0, .int .u64 0, .int .u64 0, .int .u64 0, .int .u64 0, .int .u64 0, .int .u64 0, .int .u64 0, .int .u64 0, .int .u64 0, .int .u64 0, .int .u64 0, .int .u64 0, .int .u64 0, .int .u64 0, .int .u64 0, .int .u64 0, .int .u64 0, .int .u64 0, .int .u64 0, .int .u64 0, .int .u64 0, .int .u64 0, .int .u64 0, .int .u64 0, .int .u64 0, .int .u64 0, .int .u64 0, .int .u64 0, .int .u64 0, .int .u64 0, .int .u64 0, .int .u64 0, .int .u64 0, .int .u64 0, .int .u64 0, .int .u64 0, .int .u64 0, .int .u64 0, .int .u64 0, .int .u64 0, .int .u64 0, .int .u64 0, .int .u64 0, .int .u64 0, .int .u64 0] 99))) := (Below.refl _ w).alloc (Nat.le_refl _) _
  have hHS := fun m (b : Nat) wx (i : Nat) (h : MkB wx b m) (hi : i < 4096) => marksHas_any b 0 m i wx h.at hi
  have hST := fun m (b : Nat) wx (i : Nat) (h : MkB wx b m) (hi : i < 4096) => marksSet_any b 0 m i wx h.at hi
  have HHS := hide hHS
  have HST := hide hST
  clear hHS hST
  rcases Decidable.em ((4096 : Int) < (n : Int)) with hm | hm
  all_goals
    go_enter Tryz.func94, Tryz.ntmps94
    go_wp2_with (at_make; first | (refine wpList_make_own _ rfl _ _ 26 rfl (w.heap.size + 1) 3 i0 (.int .i64 0) 1 Tryz.underlying26 hi hz0 hz1 _ _ _ 4096 rfl rfl (by rfl) (by rw [hz2]; omega) (by unfold maxLen; omega) (by simp) ?_) | (refine wpList_make_own _ rfl _ _ 26 rfl (w.heap.size + 1) 3 i0 (.int .i64 0) 1 Tryz.underlying26 hi hz0 hz1 _ _ _ n rfl rfl (by rfl) (by rw [hz2]; have := HN.out; omega) (by unfold maxLen; have := HN.out; omega) (by simp) ?_))
    intro w1 hown1 hgr1
    have hb1 : Below (w.heap.size + 1) (w.alloc (.cells #[.int .u64 0, .int .u64 0, .int .u64 0, .int .u64 0, .int .u64 0, .int .u64 0, .int .u64 0, .int .u64 0, .int .u64 0, .int .u64 0, .int .u64 0, .int .u64 0, .int .u64 0, .int .u64 0, .int .u64 0, .int .u64 0, .int .u64 0, .int .u64 0, .int .u64 0, .int .u64 0, .int .u64 0, .int .u64 0, .int .u64 0, .int .u64 0, .int .u64 0, .int .u64 0, .int .u64 0, .int .u64 0, .int .u64 0, .int .u64 0, .int .u64 0, .int .u64 0, .int .u64 0, .int .u64 0, .int .u64 0, .int .u64 0, .int .u64 0, .int .u64 0, .int .u64 0, .int .u64 0, .int .u64 0, .int .u64 0, .int .u64 0, .int .u64 0, .int .u64 0, .int .u64 0, .int .u64 0, .int .u64 0, .int .u64 0, .int .u64 0, .int .u64 0, .int .u64 0, .int .u64 0, .int .u64 0, .int .u64 0, .int .u64 0, .int .u64 0, .int .u64 0, .int .u64 0, .int .u64 0, .int .u64 0, .int .u64 0, .int .u64 0, .int .u64 0] 99)) w1 := (Below.refl _ _).grown hgr1 (by rw [HW0.out]; exact Nat.le_refl _) (by simp)
    have HS := hide (OnceS.mk (w := w) (B := w.heap.size) hown1 (HM.out.below (hb1.mono (by rw [HW0.out]; exact Nat.le_refl _))) marked_nil (HB0.out.trans (hb1.mono (by omega))) rfl)
    clear HM HB0 HW0 hb1 hgr1 hown1
    generalize (w.alloc (.cells _ 99)).heap.size = GG at *
    have hu : (0 : Int) ≤ (n : Int) := by omega
    clear hm hi hz0 hz1 hz2
    go_wp2_with fail
    go_loopw [4, 13] (fun v i wr => ∃ (k : Nat) (m : Nat → Nat), k ≤ n ∧ i = .int .i64 k ∧ OnceS w wr w.heap.size v (onceF (zs.take k)) m) (fun _ i _ => n - (intOf i).toNat)
    case atStart => exact ⟨0, _, Nat.zero_le _, rfl, HS.out⟩
    case round =>
      obtain ⟨k, m, hk, rfl, hS⟩ := hrel
      by_cases hlt : k < n
      · have hkl : k < zs.length := by rw [HL.out]; exact hlt
        have hb := hS.bel
        obtain ⟨b, off, rfl, hbl, hc⟩ := HV.out k hkl
        have hc' := (hb.cell (p := ⟨b, off + k, none⟩) hbl).trans hc
        have hx := HR.out (nth zs k) (by have : nth zs k = zs[k] := by simp [nth, List.getD, hkl]
                                         rw [this]; exact List.getElem_mem hkl)
        have HSN := hide (once_snoc zs k hkl)
        have HSL : Hid ((onceF (zs.take k)).length ≤ k) := by have := once_len (zs.take k); rw [List.length_take] at this; show _ ≤ _; omega
        obtain ⟨x, hxe⟩ := Int.eq_ofNat_of_zero_le hx.1
        rw [hxe] at hc' HSN hx
        have hx4 : x < 4096 := by omega
        obtain ⟨a4, c4, rfl⟩ := own_shapeG hS.own
        generalize onceF (zs.take k) = z1 at *
        have hMk := hS.marked x hx4
        have hH := HHS.out m w.heap.size wr x hS.marks hx4
        have hki : (k : Int) < (n : Int) := by omega
        have HLT := hide hlt
        have HSS := hide hS
        clear HS hb hc hxe hkl hbl hS hlt hk hx
        generalize hq : hasM m x = q at *
        cases q with
        | true =>
          have HIN : Hid (onceF (zs.take (k + 1)) = z1) := by
            show _ = _
            have := HSN.out
            unfold addN at this
            rw [if_pos (of_decide_eq_true hMk.symm)] at this
            exact this
          clear hMk hq HSN
          go_wp2_with fail
          refine hH.mono ?_
          rintro e w2 ⟨rfl, rfl⟩
          clear hH
          go_wp2_with fail
          exact ⟨⟨k + 1, m, HLT.out, by simp, by rw [HIN.out]; exact HSS.out⟩, measZ2 HLT.out⟩
        | false =>
          have HIN : Hid (onceF (zs.take (k + 1)) = z1 ++ [(x : Int)]) := by
            show _ = _
            have := HSN.out
            unfold addN at this
            rw [if_neg (of_decide_eq_false hMk.symm)] at this
            exact this
          have hSt := HST.out m w.heap.size wr x HSS.out.marks hx4
          clear hMk hq HSN
          go_wp2_with fail
          refine hH.mono ?_
          rintro e w2 ⟨rfl, rfl⟩
          clear hH
          go_wp2_with fail
          refine hSt.mono ?_
          rintro e w3 ⟨rfl, d, hd⟩
          obtain ⟨o3, m3, b3, l3⟩ := HSS.out.mark hx4 d hd
          have ho4 : (w3.alloc (.cells #[.int .i64 (x : Int)] 3)).ownsRow (w.heap.size + 1) 3 1 (.slice a4 z1.length c4) z1.length (z1.map (Value.int .i64)) := own_below o3 ((Below.refl _ _).alloc (Nat.le_refl _) _)
          have HO4 := hide ho4
          have HO3 := hide o3
          have HM3 := hide m3
          have HB3 := hide b3
          have HL3 := hide l3
          have HNL : Hid (z1.length < 17592186044415) := by show _ < _; have := HSL.out; have := HLT.out; have := HN.out; omega
          clear hSt hd o3 m3 b3 l3 ho4
          go_wp2_with (at_builtin; refine wpList_app1 rfl (.tmp 22) (.tmp 24) rfl (w.heap.size + 1) _ z1 (x : Int) rfl w3.heap.size rfl (allocNew _ _ rfl) HO4.out HNL.out (by simp; have := HL3.out; omega) ?_)
          intro g cap w5 ho5 hg5 _
          have hS5 := OnceS.push _ HO3.out HM3.out HB3.out rfl HSS.out.marked hg5 (by simpa using ho5)
          have HS5 := hide hS5
          clear ho5 hg5 hS5 HO4 HO3 HM3 HB3 HL3
          go_wp2_with fail
          exact ⟨⟨k + 1, _, HLT.out, by simp, by rw [HIN.out]; exact HS5.out⟩, measZ2 HLT.out⟩
      · have e : k = n := by omega
        have HF : Hid (onceF (zs.take k) = onceF zs) := by show _ = _; rw [e, ← HL.out, List.take_length]
        have HSS := hide hS
        subst e
        obtain ⟨a4, c4, rfl⟩ := own_shapeG hS.own
        clear hS HS hk
        go_wp2_with fail
        go_ret
        have h1 := HSS.out.own
        rw [HF.out] at h1
        exact ⟨_, rfl, by rw [HF.out]; exact own_mono h1 (by omega), HSS.out.bel⟩
def CntB (w wr:World) (n M:Nat):Prop:=Below w.heap.size w wr∧∃ cs:List Int,cs.length=n∧(∀ x∈cs,0≤x∧x≤M)∧wr.ownsRow w.heap.size 3 1 (.slice (some ⟨w.heap.size,0,none⟩) n n) n (cs.map (Value.int .i64))
theorem CntB.at {w wr : World} {n M : Nat} (h : CntB w wr n M) {t : Nat} (ht : t < n) : ∃ x : Int, wr.cell? ⟨w.heap.size, t, none⟩ = some (.int .i64 x) ∧ wr.frozen? ⟨w.heap.size, t, none⟩ = false ∧ 0 ≤ x ∧ x ≤ M ∧ CntB w (wr.setCell ⟨w.heap.size, t, none⟩ (.int .i64 (x + 1))) n (M + 1) := by
  obtain ⟨hb, cs, hl, hc, ho⟩ := h
  have hm := hc (nth cs t) (by have : nth cs t = cs[t] := by simp [nth, List.getD, hl, ht]
                               rw [this]; exact List.getElem_mem _)
  refine ⟨nth cs t, ?_, ho.frozenAt _, hm.1, hm.2, hb.grown (grown_setCell wr w.heap.size t _) hb.size (fun k e => by cases e; exact Nat.le_refl _), cs.set t (nth cs t + 1), by rw [List.length_set]; exact hl, fun x hx => ?_, ?_⟩
  · rw [ho.cellAt t (by omega)]; simp [nth, List.getD, hl, ht]
  · rcases List.mem_or_eq_of_mem_set hx with h | h
    · have := hc x h; omega
    · omega
  · have := own_setAt ho t (.int .i64 (nth cs t + 1))
    rw [List.map_set]; exact this
theorem CntB.mono {w wr:World} {n M M':Nat} (h:CntB w wr n M) (hm:M≤M'):CntB w wr n M':=by
 obtain⟨hb,cs,hl,hc,ho⟩:=h
 exact⟨hb,cs,hl,fun x hx=>⟨(hc x hx).1,by have:=(hc x hx).2;omega⟩,ho⟩
theorem CntB.below {w wr w':World} {n M:Nat} (h:CntB w wr n M) (hb:Below wr.heap.size wr w'):CntB w w' n M:=by
 obtain⟨hb0,cs,hl,hc,ho⟩:=h
 exact⟨hb0.trans (hb.mono hb0.size),cs,hl,hc,own_below ho hb⟩
theorem rep_set (n k:Nat):(List.replicate n ([]:List Int)).set k []=List.replicate n []:=by
 apply List.ext_getElem (by simp)
 intro i h1 h2
 simp [List.getElem_set]
set_option maxHeartbeats 8000000 in
theorem turned_any (a : Option Addr) (n c : Nat) (N : List (List Int)) (w : World) (hv : LV w a N) (hl : N.length = n) (hn : n ≤ 4096) (hE : Edges n N) (hD : ∀ j, (rowN N j).Nodup) :
    Calls Tryz.prog 95 #[.slice a n c] w fun e w' => ∃ v, e = .returned v ∧ OwnL w' w.heap.size v (aheadR N) ∧ Below w.heap.size w w' := by
  obtain ⟨i0, hi, hz0, hz1, hz2⟩ := info_parts GrInts.info
  obtain ⟨j0, hj, hy0, hy1, hy2⟩ := info_parts GrLists.info
  have HRL : Hid (∀ j, (rowN N j).length ≤ 4096) := fun j => Nat.le_trans (nodup_lenG n _ (hD j) (fun x hx => hE j x hx)) hn
  have HL := hide hl
  have HV := hide hv
  have HE := hide hE
  have HD := hide hD
  have HN := hide hn
  have hni : (n : Int) ≤ 4096 := by omega
  clear hl hv hE hD
  go_enter Tryz.func95, Tryz.ntmps95
  go_wp2_with (at_make; refine wpList_make_full _ rfl _ _ 26 rfl w.heap.size 3 i0 (.int .i64 0) 1 Tryz.underlying26 hi hz0 hz1 _ _ _ _ n rfl rfl (by rfl) (by rfl) (by rw [hz2]; omega) (by unfold maxLen; omega) (Nat.le_refl _) ?_)
  intro w1 hown1 hgr1
  have HC : Hid (CntB w w1 n 0) := ⟨(Below.refl _ w).grown hgr1 (Nat.le_refl _) (by simp), List.replicate n 0, by simp, fun x hx => by simp at hx; omega, by
    have := made_row (List.replicate n 0) (by simpa using hown1)
    rw [filled_zero] at this; exact this⟩
  clear hown1 hgr1
  go_wp2_with fail
  go_loopw [19] (fun i wr => ∃ k : Nat, k ≤ n ∧ i = .int .i64 k ∧ CntB w wr n (4096 * k)) (fun i _ => n - (intOf i).toNat)
  case atStart => exact ⟨0, Nat.zero_le _, rfl, HC.out⟩
  case round =>
    obtain ⟨k, hk, rfl, hS⟩ := hrel
    by_cases hlt : k < n
    · obtain ⟨b, off, aj, nj, cj, rfl, hb, hc, hcl, hcc, hvj⟩ := HV.out k (by rw [HL.out]; exact hlt)
      have hc' := (hS.1.cell (p := ⟨b, off + k, none⟩) hb).trans hc
      have hki : (k : Int) < (n : Int) := by omega
      have HCL := hide hcl
      have HVJ := hide hvj
      have HLT := hide hlt
      have HSS := hide hS
      have HNJ : Hid (nj ≤ 4096) := by show _ ≤ _; rw [← hcl]; exact HRL.out k
      have hnj : (nj : Int) ≤ 4096 := by have := HNJ.out; omega
      rename World => wo
      clear hS hcl hvj hlt hk hb hc hcc HC
      go_wp2_with fail
      go_loopw [25] (fun i wr => ∃ q : Nat, q ≤ nj ∧ i = .int .i64 q ∧ CntB w wr n (4096 * k + q)) (fun i _ => nj - (intOf i).toNat)
      case atStart => exact ⟨0, Nat.zero_le _, rfl, HSS.out⟩
      case round =>
        obtain ⟨q, hq, rfl, hS⟩ := hrel
        by_cases hlt : q < nj
        · obtain ⟨b2, off2, rfl, hb2, hc2⟩ := HVJ.out q (by rw [HCL.out]; exact hlt)
          have hcq := (hS.1.cell (p := ⟨b2, off2 + q, none⟩) hb2).trans hc2
          have hx := HE.out k (nth (rowN N k) q) (by have : nth (rowN N k) q = (rowN N k)[q]'(by rw [HCL.out]; exact hlt) := by simp [nth, List.getD, HCL.out, hlt]
                                                     rw [this]; exact List.getElem_mem _)
          obtain ⟨t, hte⟩ := Int.eq_ofNat_of_zero_le hx.1
          rw [hte] at hcq hx
          obtain ⟨x, hcx, hfx, hx0, hx1, hS'⟩ := hS.at (t := t) (by omega)
          have hti : (t : Int) < (n : Int) := hx.2
          have hqi : (q : Int) < (nj : Int) := by omega
          have hxb : x < 100000000 := by have := HLT.out; have := HN.out; have := HNJ.out; omega
          have HQ := hide hlt
          have HS' := hide (hS'.mono (M' := 4096 * k + (q + 1)) (by omega))
          clear hS hlt hq hb2 hc2 hx hte hS' hx1 hc'
          go_wp2_with fail
          exact ⟨⟨q + 1, HQ.out, by simp, HS'.out⟩, measZ2 HQ.out⟩
        · have HSE := hide (hS.mono (M' := 4096 * (k + 1)) (by have := HNJ.out; omega))
          obtain rfl : q = nj := by omega
          clear hS hq hc'
          go_wp2_with fail
          exact ⟨⟨k + 1, HLT.out, by simp, HSE.out⟩, measZ2 HLT.out⟩
    · have e : n = k := by omega
      subst e
      have HSS := hide hS
      clear hS HC hk
      rename World => wo
      have HBO : Hid (w.heap.size < wo.heap.size) := by
        obtain ⟨_, cs, _, _, ho⟩ := HSS.out
        exact (World.ownsRow.lt ho w.heap.size rfl).2
      go_wp2_with (at_make; refine wpList_make_full _ rfl _ _ 50 rfl wo.heap.size 26 j0 (.slice none 0 0) 1 Tryz.underlying50 hj hy0 hy1 _ _ _ _ n rfl rfl (by rfl) (by rfl) (by rw [hy2]; omega) (by unfold maxLen; omega) (Nat.le_refl _) ?_)
      intro w2 hown2 hgr2
      have hb2 : Below wo.heap.size wo w2 := (Below.refl _ wo).grown hgr2 (Nat.le_refl _) (by simp)
      have HC2 := hide (HSS.out.below hb2)
      have HO2 : Hid (OwnL w2 wo.heap.size (.slice (some ⟨wo.heap.size, 0, none⟩) n n) (List.replicate n [])) := OwnL.made (by simpa using hown2)
      have HP : Hid (w.heap.size ≤ wo.heap.size ∧ wo.heap.size ≤ w2.heap.size) := ⟨by have := HBO.out; omega, hb2.size⟩
      clear hown2 hgr2 HSS hb2
      generalize wo.heap.size = H at *
      go_wp2_with fail
      go_loopw [42] (fun i wr => ∃ k : Nat, k ≤ n ∧ i = .int .i64 k ∧ CntB w wr n (4096 * n) ∧ OwnL wr H (.slice (some ⟨H, 0, none⟩) n n) (List.replicate n []) ∧ H ≤ wr.heap.size) (fun i _ => n - (intOf i).toNat)
      case atStart => exact ⟨0, Nat.zero_le _, rfl, HC2.out, HO2.out, HP.out.2⟩
      case round =>
        obtain ⟨k, hk, rfl, hS, hO, hH⟩ := hrel
        by_cases hlt : k < n
        · obtain ⟨x, hcx, hfx, hx0, hx1, _⟩ := hS.at (t := k) hlt
          have hki : (k : Int) < (n : Int) := by omega
          obtain ⟨xn, rfl⟩ := Int.eq_ofNat_of_zero_le hx0
          have hxb : xn < 100000000 := by have := HN.out; omega
          have HS := hide hS
          have HO := hide hO
          have HLT := hide hlt
          have HHH := hide hH
          rename World => wq
          have hcH := OwnL.row (w := wq) (lo := H) (h := H) (c := n) (N := List.replicate n []) (by simpa using hO) (j := k) (by simpa using hlt)
          obtain ⟨uH, hcH, hfH, hltH, _⟩ := hcH
          clear hS hO hk hlt hH hx1 hx0 HC2 HO2
          go_wp2_with (at_make; refine wpList_make_own _ rfl _ _ 26 rfl wq.heap.size 3 i0 (.int .i64 0) 1 Tryz.underlying26 hi hz0 hz1 _ _ _ xn rfl rfl (by rfl) (by rw [hz2]; omega) (by unfold maxLen; omega) (Nat.le_refl _) ?_)
          intro w3 hown3 hgr3
          have hb3 : Below wq.heap.size wq w3 := (Below.refl _ wq).grown hgr3 (Nat.le_refl _) (by simp)
          obtain ⟨hO3, ⟨u3, hu3⟩, hf3, _⟩ := OwnL.put (W := wq) (w := w3) (lo := H) (h := H) (c := n) (N := List.replicate n []) (by simpa using HO.out) hb3 (j := k) (by simpa using HLT.out) (v := .slice (some ⟨wq.heap.size, 0, none⟩) 0 xn) (l := []) HHH.out hown3
          rw [rep_set] at hO3
          have hO3' : OwnL (w3.setCell ⟨H, k, none⟩ (.slice (some ⟨wq.heap.size, 0, none⟩) 0 xn)) H (.slice (some ⟨H, 0, none⟩) n n) (List.replicate n []) := by simpa using hO3
          have HO3 := hide hO3'
          have hC3 := HS.out.below hb3
          have HC3 : Hid (CntB w (w3.setCell ⟨H, k, none⟩ (.slice (some ⟨wq.heap.size, 0, none⟩) 0 xn)) n (4096 * n)) := by
            obtain ⟨hb0, cs, hl, hc, ho⟩ := hC3
            have hg := grown_setCell w3 H k (.slice (some ⟨wq.heap.size, 0, none⟩) 0 xn)
            exact ⟨hb0.grown hg hb0.size (fun q e => by cases e; exact HP.out.1), cs, hl, hc, own_grown ho hg (fun g e e2 => by cases e; have : Value.ownBlock (.slice (some ⟨w.heap.size, 0, none⟩) n n) = some w.heap.size := rfl; rw [this] at e2; cases e2; have := HBO.out; omega)⟩
          have HH3 : Hid (H ≤ (w3.setCell ⟨H, k, none⟩ (.slice (some ⟨wq.heap.size, 0, none⟩) 0 xn)).heap.size) := by show _ ≤ _; rw [World.size_setCell]; exact Nat.le_trans HHH.out hb3.size
          clear hO3 hO3' hC3 hown3 hgr3 hb3
          go_wp2_with fail
          exact ⟨⟨k + 1, HLT.out, by simp, HC3.out, HO3.out, HH3.out⟩, measZ2 HLT.out⟩
        · have e : n = k := by omega
          subst e
          have HLM : Hid (List.replicate n [] = aheadQ N 0 0) := by show _ = _; rw [aheadQ_start, HL.out]
          rw [HLM.out] at hO
          have HO4 := hide hO
          have HB4 := hide hS.1
          have HH4 := hide hH
          clear hS hO hH hk HC2 HO2 HLM
          rename World => ws
          go_wp2_with fail
          go_loopw [56] (fun i wr => ∃ k : Nat, k ≤ n ∧ i = .int .i64 k ∧ Below w.heap.size w wr ∧ OwnL wr H (.slice (some ⟨H, 0, none⟩) n n) (aheadQ N k 0) ∧ H ≤ wr.heap.size) (fun i _ => n - (intOf i).toNat)
          case atStart => exact ⟨0, Nat.zero_le _, rfl, HB4.out, HO4.out, HH4.out⟩
          case round =>
            obtain ⟨k, hk, rfl, hB, hO, hH⟩ := hrel
            by_cases hlt : k < n
            · obtain ⟨b, off, aj, nj, cj, rfl, hb, hc, hcl, hcc, hvj⟩ := HV.out k (by rw [HL.out]; exact hlt)
              have hc' := (hB.cell (p := ⟨b, off + k, none⟩) hb).trans hc
              have hki : (k : Int) < (n : Int) := by omega
              have HCL := hide hcl
              have HVJ := hide hvj
              have HLT := hide hlt
              have HB5 := hide hB
              have HO5 := hide hO
              have HH5 := hide hH
              have HNJ : Hid (nj ≤ 4096) := by show _ ≤ _; rw [← hcl]; exact HRL.out k
              have hnj : (nj : Int) ≤ 4096 := by have := HNJ.out; omega
              rename World => wt
              clear hB hO hH hcl hvj hlt hk hb hc hcc HO4 HB4 HH4
              go_wp2_with fail
              go_loopw [63] (fun i wr => ∃ q : Nat, q ≤ nj ∧ i = .int .i64 q ∧ Below w.heap.size w wr ∧ OwnL wr H (.slice (some ⟨H, 0, none⟩) n n) (aheadQ N k q) ∧ H ≤ wr.heap.size) (fun i _ => nj - (intOf i).toNat)
              case atStart => exact ⟨0, Nat.zero_le _, rfl, HB5.out, HO5.out, HH5.out⟩
              case round =>
                obtain ⟨q, hq, rfl, hB, hO, hH⟩ := hrel
                by_cases hlt : q < nj
                · obtain ⟨b2, off2, rfl, hb2, hc2⟩ := HVJ.out q (by rw [HCL.out]; exact hlt)
                  have hcq := (hB.cell (p := ⟨b2, off2 + q, none⟩) hb2).trans hc2
                  have hx := HE.out k (nth (rowN N k) q) (by have : nth (rowN N k) q = (rowN N k)[q]'(by rw [HCL.out]; exact hlt) := by simp [nth, List.getD, HCL.out, hlt]
                                                             rw [this]; exact List.getElem_mem _)
                  obtain ⟨t, hte⟩ := Int.eq_ofNat_of_zero_le hx.1
                  have HSTEP := hide (aheadQ_step N k q t (HD.out k) (by rw [HCL.out]; exact hlt) hte (by rw [HL.out]; have := hx.2; omega))
                  rw [hte] at hcq hx
                  have hti : (t : Int) < (n : Int) := hx.2
                  have htn : t < n := by omega
                  have hqi : (q : Int) < (nj : Int) := by omega
                  rename World => wz
                  have hbA : Below wz.heap.size wz (wz.alloc (.cells #[.int .i64 (k : Int)] 3)) := (Below.refl _ _).alloc (Nat.le_refl _) _
                  have hql : (aheadQ N k q).length = n := by rw [aheadQ_len]; exact HL.out
                  have hOA : OwnL (wz.alloc (.cells #[.int .i64 (k : Int)] 3)) H (.slice (some ⟨H, 0, none⟩) (aheadQ N k q).length n) (aheadQ N k q) := by rw [hql]; exact hO.below hbA
                  have hOz : OwnL wz H (.slice (some ⟨H, 0, none⟩) (aheadQ N k q).length n) (aheadQ N k q) := by rw [hql]; exact hO
                  have hHz : H < wz.heap.size := by
                    obtain ⟨_, _, _, h3, _⟩ := OwnL.row hOz (j := t) (by rw [hql]; exact htn)
                    exact h3
                  obtain ⟨v, hcv, hfv, _, _, hrow, hput⟩ := OwnL.row hOA (j := t) (by rw [hql]; exact htn)
                  have hcz : wz.cell? ⟨H, t, none⟩ = some v := (hbA.cell (p := ⟨H, t, none⟩) hHz).symm.trans hcv
                  have hrl : (rowN (aheadQ N k q) t).length ≤ 4097 := by
                    rw [aheadQ_row N k q t (by rw [HL.out]; exact htn), List.length_append]
                    have h1 := aheadT_len N k (t : Int)
                    have h2 : (if (t : Int) ∈ (rowN N k).take q then [(k : Int)] else []).length ≤ 1 := by split <;> simp
                    have := HLT.out
                    omega
                  obtain ⟨a4, c4, rfl⟩ := own_shapeG hrow
                  rw [hql] at hput
                  generalize rowN (aheadQ N k q) t = row at *
                  have HROW := hide hrow
                  have HPUT := hide hput
                  have HRL2 := hide hrl
                  have HQ := hide hlt
                  have HBZ := hide (hB.trans (hbA.mono hB.size))
                  have HHZ := hide hHz
                  have HWZ := hide (hB.size)
                  clear hB hO hH hlt hq hb2 hc2 hx hte hOA hOz hbA hcv hfv hrow hput hrl htn hql hc' HO5 HB5 HH5
                  go_wp2_with (at_builtin; refine wpList_app1 rfl (.tmp 72) (.tmp 74) rfl H _ row (k : Int) rfl wz.heap.size rfl (allocNew _ _ rfl) HROW.out (by have := HRL2.out; omega) (by simp; have := HHZ.out; omega) ?_)
                  intro g cap w5 ho5 hg5 hat
                  have hp := HPUT.out w5 (.slice (some ⟨g, 0, none⟩) (row.length + 1) cap) (row ++ [(k : Int)]) hg5 (by
                    rcases hat with h | h
                    · exact .inl h.symm
                    · exact .inr fun g' e => by cases e; rw [h]; simp) (by simpa using ho5)
                  obtain ⟨hO6, ⟨u6, hu6⟩, hf6⟩ := hp
                  rw [HSTEP.out] at hO6
                  have HO6 := hide hO6
                  have hB6 : Below w.heap.size w w5 := HBZ.out.grown hg5 HBZ.out.size (fun i e => by have := (World.ownsRow.lt HROW.out i e).1; have := HP.out.1; omega)
                  have HB6 : Hid (Below w.heap.size w (w5.setCell ⟨H, t, none⟩ (.slice (some ⟨g, 0, none⟩) (row.length + 1) cap))) := hB6.grown (grown_setCell w5 H t _) hB6.size (fun i e => by cases e; exact HP.out.1)
                  have HH6 : Hid (H ≤ (w5.setCell ⟨H, t, none⟩ (.slice (some ⟨g, 0, none⟩) (row.length + 1) cap)).heap.size) := by
                    show _ ≤ _
                    rw [World.size_setCell]
                    have := hg5.size
                    rw [World.size_alloc] at this
                    have := HHZ.out
                    omega
                  clear hO6 hB6 ho5 hg5 hat HPUT HROW
                  go_wp2_with fail
                  exact ⟨⟨q + 1, HQ.out, by simp, HB6.out, HO6.out, HH6.out⟩, measZ2 HQ.out⟩
                · have e : nj = q := by omega
                  subst e
                  have HE7 : Hid (aheadQ N k nj = aheadQ N (k + 1) 0) := by show _ = _; rw [← HCL.out, aheadQ_end]
                  rw [HE7.out] at hO
                  have HO7 := hide hO
                  have HB7 := hide hB
                  have HH7 := hide hH
                  clear hO hB hH hq hc' HO5 HB5 HH5 HE7
                  go_wp2_with fail
                  exact ⟨⟨k + 1, HLT.out, by simp, HB7.out, HO7.out, HH7.out⟩, measZ2 HLT.out⟩
            · have e : n = k := by omega
              subst e
              have HW : Hid (aheadQ N n 0 = aheadR N) := by show _ = _; rw [← HL.out, aheadQ_whole]
              rw [HW.out] at hO
              have HO7 := hide (hO.mono HP.out.1)
              have HB7 := hide hB
              clear hO hB hH hk HO4 HB4 HH4
              go_wp2_with fail
              go_ret
              exact ⟨_, rfl, HO7.out, HB7.out⟩
end Go.Proofs.YtlcaedibmlidlaaGreat
namespace Go.Proofs.YtlcaedibmlidlaaGreat
open Go
def headR:Code→Nat
 | .region k _ _=>k
 | .seq a _=>headR a
 | _=>99999
def dropR (n:Nat):Code→Code
 | .seq a b=>match headR a==n with
  | true=>.seq a b
  | false=>dropR n b
 | c=>c
end Go.Proofs.YtlcaedibmlidlaaGreat
