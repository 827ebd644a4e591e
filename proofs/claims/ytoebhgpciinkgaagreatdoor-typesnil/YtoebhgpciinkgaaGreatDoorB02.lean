/-
  Texts in one: Iter, RowO, Quiet, Switch, TabG, MathG, Ref03Form, Ref03Of.
-/
import Derived.Test.YtoebhgpciinkgaaGreatDoorB01
import Derived.RangeFuncLeaves
import Derived.RangeFuncBound
namespace Go.Proofs.YtoebhgpciinkgaaGreatDoor
open Go.RowKit
set_option linter.unusedVariables false
def KeptT (τ:TypeId→Prop) (A B:World):Prop:=∀ (k:Nat) (cs:Array Value) (t:TypeId) (fr:Nat×Nat),τ t→A.heap[k]?=some (.cells cs t fr)→B.heap[k]?=some (.cells cs t fr)
theorem KeptT.refl (τ:TypeId→Prop) (A:World):KeptT τ A A:=fun _ _ _ _ _ h=>h
theorem KeptT.trans {τ:TypeId→Prop} {A B C:World} (h:KeptT τ A B) (k:KeptT τ B C):KeptT τ A C:=fun i cs t fr ht hi=>k i cs t fr ht (h i cs t fr ht hi)
theorem KeptT.none {A B:World}:KeptT (fun _=>False) A B:=fun _ _ _ _ h _=>h.elim
theorem KeptT.of_grownBy {τ:TypeId→Prop} {A B:World} {row:Option Nat} (hg:A.grownBy B row) (hr:∀ (j:Nat) (cs:Array Value) (t:TypeId) (fr:Nat×Nat),row=some j→A.heap[j]?=some (.cells cs t fr)→¬ τ t):KeptT τ A B:=fun k cs t fr ht hk=>by
 refine (hg.block k (Array.getElem?_eq_some_iff.1 hk).1 (fun e=>?_)).trans hk
 exact hr k cs t fr e.symm hk ht
theorem KeptT.row {τ:TypeId→Prop} {A B:World} {b e size n:Nat} {v:Value} {xs:List Value} (h:A.ownsRow b e size v n xs) (hg:A.grownBy B v.ownBlock) (hne:¬ τ e):KeptT τ A B:=KeptT.of_grownBy hg fun j cs t fr ej hj=>by
 rcases h.2 with ⟨h1,_⟩ | ⟨g,c,cur,h1,_,h3,_⟩
 ·rw [h1] at ej;simp [Value.ownBlock] at ej
 ·rw [h1] at ej;simp [Value.ownBlock] at ej;subst ej
  rw [h3] at hj;cases hj;exact hne
def Kept (n₀:Nat) (τ:TypeId→Prop) (A B:World):Prop:=Below n₀ A B∧KeptT τ A B
theorem Kept.refl (n₀:Nat) (τ:TypeId→Prop) (A:World):Kept n₀ τ A A:=⟨Below.refl _ _,KeptT.refl _ _⟩
theorem Kept.trans {n₀:Nat} {τ:TypeId→Prop} {A B C:World} (h:Kept n₀ τ A B) (k:Kept n₀ τ B C):Kept n₀ τ A C:=⟨h.1.trans k.1,h.2.trans k.2⟩
theorem Kept.putObj {n₀:Nat} {τ:TypeId→Prop} (A:World) {l:Nat} {o:Obj} (o':Obj) (hl:A.heap[l]?=some o) (ho:o.isCells=false) (hn:n₀≤l):Kept n₀ τ A (A.putObj l o'):=by
 have hlt:=(Array.getElem?_eq_some_iff.1 hl).1
 refine⟨(Below.refl n₀ A).grown (grownBy_putObj' A l o') (by omega) (fun k e=>by cases e;exact hn),KeptT.of_grownBy (grownBy_putObj' A l o') fun j cs t fr e hj=>?_⟩
 cases e
 rw [hl] at hj
 cases hj
 cases ho
theorem grown_of_below {A B:World} (h:Below A.heap.size A B) (row:Option Nat):A.grownBy B row:=⟨h.os,h.tape,h.output,h.size,fun k hk _=>h.block k hk⟩
theorem KeepsFrom.mono {m m':Nat} {A B:World} (h:KeepsFrom m A B) (hm:m≤m'):KeepsFrom m' A B:=⟨h.size,fun k o hk h1 h2=>h.same k o (Nat.le_trans hm hk) h1 h2⟩
theorem OwnFrom.below {β:Type} {B:Nat} {I:β→World→Prop} (h:OwnFrom B I) {s:β} {A C:World} (hs:I s A) (hb:Below A.heap.size A C):I s C :=
 h s A C Option.none hs (grown_of_below hb _) (fun r e=>by cases e)
theorem OwnFrom.mono {β:Type} {B B':Nat} {I:β→World→Prop} (h:OwnFrom B I) (hB:B≤B'):OwnFrom B' I:=fun s W W' row hs hg hr=>h s W W' row hs hg (fun r e=>⟨Nat.le_trans hB (hr r e).1,(hr r e).2⟩)
def Tells {α:Type} (P:Program) (g:Nat) (lb:Array Value) (encs:α→Array Value) (V:List α→α→World→Prop) (n₀:Nat) (τ:TypeId→Prop) (S Sp:List α→Prop) (w:World):Prop :=
 ∀ (l:Nat) (J Jx:List α→World→Prop) (W:World),Below w.heap.size w W→OwnFrom W.heap.size J→OwnFrom W.heap.size Jx →
  (∀ pre x W1,J pre W1→V pre x W1→YieldAt Fence.wide 0 P l (encs x) W1 fun e W' =>
   KeepsFrom W.heap.size W1 W'∧((e=.returned (.bool true)∧J (pre++[x]) W'∧Kept n₀ τ W1 W')∨(e=.returned (.bool false)∧Jx (pre++[x]) W'))) →
  J [] W →
  CallsIn Fence.wide 0 P g (#[.func (.yield l) #[] #[]]++lb) W fun e W'=>(∃ v,e=.returned v)∧((∃ xs,S xs∧J xs W')∨(∃ pre,Sp pre∧Jx pre W'))
theorem wp_tells {α:Type} {P:Program} {g:Operand} {ps:Array Tmp} {assign body:Code} {Q:Exit→Act→World→Prop} {a:Act} {w:World} {gf:Nat} {lb:Array Value}
  (hg:a.eval g=.func (.func gf) #[] lb) (eg:∀ args w,(callFunc gf args).run P w=.ok (.enter gf args) w)
  {encs:α→Array Value} {V:List α→α→World→Prop} {n₀:Nat} {τ:TypeId→Prop} {S Sp:List α→Prop} (hseq:Tells P gf lb encs V n₀ τ S Sp w) (hn:n₀≤w.heap.size) (hps:∀ x,(encs x).size=ps.size)
  (I:List α→World→Prop) (Ix:Code→List α→World→Prop) (hI:OwnFrom w.heap.size I) (hIx:∀ c,OwnFrom w.heap.size (Ix c)) (h0:I [] w)
  (Ax:List α→α→Act→World→Prop) (hAx:∀ pre x a',OwnFrom w.heap.size (fun (_:Unit) W=>Ax pre x a' W))
  (hassign:∀ (l:Nat) (pre:List α) (x:α) (W:World) (K:Act→World→Prop),I pre W→V pre x W→(∀ a' W',KeepsFrom w.heap.size W W'→Kept n₀ τ W W'→I pre W'→Ax pre x a' W'→K a' W') →
   assign.wpIn (Fence.wide.inRound l) 0 P (Exit.then K (fun _ _ _=>False)) { tmps:=(ps.zip (encs x)).foldl (fun t (p,v)=>t.setIfInBounds p v) a.tmps,defers:=[] } W)
  (hbody:∀ (l:Nat) (pre:List α) (x:α) (a':Act) (W:World),w.heap.size≤l→(∃ r,W.heap[l]?=some (.loop r))→I pre W→Ax pre x a' W→body.wpIn (Fence.wide.inRound l) 0 P (ownPostG w.heap.size (Kept n₀ τ) I Ix (pre++[x]) W) a' W)
  (hdone:∀ (D:Nat) (xs:List α) (W:World),w.heap.size≤D→S xs→I xs W→W.heap[D]?=some (.deferred (some []))→Q .normal { a with defers:={ target:=.collected D,args:=#[] } :: a.defers } W)
  (hstop:∀ (D:Nat) (c:Code) (pre:List α) (W:World),w.heap.size≤D→Sp pre→Ix c pre W→W.heap[D]?=some (.deferred (some []))→c.wpIn Fence.wide 0 P Q { a with defers:={ target:=.collected D,args:=#[] } :: a.defers } W) :
  (Code.rangeFunc g ps assign body).wpIn Fence.wide 0 P Q a w:=by
 refine wpIn_rangeFunc fun fn hfn=>?_
 -- the block for deferred calls lies at D, the loop's record at D + 1
 generalize hD:w.heap.size=D at *
 let rec_:LoopState→Option Code→Obj:=fun st pe=>.loop { state:=st,pending:=pe,fn,tmps:=a.tmps,params:=ps,assign,body,defers:=D }
 have hrecC:∀ st pe,(rec_ st pe).isCells=false:=fun _ _=>rfl
 let W0:World:=(w.alloc (.deferred (some []))).alloc (rec_ .ready none)
 have hsz0:W0.heap.size=D+2:=by show ((w.alloc _).alloc _).heap.size=_;simp [hD]
 have hrun:(Instr.enterLoop fn a.tmps ps assign body Fence.wide.round).run P w=.ok (D+1,[{ target:=.collected D,args:=#[] }]) W0:=by
  have:=run_enterLoop_outer (P:=P) (w:=w) fn a.tmps ps assign body
  rw [hD] at this
  exact this
 have hrec0:W0.heap[D+1]?=some (rec_ .ready none):=by
  have:=World.alloc_heap_new (w.alloc (.deferred (some []))) (rec_ .ready none)
  rw [World.size_alloc,hD] at this
  exact this
 have hdef0:W0.heap[D]?=some (.deferred (some [])):=by
  have:=World.alloc_heap_new w (.deferred (some []))
  rw [hD] at this
  exact (Below.heap_alloc _ _ _ (by simp [hD])).trans this
 have hbel0:Below w.heap.size w W0:=((Below.refl _ w).alloc (Nat.le_refl _) _).alloc (by simp) _
 refine⟨D+1,[{ target:=.collected D,args:=#[] }],W0,{ target:=.fn (.func gf) lb,args:=#[.func (.yield (D+1)) #[] #[]] },W0,gf,#[.func (.yield (D+1)) #[] #[]]++lb,W0,hrun,?_,fun _ _=>trivial,?_,(fun h=>by cases h),?_⟩
 ·simp only [resolve,hg];simp [go_sem]
 ·simp [invoke,go_sem,eg]
 -- what holds between two rounds: the caller's word, and the two blocks of the loop
 have hnew:∀ {k:Nat},W0.heap.size≤k→D≤k∧k≠D+1∧k≠D:=fun h=>by rw [hsz0] at h;exact⟨by omega,by omega,by omega⟩
 have stays:∀ {A B:World} {row:Option Nat} {k:Nat} {o:Obj},A.grownBy B row→(∀ r,row=some r→W0.heap.size≤r∧∃ o:Obj,A.heap[r]?=some o∧o.isCells=false)→k<D+2→A.heap[k]?=some o→B.heap[k]?=some o:=fun hgr hr hk h =>
  (hgr.block _ (Array.getElem?_eq_some_iff.1 h).1 (fun e=>by have:=(hr _ e.symm).1;rw [hsz0] at this;omega)).trans h
 refine (hseq (D+1) (fun pre W=>I pre W∧W.heap[D+1]?=some (rec_ .ready none)∧W.heap[D]?=some (.deferred (some [])))
  (fun pre W=>∃ c,Ix c pre W∧W.heap[D+1]?=some (rec_ .done (some c))∧W.heap[D]?=some (.deferred (some []))) W0 hbel0 ?_ ?_ ?_ ⟨OwnFrom.below hI h0 hbel0,hrec0,hdef0⟩).mono ?_
 ·intro s A B row hs hgr hr
  exact⟨hI s A B row hs.1 hgr (fun r e=>⟨(hnew (hr r e).1).1,(hr r e).2⟩),stays hgr hr (by omega) hs.2.1,stays hgr hr (by omega) hs.2.2⟩
 ·rintro s A B row ⟨c,hc,h1,h2⟩ hgr hr
  exact⟨c,hIx c s A B row hc hgr (fun r e=>⟨(hnew (hr r e).1).1,(hr r e).2⟩),stays hgr hr (by omega) h1,stays hgr hr (by omega) h2⟩
 ·-- a round
  rintro pre x W ⟨hi,hl,hk⟩ hV
  have hy:=run_yield (P:=P) (args:=encs x) hl (hps x)
  refine⟨fn,_,assign,body,hy,roundIn_of_wpIn hfn (hassign _ pre x W _ hi hV ?_)⟩
  intro a' Wa hkf hkp hia hax
  have hla:=hkf.same _ _ (by omega) hl rfl
  have hka:=hkf.same _ _ (Nat.le_refl _) hk rfl
  have hlt:D+1<Wa.heap.size:=(Array.getElem?_eq_some_iff.1 hla).1
  refine⟨_,run_beginRound hla rfl,?_⟩
  have hlb:(Wa.putObj (D+1) (rec_ .busy none)).heap[D+1]?=some (rec_ .busy none):=World.putObj_heap_same hlt
  have hkb:(Wa.putObj (D+1) (rec_ .busy none)).heap[D]?=some (.deferred (some [])):=(World.putObj_heap_other (by omega)).trans hka
  have kpb:Kept n₀ τ W (Wa.putObj (D+1) (rec_ .busy none)):=hkp.trans (Kept.putObj Wa _ hla rfl (by omega))
  have put_from:∀ (A:World) (o:Obj),KeepsFrom W0.heap.size A (A.putObj (D+1) o):=fun A o=>KeepsFrom.of_grownBy (grownBy_putObj' A (D+1) o) (fun j e=>by cases e;rw [hsz0];omega)
  have kfb:KeepsFrom W0.heap.size W (Wa.putObj (D+1) (rec_ .busy none)):=(KeepsFrom.mono hkf (by rw [hsz0];omega)).trans (put_from Wa _)
  refine wpIn_mono (hbody _ pre x a' _ (by omega) ⟨_,hlb⟩ (hI.putObj _ hia (by omega) hla rfl) ((hAx pre x a').putObj (s:=()) _ hax (by omega) hla rfl)) ?_
  have leave:∀ (j:Option Code) (W3:World),KeepsFrom D (Wa.putObj (D+1) (rec_ .busy none)) W3 →
    (Instr.endRound (D+1) j).run P W3=.ok (.bool j.isNone) (W3.putObj (D+1) (rec_ (if j.isNone then .ready else .done) j))∧W3.heap[D+1]?=some (rec_ .busy none) ∧
    (W3.putObj (D+1) (rec_ (if j.isNone then .ready else .done) j)).heap[D+1]?=some (rec_ (if j.isNone then .ready else .done) j)∧(W3.putObj (D+1) (rec_ (if j.isNone then .ready else .done) j)).heap[D]?=some (.deferred (some [])) ∧
    KeepsFrom W0.heap.size W (W3.putObj (D+1) (rec_ (if j.isNone then .ready else .done) j)):=fun j W3 h3=>by
   have hl3:=h3.same _ _ (by omega) hlb rfl
   exact⟨run_endRound (P:=P) j hl3,hl3,World.putObj_heap_same (Array.getElem?_eq_some_iff.1 hl3).1,(World.putObj_heap_other (by omega)).trans (h3.same _ _ (Nat.le_refl _) hkb rfl),
    (kfb.trans (KeepsFrom.mono h3 (by rw [hsz0];omega))).trans (put_from W3 _)⟩
  rintro e a3 W3 hp
  cases e with
  | normal =>
   obtain⟨h3,kp3,hi3⟩:=hp
   obtain⟨hr,hl3,hl4,hk4,kf4⟩:=leave none W3 h3
   exact⟨_,_,hr,kf4,.inl ⟨rfl,⟨hI.putObj _ hi3 (by omega) hl3 rfl,hl4,hk4⟩,(kpb.trans kp3).trans (Kept.putObj W3 _ hl3 rfl (by omega))⟩⟩
  | ret =>
   obtain⟨h3,hi3⟩:=hp
   obtain⟨hr,hl3,hl4,hk4,kf4⟩:=leave (some .ret) W3 h3
   exact⟨_,_,hr,kf4,.inr ⟨rfl,.ret,(hIx _).putObj _ hi3 (by omega) hl3 rfl,hl4,hk4⟩⟩
  | exit id =>
   obtain⟨h3,hi3⟩:=hp
   obtain⟨hr,hl3,hl4,hk4,kf4⟩:=leave (some (.exit id)) W3 h3
   exact⟨_,_,hr,kf4,.inr ⟨rfl,.exit id,(hIx _).putObj _ hi3 (by omega) hl3 rfl,hl4,hk4⟩⟩
  | goto t =>
   obtain⟨h3,hi3⟩:=hp
   obtain⟨hr,hl3,hl4,hk4,kf4⟩:=leave (some (.goto t)) W3 h3
   exact⟨_,_,hr,kf4,.inr ⟨rfl,.goto t,(hIx _).putObj _ hi3 (by omega) hl3 rfl,hl4,hk4⟩⟩
  | panic ch=>exact hp.elim
  | outgrown=>exact hp.elim
 ·-- behind the iterator's call
  rintro e W2 ⟨⟨v,rfl⟩,⟨xs,hS,hi,hl,hk⟩ | ⟨pre,hSp,c,hi,hl,hk⟩⟩
  ·exact⟨none,_,run_endLoop (P:=P) hl (by simp),hdone _ xs _ (Nat.le_refl _) hS (hI.putObj _ hi (by omega) hl rfl) ((World.putObj_heap_other (by omega)).trans hk)⟩
  ·exact⟨some c,_,run_endLoop (P:=P) hl (by simp),hstop _ c pre _ (Nat.le_refl _) hSp ((hIx c).putObj _ hi (by omega) hl rfl) ((World.putObj_heap_other (by omega)).trans hk)⟩
def Apartly (w:World) (lo:Nat) (row:Option Nat):Prop:=∀ g,row=some g→g<lo∨∃ o:Obj,w.heap[g]?=some o∧o.isCells=false
theorem own_apartly {w w':World} {lo e size n:Nat} {v:Value} {xs:List Value} {row:Option Nat} (h:w.ownsRow lo e size v n xs) (hg:w.grownBy w' row) (hr:Apartly w lo row):w'.ownsRow lo e size v n xs:=by
 refine⟨h.1,?_⟩
 rcases h.2 with hn | ⟨g,cap,cur,rfl,hb,hgg,rest⟩
 ·exact .inl hn
 ·refine .inr ⟨g,cap,cur,rfl,hb,?_,rest⟩
  rw [hg.block g (Array.getElem?_eq_some_iff.1 hgg).1 (fun e=>?_)]
  ·exact hgg
  ·rcases hr g e.symm with h1 | ⟨o,h1,h2⟩
   ·omega
   ·rw [hgg] at h1;cases h1;cases h2
structure RowO (w : World) (lo : Nat) (ob : Option Nat) (rs : List (Int × List Int)) (cs : List Value) : Prop where
  len : cs.length = rs.length * 2
  each : ∀ j, j < rs.length → ∃ aj cj nj, cs[j * 2]? = some (.int .u16 (nthR rs j).1) ∧ cs[j * 2 + 1]? = some (.slice aj nj cj) ∧ (nthR rs j).2.length = nj ∧
    w.ownsRow lo 22 1 (.slice aj nj cj) nj ((nthR rs j).2.map (Value.int .u32)) ∧ (∀ g, Value.ownBlock (.slice aj nj cj) = some g → ob ≠ some g) ∧
    ∀ i, i < rs.length → i ≠ j → ∀ ai ci ni g, cs[i * 2 + 1]? = some (.slice ai ni ci) → Value.ownBlock (.slice ai ni ci) = some g → Value.ownBlock (.slice aj nj cj) ≠ some g
theorem rowO_nil {w:World} {lo:Nat} {ob:Option Nat}:RowO w lo ob [] []:=⟨rfl,fun j hj=>by simp at hj⟩
theorem RowO.grown {w w':World} {lo:Nat} {ob:Option Nat} {rs:List (Int×List Int)} {cs:List Value} {row:Option Nat} (h:RowO w lo ob rs cs) (hg:w.grownBy w' row) (hr:Apartly w lo row):RowO w' lo ob rs cs:=by
 refine⟨h.len,fun j hj=>?_⟩
 obtain⟨aj,cj,nj,h1,h2,h3,h4,h5,h6⟩:=h.each j hj
 exact⟨aj,cj,nj,h1,h2,h3,own_apartly h4 hg hr,h5,h6⟩
theorem RowO.below {w w':World} {lo:Nat} {ob:Option Nat} {rs:List (Int×List Int)} {cs:List Value} (h:RowO w lo ob rs cs) (hb:Below w.heap.size w w'):RowO w' lo ob rs cs :=
 h.grown (grown_of_below hb none) (fun g e=>by cases e)
theorem RowO.push {w0 w w':World} {v:Value} {g' lo:Nat} {rs:List (Int×List Int)} {cs:List Value} {op:Int} {ms:List Int} {a:Option Addr} {n c:Nat}
  (h:RowO w0 lo v.ownBlock rs cs) (hb:Below w0.heap.size w0 w) (hs:w.ownsRow w0.heap.size 22 1 (.slice a n c) n (ms.map (Value.int .u32))) (hl:ms.length=n) (hv:∀ b,v.ownBlock=some b→b<w0.heap.size) (hlo:lo≤w0.heap.size)
  (hg:w.grownBy w' v.ownBlock) (hat:v.ownBlock=some g'∨g'=w.heap.size):RowO w' lo (some g') (rs++[(op,ms)]) (cs++[.int .u16 op,.slice a n c]):=by
 have hcl:=h.len
 -- the new words' block
 have hnew:∀ g,Value.ownBlock (.slice a n c)=some g→w0.heap.size≤g∧g<w.heap.size:=fun g e=>hs.lt g e
 have hold:∀ i,i<rs.length→∀ ai ci ni g,cs[i * 2+1]?=some (.slice ai ni ci)→Value.ownBlock (.slice ai ni ci)=some g→g<w0.heap.size:=fun i hi ai ci ni g hc e=>by
  obtain⟨aj,cj,nj,_,h2,_,h4,_⟩:=h.each i hi
  rw [hc] at h2
  cases h2
  exact (h4.lt g e).2
 have hown:∀ {sv:Value} {m:Nat} {xs:List Value} {B:Nat},w.ownsRow B 22 1 sv m xs→(∀ g,sv.ownBlock=some g→v.ownBlock≠some g)→w'.ownsRow B 22 1 sv m xs:=fun h1 h2=>own_grown h1 hg (fun g e e2=>h2 g e2 e)
 have hne:∀ g,g<w.heap.size→v.ownBlock≠some g→some g'≠some g:=fun g h1 h2 e=>by
  cases e
  rcases hat with h3 | h3
  ·exact h2 h3
  ·omega
 refine⟨by simp [hcl];omega,fun j hj=>?_⟩
 rw [List.length_append,List.length_singleton] at hj
 by_cases hjl:j<rs.length
 ·obtain⟨aj,cj,nj,h1,h2,h3,h4,h5,h6⟩:=h.each j hjl
  rw [nthR_lo _ _ _ hjl]
  refine⟨aj,cj,nj,by rw [List.getElem?_append_left (by omega)];exact h1,by rw [List.getElem?_append_left (by omega)];exact h2,h3,hown (own_below h4 hb) h5,fun g e=>hne g (by have:=(h4.lt g e).2;have:=hb.size;omega) (h5 g e),?_⟩
  intro i hi hij ai ci ni g hci e
  rw [List.length_append,List.length_singleton] at hi
  by_cases hil:i<rs.length
  ·rw [List.getElem?_append_left (by omega)] at hci
   exact h6 i hil hij ai ci ni g hci e
  ·obtain rfl:i=rs.length:=by omega
   rw [List.getElem?_append_right (by omega),show rs.length * 2+1 - cs.length=1 by omega] at hci
   simp at hci
   obtain⟨rfl,rfl,rfl⟩:=hci
   intro e2
   have h7:=(hnew g e).1
   have h8:=hold j hjl aj cj nj g h2 e2
   omega
 ·obtain rfl:j=rs.length:=by omega
  rw [nthR_hi]
  refine⟨a,c,n,?_,?_,hl,?_,fun g e=>hne g (hnew g e).2 (fun e2=>by have:=hv g e2;have:=(hnew g e).1;omega),?_⟩
  ·rw [List.getElem?_append_right (by omega),show rs.length * 2 - cs.length=0 by omega];rfl
  ·rw [List.getElem?_append_right (by omega),show rs.length * 2+1 - cs.length=1 by omega];rfl
  ·refine hown ⟨hs.1,?_⟩ (fun g e e2=>by have:=hv g e2;have:=(hnew g e).1;omega)
   rcases hs.2 with h0 | ⟨g,cap,cur,e,hb',rest⟩
   ·exact .inl h0
   ·exact .inr ⟨g,cap,cur,e,Nat.le_trans hlo hb',rest⟩
  ·intro i hi hij ai ci ni g hci e e2
   rw [List.length_append,List.length_singleton] at hi
   have hil:i<rs.length:=by omega
   rw [List.getElem?_append_left (by omega)] at hci
   have:=hold i hil ai ci ni g hci e
   have:=(hnew g e2).1
   omega
theorem RowO.own {w:World} {T n cap lo:Nat} {a:Option Addr} {rs:List (Int×List Int)} {cs:List Value} (h:RowO w lo (Value.ownBlock (.slice a n cap)) rs cs) (hown:w.ownsRow lo T 2 (.slice a n cap) n cs) (hl:rs.length=n):OwnR w lo a 0 rs:=by
 intro j _ hj
 rcases hown.2 with ⟨_,hn⟩ | ⟨g,cap',cur,hv,hb,hgg,_⟩
 ·omega
 ·cases hv
  obtain⟨aj,cj,nj,h1,h2,h3,h4,h5,h6⟩:=h.each j hj
  have hcl:=h.len
  have c1:=hown.cellAt (j * 2) (by omega)
  have c2:=hown.cellAt (j * 2+1) (by omega)
  rw [h1] at c1
  rw [h2] at c2
  refine⟨g,0,aj,cj,nj,rfl,hb,(Array.getElem?_eq_some_iff.1 hgg).1,by rw [Nat.zero_add];exact c1,by rw [Nat.zero_add];exact c2,h3,h4,fun e=>h5 g e rfl,?_⟩
  intro i _ hi hij ai ci ni g2 hci e
  have c3:=hown.cellAt (i * 2+1) (by omega)
  rw [Nat.zero_add,c3] at hci
  exact h6 i hi hij ai ci ni g2 hci e
structure InC (C : World → Prop) where
  w : World
  ok : C w
theorem wp_region_class {P:Program} {C:World→Prop} {id:Nat} {Q:Exit→Act→World→Prop} {a:Act} {w:World} {l:List Oper} (hm:P.follows .mixedOrders=true) (hB:Region.lexB .any l.toArray=true) (hC:C w.drew)
  (h:wpQuiet P l.toArray (fun w'=>∃ s:InC C,w'=s.w) (fun a'=>∀ w',(∃ s:InC C,w'=s.w)→Q .normal a' w') l a):(Code.region id l.toArray true).wp P Q a w :=
 wp_region_quiet (C:=fun w'=>∃ s:InC C,w'=s.w) hm hB ⟨⟨_,hC⟩,rfl⟩ (by simpa using h)
theorem InC.cell {W:World} (s:InC (Below W.heap.size W)) {p:Addr} {v:Value} (hp:p.block<W.heap.size) (h:W.cell? p=some v):s.w.cell? p=some v:=(s.ok.cell hp).trans h
theorem below_drew (W:World):Below W.heap.size W W.drew:=(Below.refl _ W).drew
theorem Calls.inC {P:Program} {f:FuncId} {args:Array Value} {W:World} {v:Value} (s:InC (Below W.heap.size W)) (h:Calls P f args s.w fun e w'=>e=.returned v∧Below s.w.heap.size s.w w') :
  Calls P f args s.w fun e w''=>e=.returned v∧∃ s':InC (Below W.heap.size W),w''=s'.w :=
 h.mono fun _ w' ⟨he,hb⟩=>⟨he,⟨w',s.ok.trans (hb.mono s.ok.size)⟩,rfl⟩
theorem Calls.inC_same {P:Program} {f:FuncId} {args:Array Value} {W:World} {v:Value} (s:InC (Below W.heap.size W)) (h:Calls P f args s.w fun e w'=>e=.returned v∧s.w=w') :
  Calls P f args s.w fun e w''=>e=.returned v∧∃ s':InC (Below W.heap.size W),w''=s'.w :=
 h.mono fun _ _ ⟨he,hb⟩=>⟨he,s,hb.symm⟩
set_option linter.unusedSimpArgs false
def Agree (lo:Nat) (a a':Act):Prop:=a'.tmps.size=a.tmps.size∧a'.defers=a.defers∧∀ i,i<lo→a'.tmps.getD i undef=a.tmps.getD i undef
theorem Agree.refl (lo:Nat) (a:Act):Agree lo a a:=⟨rfl,rfl,fun _ _=>rfl⟩
theorem Agree.trans {lo:Nat} {a b c:Act} (h:Agree lo a b) (k:Agree lo b c):Agree lo a c:=⟨k.1.trans h.1,k.2.1.trans h.2.1,fun i hi=>(k.2.2 i hi).trans (h.2.2 i hi)⟩
theorem getD_put (a:Act) (d i:Nat) (v:Value):(a.put (some d) v).tmps.getD i undef=if d=i∧i<a.tmps.size then v else a.tmps.getD i undef:=by
 simp only [Act.put,Array.getD_eq_getD_getElem?,Array.getElem?_setIfInBounds]
 split
 ·rename_i h;subst h
  by_cases h:d<a.tmps.size <;> simp [h]
 ·rename_i h;simp [h]
theorem Agree.put {lo:Nat} (a:Act) {d:Nat} (h:lo≤d) (v:Value):Agree lo a (a.put (some d) v) :=
 ⟨by simp [Act.put],by simp [Act.put],fun i hi=>by rw [getD_put,if_neg (by omega)]⟩
theorem op_value {P:Program} {o:Oper} {a:Act} {w:World} {K:Act→World→Prop} {Q:Exit→Act→World→Prop} {v:Value} (h:(execOp a.eval o).run P w=.ok (.value v) w) (hK:K (a.put o.dst v) w):o.wp P a w K Q:=by
 unfold Oper.wp;rw [h];exact hK
def testOf (x lo b:Nat) (kd:IntKind):List Oper→Option Int
 | [⟨some t,.binOp .eql _ (.tmp x') (.const (.int kd' k)) _,_,_,_,none⟩,⟨some b',.assign (.tmp t'),_,_,_,none⟩] =>
  if x'=x∧kd'=kd∧b'=b∧t'=t∧lo≤t∧lo≤b then some k else none
 | _=>none
theorem wp_test {P:Program} {Q:Exit→Act→World→Prop} {x lo b id:Nat} {kd:IntKind} {k n:Int} {ops:Array Oper} (h:testOf x lo b kd ops.toList=some k) {a:Act} {w:World}
  (hx:a.tmps.getD x undef=.int kd n) (hs:b<a.tmps.size)
  (hK:∀ a',Agree lo a a'→a'.tmps.getD b undef=.bool (n==k)→Q .normal a' w) (hts:∀ t o,ops.toList.head?=some o→o.dst=some t→t<a.tmps.size):(Code.region id ops false).wp P Q a w:=by
 refine wp_region_list ?_
 generalize hl:ops.toList=l at *
 unfold testOf at h
 split at h
 case h_2=>cases h
 rename_i t e1 x' kd' k' e2 e3 e4 e5 b' t' e6 e7 e8
 split at h
 case isFalse=>cases h
 rename_i hh
 obtain⟨rfl,rfl,rfl,rfl,h1,h2⟩:=hh
 cases h
 have ht:t'<a.tmps.size:=hts t' _ rfl rfl
 refine wpList_plain rfl fun K hK1=>?_
 have ev:a.tmps[x']?.getD undef=.int kd' n:=by rw [← Array.getD_eq_getD_getElem?];exact hx
 refine op_value (v:=.bool (n==k)) (by simp [execOp,go_sem,ev]) ?_
 refine hK1 _ _ (wpList_plain rfl fun K2 hK2=>?_)
 have ev2:(a.put (some t') (.bool (n==k))).tmps[t']?.getD undef=.bool (n==k):=by
  rw [← Array.getD_eq_getD_getElem?,getD_put,if_pos ⟨rfl,ht⟩]
 generalize ha2:a.put (some t') (.bool (n==k))=a2 at *
 refine op_value (v:=.bool (n==k)) (by simp [execOp,go_sem,ev2]) ?_
 subst ha2
 refine hK2 _ _ (hK _ ((Agree.put a h1 _).trans (Agree.put _ h2 _)) ?_)
 rw [getD_put,if_pos ⟨rfl,by simpa [Act.put] using hs⟩]
def armsOf (x lo top:Nat) (kd:IntKind):Nat→Code→Option (List (Int×Code))
 | 0,_=>none
 | fuel+1,c =>
  match c with
  | .skip=>some []
  | .seq (.region _ ops false) (.cond (.tmp b) arm rest) =>
   match testOf x lo b kd ops.toList,armsOf x lo top kd fuel rest with
   | some k,some l=>if b<top∧(ops.toList.all fun o=>match o.dst with | some t=>decide (t<top) | none=>true)=true then some ((k,arm) :: l) else none
   | _,_=>none
  | _=>none
theorem wp_arms {P:Program} {Q:Exit→Act→World→Prop} {x lo top:Nat} {kd:IntKind} {n:Int} (hlo:x<lo) :
  ∀ (fuel:Nat) (c:Code) (l:List (Int×Code)) (a:Act) (w:World),armsOf x lo top kd fuel c=some l→a.tmps.size=top→a.tmps.getD x undef=.int kd n →
   (∀ a' k d,Agree lo a a'→(k,d)∈l→n=k→d.wp P Q a' w)→(∀ a',Agree lo a a'→(∀ k d,(k,d)∈l→n≠k)→Q .normal a' w)→c.wp P Q a w:=by
 intro fuel
 induction fuel with
 | zero=>intro c l a w h;cases h
 | succ fuel ih =>
  intro c l a w h hs hx harm hno
  rw [armsOf.eq_def] at h
  dsimp only at h
  split at h
  ·cases h
   exact wp_skip (hno a (Agree.refl _ _) (fun _ _ hm=>by cases hm))
  ·rename_i id ops b arm rest
   split at h
   case h_2=>cases h
   rename_i k l' hk hl'
   split at h
   case isFalse=>cases h
   rename_i hb
   cases h
   refine wp_seq (wp_test (lo:=lo) hk hx (by rw [hs];exact hb.1) (fun a' hag hb'=>?_) (fun t o ho ht=>?_))
   ·refine wp_cond_split (t:=n==k) hb' (fun ht=>?_) (fun hf=>?_)
    ·exact harm a' k arm hag List.mem_cons_self (by simpa using ht)
    ·refine ih rest l' a' w hl' (hag.1.trans hs) ((hag.2.2 x hlo).trans hx) (fun a2 k2 d2 h2 hm e=>harm a2 k2 d2 (hag.trans h2) (List.mem_cons_of_mem _ hm) e) (fun a2 h2 hn=>hno a2 (hag.trans h2) (fun k2 d2 hm=>?_))
     rcases List.mem_cons.1 hm with e | hm
     ·cases e;simpa using hf
     ·exact hn k2 d2 hm
   ·have hm:o∈ops.toList:=List.mem_of_mem_head? ho
    have:=List.all_eq_true.1 hb.2 o hm
    rw [ht] at this
    simp only [decide_eq_true_eq] at this
    rw [hs];exact this
  ·cases h
/-! ### a switch over texts -/

def armText (r:Nat):Code→Option ByteArray
 | .seq (.region _ ops false) .ret =>
  match ops.toList with
  | [⟨some r',.assign (.const (.string s)),_,_,_,none⟩]=>if r'=r then some s else none
  | _=>none
 | _=>none
theorem wp_armText {P:Program} {Q:Exit→Act→World→Prop} {r:Nat} {c:Code} {s:ByteArray} (h:armText r c=some s) {a:Act} {w:World} (hQ:Q .ret (a.put (some r) (.string s)) w):c.wp P Q a w:=by
 unfold armText at h
 split at h
 case h_2=>cases h
 rename_i id ops
 split at h
 case h_2=>cases h
 rename_i r' s' e1 e2 e3 hl
 split at h
 case isFalse=>cases h
 rename_i e
 subst e
 cases h
 refine wp_seq (wp_region_list ?_)
 rw [hl]
 refine wpList_plain rfl fun K hK=>?_
 refine op_value (v:=.string s) (by simp [execOp,go_sem]) ?_
 exact hK _ _ (wpList_nil (wp_ret hQ))
def textsOf (r:Nat):List (Int×Code)→Option (List (Int×ByteArray))
 | []=>some []
 | (k,c) :: l=>match armText r c,textsOf r l with
  | some s,some t=>some ((k,s) :: t)
  | _,_=>none
theorem textsOf_mem {r:Nat}:∀ {l:List (Int×Code)} {t:List (Int×ByteArray)},textsOf r l=some t→∀ k c,(k,c)∈l→∃ s,armText r c=some s∧(k,s)∈t
 | [],_,_,_,_,hm=>by cases hm
 | (k',c') :: l,t,h,k,c,hm=>by
  rw [textsOf] at h
  split at h
  case h_2=>cases h
  rename_i s t' h1 h2
  cases h
  rcases List.mem_cons.1 hm with e | hm
  ·cases e;exact⟨s,h1,List.mem_cons_self⟩
  ·obtain⟨s2,h3,h4⟩:=textsOf_mem h2 k c hm
   exact⟨s2,h3,List.mem_cons_of_mem _ h4⟩
theorem textsOf_keys {r:Nat}:∀ {l:List (Int×Code)} {t:List (Int×ByteArray)},textsOf r l=some t→∀ k s,(k,s)∈t→∃ c,(k,c)∈l
 | [],_,h,_,_,hm=>by rw [textsOf] at h;cases h;cases hm
 | (k',c') :: l,t,h,k,s,hm=>by
  rw [textsOf] at h
  split at h
  case h_2=>cases h
  rename_i s' t' h1 h2
  cases h
  rcases List.mem_cons.1 hm with e | hm
  ·cases e;exact⟨c',List.mem_cons_self⟩
  ·obtain⟨c2,h3⟩:=textsOf_keys h2 k s hm
   exact⟨c2,List.mem_cons_of_mem _ h3⟩
def textSwitch (top:Nat) (kd:IntKind):Code→Option (List (Int×ByteArray))
 | .seq (.region _ o0 false) (.seq (.seq (.region _ o1 false) (.block _ sw)) c) =>
  match o0.toList,o1.toList,armText 2 c with
  | [⟨some 2,.assign (.const (.string _)),_,_,_,none⟩],[⟨some 3,.move (.tmp 0),_,_,_,none⟩],some s =>
   if s.data=#[] then match armsOf 3 4 top kd 200 sw with
    | some l=>textsOf 2 l
    | none=>none
   else none
  | _,_,_=>none
 | _=>none
def lookT:List (Int×ByteArray)→Int→ByteArray
 | [],_=>⟨#[]⟩
 | (k,s) :: l,n=>if n=k then s else lookT l n
def oneEach (l:List (Int×ByteArray)):Bool:=match l with
 | []=>true
 | (k,_) :: l=>(l.all fun p=>decide (p.1≠k)) && oneEach l
theorem lookT_mem:∀ {l:List (Int×ByteArray)},oneEach l=true→∀ k s,(k,s)∈l→lookT l k=s
 | [],_,_,_,h=>by cases h
 | (k',s') :: l,h1,k,s,hm=>by
  rw [oneEach,Bool.and_eq_true] at h1
  rcases List.mem_cons.1 hm with e | hm
  ·cases e;simp [lookT]
  ·have:=List.all_eq_true.1 h1.1 (k,s) hm
   simp only [ne_eq,decide_not,Bool.not_eq_true',decide_eq_false_iff_not] at this
   rw [lookT,if_neg this]
   exact lookT_mem h1.2 k s hm
theorem lookT_none:∀ {l:List (Int×ByteArray)} {n:Int},(∀ k s,(k,s)∈l→n≠k)→lookT l n=⟨#[]⟩
 | [],_,_=>rfl
 | (k',s') :: l,n,h=>by
  rw [lookT,if_neg (h k' s' List.mem_cons_self)]
  exact lookT_none fun k s hm=>h k s (List.mem_cons_of_mem _ hm)
theorem calls_textSwitch {P:Program} {f top:Nat} {fn:Func} {c:Code} {kd:IntKind} {t:List (Int×ByteArray)} (hf:P.funcs[f]?=some fn) (hb:fn.body=some c) (hn:fn.ntmps=top) (h4:4≤top) (hr:fn.results=#[.tmp 2])
  (ht:textSwitch top kd c=some t) (h1:oneEach t=true) (n:Int) (w:World) :
  Calls P f #[.int kd n] w fun e w'=>e=.returned (.string (lookT t n))∧w=w':=by
 refine calls_of_wp hf hb ?_
 unfold textSwitch at ht
 split at ht
 case h_2=>cases ht
 rename_i i0 o0 i1 o1 i2 sw cc
 split at ht
 case h_2=>cases ht
 rename_i s0 y1 y2 y3 z1 z2 z3 s e0 e1 e2
 split at ht
 case isFalse=>cases ht
 rename_i hs
 split at ht
 case h_2=>cases ht
 rename_i l hl
 obtain⟨sd⟩:=s
 simp only at hs
 subst hs
 generalize ha:({ tmps:=#[.int kd n]++Array.replicate (fn.ntmps - (#[Value.int kd n]:Array Value).size) undef,defers:=[] }:Act)=a
 have hsz:a.tmps.size=top:=by rw [← ha];simp [hn];omega
 have ha0:a.tmps.getD 0 undef=.int kd n:=by rw [← ha];rw [Array.getD_eq_getD_getElem?,Array.getElem?_append_left (by simp)];rfl
 have had:a.defers=[]:=by rw [← ha]
 clear ha
 refine wp_seq (wp_region_list ?_)
 rw [e0]
 refine wpList_plain rfl fun K hK=>?_
 refine op_value (v:=.string s0) (by simp [execOp,go_sem]) ?_
 refine hK _ _ (wpList_nil ?_)
 refine wp_seq (wp_seq (wp_region_list ?_))
 rw [e1]
 refine wpList_plain rfl fun K2 hK2=>?_
 have ev:(a.put (some 2) (.string s0)).tmps[0]?.getD undef=.int kd n:=by
  rw [← Array.getD_eq_getD_getElem?,getD_put,if_neg (by omega),ha0]
 generalize ha2:a.put (some 2) (.string s0)=a2 at *
 refine op_value (v:=.int kd n) (by simp [execOp,go_sem,ev]) ?_
 subst ha2
 refine hK2 _ _ (wpList_nil (wp_block ?_))
 generalize hA:(a.put (some 2) (.string s0)).put (some 3) (.int kd n)=A
 have hAs:A.tmps.size=top:=by rw [← hA];simp [Act.put,hsz]
 have hAx:A.tmps.getD 3 undef=.int kd n:=by rw [← hA,getD_put,if_pos ⟨rfl,by simp [Act.put,hsz];omega⟩]
 have hAd:A.defers=[]:=by rw [← hA];simp [Act.put,had]
 clear hA
 have fin:∀ (A':Act) (s:ByteArray),Agree 4 A A'→lookT t n=s→bodyPost P fn (fun e w'=>e=.returned (.string (lookT t n))∧w=w') .ret (A'.put (some 2) (.string s)) w:=fun A' s hag e =>
  ⟨by simp [Act.put,hag.2.1,hAd],.string s,by rw [results_tmp hr,getD_put,if_pos ⟨rfl,by rw [hag.1,hAs];omega⟩],by rw [e],rfl⟩
 refine wp_arms (x:=3) (lo:=4) (n:=n) (by omega) 200 sw l A w hl hAs hAx (fun A' k d hag hm e=>?_) (fun A' hag hno=>?_)
 ·obtain⟨s,h3,h5⟩:=textsOf_mem ht k d hm
  exact wp_armText h3 (fin A' s hag (by rw [e];exact lookT_mem h1 k s h5))
 ·exact wp_armText e2 (fin A' _ hag (lookT_none fun k s hm=>by obtain⟨c,hc⟩:=textsOf_keys ht k s hm;exact hno k c hc))
def namingT:List (Int×ByteArray):=[
 (1,⟨#[79,112,85,110,100,101,102,47,116,114,47,47,47,48,47,55]⟩),
 (3,⟨#[79,112,83,111,117,114,99,101,47,47,108,110,47,47,48,47,52]⟩),
 (5,⟨#[79,112,78,97,109,101,47,47,105,115,47,47,48,47,53]⟩),
 (6,⟨#[79,112,77,101,109,98,101,114,78,97,109,101,47,47,105,110,115,47,47,48,47,53]⟩),
 (7,⟨#[79,112,83,116,114,105,110,103,47,114,47,115,47,47,48,47,52]⟩),
 (14,⟨#[79,112,77,101,109,111,114,121,77,111,100,101,108,47,47,97,109,47,47,48,47,49]⟩),
 (15,⟨#[79,112,69,110,116,114,121,80,111,105,110,116,47,47,101,105,115,47,105,47,48,47,50]⟩),
 (16,⟨#[79,112,69,120,101,99,117,116,105,111,110,77,111,100,101,47,47,105,120,47,47,48,47,51]⟩),
 (17,⟨#[79,112,67,97,112,97,98,105,108,105,116,121,47,47,107,47,47,48,47,48]⟩),
 (19,⟨#[79,112,84,121,112,101,86,111,105,100,47,114,47,47,47,48,47,55]⟩),
 (20,⟨#[79,112,84,121,112,101,66,111,111,108,47,114,47,47,47,48,47,55]⟩),
 (21,⟨#[79,112,84,121,112,101,73,110,116,47,114,47,110,110,47,47,48,47,55]⟩),
 (23,⟨#[79,112,84,121,112,101,86,101,99,116,111,114,47,114,47,105,110,47,47,48,47,55]⟩),
 (28,⟨#[79,112,84,121,112,101,65,114,114,97,121,47,114,47,105,105,47,47,48,47,55]⟩),
 (30,⟨#[79,112,84,121,112,101,83,116,114,117,99,116,47,114,47,47,105,47,48,47,55]⟩),
 (32,⟨#[79,112,84,121,112,101,80,111,105,110,116,101,114,47,114,47,99,105,47,47,48,47,55]⟩),
 (33,⟨#[79,112,84,121,112,101,70,117,110,99,116,105,111,110,47,114,47,105,47,105,47,48,47,55]⟩)]
def makingT:List (Int×ByteArray):=[
 (41,⟨#[79,112,67,111,110,115,116,97,110,116,84,114,117,101,47,116,114,47,47,47,48,47,55]⟩),
 (42,⟨#[79,112,67,111,110,115,116,97,110,116,70,97,108,115,101,47,116,114,47,47,47,48,47,55]⟩),
 (43,⟨#[79,112,67,111,110,115,116,97,110,116,47,116,114,47,110,47,47,48,47,55]⟩),
 (44,⟨#[79,112,67,111,110,115,116,97,110,116,67,111,109,112,111,115,105,116,101,47,116,114,47,47,105,47,48,47,55]⟩),
 (46,⟨#[79,112,67,111,110,115,116,97,110,116,78,117,108,108,47,116,114,47,47,47,48,47,55]⟩),
 (54,⟨#[79,112,70,117,110,99,116,105,111,110,47,116,114,47,102,105,47,47,48,47,56]⟩),
 (55,⟨#[79,112,70,117,110,99,116,105,111,110,80,97,114,97,109,101,116,101,114,47,116,114,47,47,47,48,47,56]⟩),
 (56,⟨#[79,112,70,117,110,99,116,105,111,110,69,110,100,47,47,47,47,48,47,56]⟩),
 (57,⟨#[79,112,70,117,110,99,116,105,111,110,67,97,108,108,47,116,114,47,105,47,105,47,48,47,56]⟩),
 (59,⟨#[79,112,86,97,114,105,97,98,108,101,47,116,114,47,99,47,105,47,49,47,55]⟩),
 (61,⟨#[79,112,76,111,97,100,47,116,114,47,105,47,47,48,47,56]⟩),
 (62,⟨#[79,112,83,116,111,114,101,47,47,105,105,47,47,48,47,56]⟩),
 (65,⟨#[79,112,65,99,99,101,115,115,67,104,97,105,110,47,116,114,47,105,47,105,47,48,47,56]⟩),
 (71,⟨#[79,112,68,101,99,111,114,97,116,101,47,47,105,100,47,110,47,48,47,54]⟩),
 (77,⟨#[79,112,86,101,99,116,111,114,69,120,116,114,97,99,116,68,121,110,97,109,105,99,47,116,114,47,105,105,47,47,48,47,56]⟩),
 (78,⟨#[79,112,86,101,99,116,111,114,73,110,115,101,114,116,68,121,110,97,109,105,99,47,116,114,47,105,105,105,47,47,48,47,56]⟩),
 (79,⟨#[79,112,86,101,99,116,111,114,83,104,117,102,102,108,101,47,116,114,47,105,105,47,110,47,48,47,56]⟩),
 (80,⟨#[79,112,67,111,109,112,111,115,105,116,101,67,111,110,115,116,114,117,99,116,47,116,114,47,47,105,47,48,47,56]⟩),
 (81,⟨#[79,112,67,111,109,112,111,115,105,116,101,69,120,116,114,97,99,116,47,116,114,47,105,47,110,47,48,47,56]⟩),
 (82,⟨#[79,112,67,111,109,112,111,115,105,116,101,73,110,115,101,114,116,47,116,114,47,105,105,47,110,47,48,47,56]⟩),
 (83,⟨#[79,112,67,111,112,121,79,98,106,101,99,116,47,116,114,47,105,47,47,48,47,56]⟩)]
def countingT:List (Int×ByteArray):=[
 (124,⟨#[79,112,66,105,116,99,97,115,116,47,116,114,47,105,47,47,48,47,56]⟩),
 (126,⟨#[79,112,83,78,101,103,97,116,101,47,116,114,47,105,47,47,48,47,56]⟩),
 (128,⟨#[79,112,73,65,100,100,47,116,114,47,105,105,47,47,48,47,56]⟩),
 (130,⟨#[79,112,73,83,117,98,47,116,114,47,105,105,47,47,48,47,56]⟩),
 (132,⟨#[79,112,73,77,117,108,47,116,114,47,105,105,47,47,48,47,56]⟩),
 (134,⟨#[79,112,85,68,105,118,47,116,114,47,105,105,47,47,48,47,56]⟩),
 (135,⟨#[79,112,83,68,105,118,47,116,114,47,105,105,47,47,48,47,56]⟩),
 (137,⟨#[79,112,85,77,111,100,47,116,114,47,105,105,47,47,48,47,56]⟩),
 (138,⟨#[79,112,83,82,101,109,47,116,114,47,105,105,47,47,48,47,56]⟩),
 (139,⟨#[79,112,83,77,111,100,47,116,114,47,105,105,47,47,48,47,56]⟩),
 (149,⟨#[79,112,73,65,100,100,67,97,114,114,121,47,116,114,47,105,105,47,47,48,47,56]⟩),
 (150,⟨#[79,112,73,83,117,98,66,111,114,114,111,119,47,116,114,47,105,105,47,47,48,47,56]⟩),
 (151,⟨#[79,112,85,77,117,108,69,120,116,101,110,100,101,100,47,116,114,47,105,105,47,47,48,47,56]⟩),
 (152,⟨#[79,112,83,77,117,108,69,120,116,101,110,100,101,100,47,116,114,47,105,105,47,47,48,47,56]⟩),
 (154,⟨#[79,112,65,110,121,47,116,114,47,105,47,47,48,47,56]⟩),
 (155,⟨#[79,112,65,108,108,47,116,114,47,105,47,47,48,47,56]⟩)]
def comparingT:List (Int×ByteArray):=[
 (164,⟨#[79,112,76,111,103,105,99,97,108,69,113,117,97,108,47,116,114,47,105,105,47,47,48,47,56]⟩),
 (165,⟨#[79,112,76,111,103,105,99,97,108,78,111,116,69,113,117,97,108,47,116,114,47,105,105,47,47,48,47,56]⟩),
 (166,⟨#[79,112,76,111,103,105,99,97,108,79,114,47,116,114,47,105,105,47,47,48,47,56]⟩),
 (167,⟨#[79,112,76,111,103,105,99,97,108,65,110,100,47,116,114,47,105,105,47,47,48,47,56]⟩),
 (168,⟨#[79,112,76,111,103,105,99,97,108,78,111,116,47,116,114,47,105,47,47,48,47,56]⟩),
 (169,⟨#[79,112,83,101,108,101,99,116,47,116,114,47,105,105,105,47,47,48,47,56]⟩),
 (170,⟨#[79,112,73,69,113,117,97,108,47,116,114,47,105,105,47,47,48,47,56]⟩),
 (171,⟨#[79,112,73,78,111,116,69,113,117,97,108,47,116,114,47,105,105,47,47,48,47,56]⟩),
 (172,⟨#[79,112,85,71,114,101,97,116,101,114,84,104,97,110,47,116,114,47,105,105,47,47,48,47,56]⟩),
 (173,⟨#[79,112,83,71,114,101,97,116,101,114,84,104,97,110,47,116,114,47,105,105,47,47,48,47,56]⟩),
 (174,⟨#[79,112,85,71,114,101,97,116,101,114,84,104,97,110,69,113,117,97,108,47,116,114,47,105,105,47,47,48,47,56]⟩),
 (175,⟨#[79,112,83,71,114,101,97,116,101,114,84,104,97,110,69,113,117,97,108,47,116,114,47,105,105,47,47,48,47,56]⟩),
 (176,⟨#[79,112,85,76,101,115,115,84,104,97,110,47,116,114,47,105,105,47,47,48,47,56]⟩),
 (177,⟨#[79,112,83,76,101,115,115,84,104,97,110,47,116,114,47,105,105,47,47,48,47,56]⟩),
 (178,⟨#[79,112,85,76,101,115,115,84,104,97,110,69,113,117,97,108,47,116,114,47,105,105,47,47,48,47,56]⟩),
 (179,⟨#[79,112,83,76,101,115,115,84,104,97,110,69,113,117,97,108,47,116,114,47,105,105,47,47,48,47,56]⟩)]
def bitT:List (Int×ByteArray):=[
 (194,⟨#[79,112,83,104,105,102,116,82,105,103,104,116,76,111,103,105,99,97,108,47,116,114,47,105,105,47,47,48,47,56]⟩),
 (195,⟨#[79,112,83,104,105,102,116,82,105,103,104,116,65,114,105,116,104,109,101,116,105,99,47,116,114,47,105,105,47,47,48,47,56]⟩),
 (196,⟨#[79,112,83,104,105,102,116,76,101,102,116,76,111,103,105,99,97,108,47,116,114,47,105,105,47,47,48,47,56]⟩),
 (197,⟨#[79,112,66,105,116,119,105,115,101,79,114,47,116,114,47,105,105,47,47,48,47,56]⟩),
 (198,⟨#[79,112,66,105,116,119,105,115,101,88,111,114,47,116,114,47,105,105,47,47,48,47,56]⟩),
 (199,⟨#[79,112,66,105,116,119,105,115,101,65,110,100,47,116,114,47,105,105,47,47,48,47,56]⟩),
 (200,⟨#[79,112,78,111,116,47,116,114,47,105,47,47,48,47,56]⟩),
 (201,⟨#[79,112,66,105,116,70,105,101,108,100,73,110,115,101,114,116,47,116,114,47,105,105,105,105,47,47,48,47,56]⟩),
 (202,⟨#[79,112,66,105,116,70,105,101,108,100,83,69,120,116,114,97,99,116,47,116,114,47,105,105,105,47,47,48,47,56]⟩),
 (203,⟨#[79,112,66,105,116,70,105,101,108,100,85,69,120,116,114,97,99,116,47,116,114,47,105,105,105,47,47,48,47,56]⟩),
 (204,⟨#[79,112,66,105,116,82,101,118,101,114,115,101,47,116,114,47,105,47,47,48,47,56]⟩),
 (205,⟨#[79,112,66,105,116,67,111,117,110,116,47,116,114,47,105,47,47,48,47,56]⟩)]
def flowT:List (Int×ByteArray):=[
 (245,⟨#[79,112,80,104,105,47,116,114,47,47,105,105,47,48,47,56]⟩),
 (246,⟨#[79,112,76,111,111,112,77,101,114,103,101,47,47,105,105,103,47,47,48,47,56]⟩),
 (247,⟨#[79,112,83,101,108,101,99,116,105,111,110,77,101,114,103,101,47,47,105,104,47,47,48,47,56]⟩),
 (248,⟨#[79,112,76,97,98,101,108,47,114,47,47,47,48,47,56]⟩),
 (249,⟨#[79,112,66,114,97,110,99,104,47,47,105,47,47,48,47,56]⟩),
 (250,⟨#[79,112,66,114,97,110,99,104,67,111,110,100,105,116,105,111,110,97,108,47,47,105,105,105,47,47,48,47,56]⟩),
 (251,⟨#[79,112,83,119,105,116,99,104,47,47,105,105,47,110,105,47,48,47,56]⟩),
 (252,⟨#[79,112,75,105,108,108,47,47,47,47,48,47,56]⟩),
 (253,⟨#[79,112,82,101,116,117,114,110,47,47,47,47,48,47,56]⟩),
 (254,⟨#[79,112,82,101,116,117,114,110,86,97,108,117,101,47,47,105,47,47,48,47,56]⟩),
 (255,⟨#[79,112,85,110,114,101,97,99,104,97,98,108,101,47,47,47,47,48,47,56]⟩)]
def enumT:List (Int×ByteArray):=[
 (107,⟨#[48,58,77,97,116,114,105,120,59,49,58,83,104,97,100,101,114,59]⟩),
 (97,⟨#[48,58,76,111,103,105,99,97,108,59]⟩),
 (109,⟨#[48,58,83,105,109,112,108,101,59,49,58,71,76,83,76,52,53,48,59]⟩),
 (101,⟨#[48,58,86,101,114,116,101,120,59,52,58,70,114,97,103,109,101,110,116,59]⟩),
 (120,⟨#[55,58,79,114,105,103,105,110,85,112,112,101,114,76,101,102,116,59]⟩),
 (108,⟨#[48,58,85,110,107,110,111,119,110,59,49,58,69,83,83,76,59,50,58,71,76,83,76,59]⟩),
 (99,⟨#[49,58,73,110,112,117,116,59,51,58,79,117,116,112,117,116,59,54,58,80,114,105,118,97,116,101,59,55,58,70,117,110,99,116,105,111,110,59]⟩),
 (100,⟨#[48,58,82,101,108,97,120,101,100,80,114,101,99,105,115,105,111,110,59,49,49,58,66,117,105,108,116,73,110,59,49,52,58,70,108,97,116,59,51,48,58,76,111,99,97,116,105,111,110,59]⟩),
 (102,⟨#[48,58,78,111,110,101,59,49,58,73,110,108,105,110,101,59,50,58,68,111,110,116,73,110,108,105,110,101,59,52,58,80,117,114,101,59,56,58,67,111,110,115,116,59]⟩),
 (104,⟨#[48,58,78,111,110,101,59,49,58,70,108,97,116,116,101,110,59,50,58,68,111,110,116,70,108,97,116,116,101,110,59]⟩),
 (103,⟨#[48,58,78,111,110,101,59,49,58,85,110,114,111,108,108,59,50,58,68,111,110,116,85,110,114,111,108,108,59]⟩)]
abbrev Frm:=ByteArray×Bool×Bool×ByteArray×ByteArray×Int×Int
def refT:List (Int×Frm):=[
 (1,⟨#[79,112,85,110,100,101,102]⟩,true,true,⟨#[]⟩,⟨#[]⟩,0,7),
 (3,⟨#[79,112,83,111,117,114,99,101]⟩,false,false,⟨#[108,110]⟩,⟨#[]⟩,0,4),
 (5,⟨#[79,112,78,97,109,101]⟩,false,false,⟨#[105,115]⟩,⟨#[]⟩,0,5),
 (6,⟨#[79,112,77,101,109,98,101,114,78,97,109,101]⟩,false,false,⟨#[105,110,115]⟩,⟨#[]⟩,0,5),
 (7,⟨#[79,112,83,116,114,105,110,103]⟩,false,true,⟨#[115]⟩,⟨#[]⟩,0,4),
 (14,⟨#[79,112,77,101,109,111,114,121,77,111,100,101,108]⟩,false,false,⟨#[97,109]⟩,⟨#[]⟩,0,1),
 (15,⟨#[79,112,69,110,116,114,121,80,111,105,110,116]⟩,false,false,⟨#[101,105,115]⟩,⟨#[105]⟩,0,2),
 (16,⟨#[79,112,69,120,101,99,117,116,105,111,110,77,111,100,101]⟩,false,false,⟨#[105,120]⟩,⟨#[]⟩,0,3),
 (17,⟨#[79,112,67,97,112,97,98,105,108,105,116,121]⟩,false,false,⟨#[107]⟩,⟨#[]⟩,0,0),
 (19,⟨#[79,112,84,121,112,101,86,111,105,100]⟩,false,true,⟨#[]⟩,⟨#[]⟩,0,7),
 (20,⟨#[79,112,84,121,112,101,66,111,111,108]⟩,false,true,⟨#[]⟩,⟨#[]⟩,0,7),
 (21,⟨#[79,112,84,121,112,101,73,110,116]⟩,false,true,⟨#[110,110]⟩,⟨#[]⟩,0,7),
 (23,⟨#[79,112,84,121,112,101,86,101,99,116,111,114]⟩,false,true,⟨#[105,110]⟩,⟨#[]⟩,0,7),
 (28,⟨#[79,112,84,121,112,101,65,114,114,97,121]⟩,false,true,⟨#[105,105]⟩,⟨#[]⟩,0,7),
 (30,⟨#[79,112,84,121,112,101,83,116,114,117,99,116]⟩,false,true,⟨#[]⟩,⟨#[105]⟩,0,7),
 (32,⟨#[79,112,84,121,112,101,80,111,105,110,116,101,114]⟩,false,true,⟨#[99,105]⟩,⟨#[]⟩,0,7),
 (33,⟨#[79,112,84,121,112,101,70,117,110,99,116,105,111,110]⟩,false,true,⟨#[105]⟩,⟨#[105]⟩,0,7),
 (41,⟨#[79,112,67,111,110,115,116,97,110,116,84,114,117,101]⟩,true,true,⟨#[]⟩,⟨#[]⟩,0,7),
 (42,⟨#[79,112,67,111,110,115,116,97,110,116,70,97,108,115,101]⟩,true,true,⟨#[]⟩,⟨#[]⟩,0,7),
 (43,⟨#[79,112,67,111,110,115,116,97,110,116]⟩,true,true,⟨#[110]⟩,⟨#[]⟩,0,7),
 (44,⟨#[79,112,67,111,110,115,116,97,110,116,67,111,109,112,111,115,105,116,101]⟩,true,true,⟨#[]⟩,⟨#[105]⟩,0,7),
 (46,⟨#[79,112,67,111,110,115,116,97,110,116,78,117,108,108]⟩,true,true,⟨#[]⟩,⟨#[]⟩,0,7),
 (54,⟨#[79,112,70,117,110,99,116,105,111,110]⟩,true,true,⟨#[102,105]⟩,⟨#[]⟩,0,8),
 (55,⟨#[79,112,70,117,110,99,116,105,111,110,80,97,114,97,109,101,116,101,114]⟩,true,true,⟨#[]⟩,⟨#[]⟩,0,8),
 (56,⟨#[79,112,70,117,110,99,116,105,111,110,69,110,100]⟩,false,false,⟨#[]⟩,⟨#[]⟩,0,8),
 (57,⟨#[79,112,70,117,110,99,116,105,111,110,67,97,108,108]⟩,true,true,⟨#[105]⟩,⟨#[105]⟩,0,8),
 (59,⟨#[79,112,86,97,114,105,97,98,108,101]⟩,true,true,⟨#[99]⟩,⟨#[105]⟩,1,7),
 (61,⟨#[79,112,76,111,97,100]⟩,true,true,⟨#[105]⟩,⟨#[]⟩,0,8),
 (62,⟨#[79,112,83,116,111,114,101]⟩,false,false,⟨#[105,105]⟩,⟨#[]⟩,0,8),
 (65,⟨#[79,112,65,99,99,101,115,115,67,104,97,105,110]⟩,true,true,⟨#[105]⟩,⟨#[105]⟩,0,8),
 (71,⟨#[79,112,68,101,99,111,114,97,116,101]⟩,false,false,⟨#[105,100]⟩,⟨#[110]⟩,0,6),
 (77,⟨#[79,112,86,101,99,116,111,114,69,120,116,114,97,99,116,68,121,110,97,109,105,99]⟩,true,true,⟨#[105,105]⟩,⟨#[]⟩,0,8),
 (78,⟨#[79,112,86,101,99,116,111,114,73,110,115,101,114,116,68,121,110,97,109,105,99]⟩,true,true,⟨#[105,105,105]⟩,⟨#[]⟩,0,8),
 (79,⟨#[79,112,86,101,99,116,111,114,83,104,117,102,102,108,101]⟩,true,true,⟨#[105,105]⟩,⟨#[110]⟩,0,8),
 (80,⟨#[79,112,67,111,109,112,111,115,105,116,101,67,111,110,115,116,114,117,99,116]⟩,true,true,⟨#[]⟩,⟨#[105]⟩,0,8),
 (81,⟨#[79,112,67,111,109,112,111,115,105,116,101,69,120,116,114,97,99,116]⟩,true,true,⟨#[105]⟩,⟨#[110]⟩,0,8),
 (82,⟨#[79,112,67,111,109,112,111,115,105,116,101,73,110,115,101,114,116]⟩,true,true,⟨#[105,105]⟩,⟨#[110]⟩,0,8),
 (83,⟨#[79,112,67,111,112,121,79,98,106,101,99,116]⟩,true,true,⟨#[105]⟩,⟨#[]⟩,0,8),
 (124,⟨#[79,112,66,105,116,99,97,115,116]⟩,true,true,⟨#[105]⟩,⟨#[]⟩,0,8),
 (126,⟨#[79,112,83,78,101,103,97,116,101]⟩,true,true,⟨#[105]⟩,⟨#[]⟩,0,8),
 (128,⟨#[79,112,73,65,100,100]⟩,true,true,⟨#[105,105]⟩,⟨#[]⟩,0,8),
 (130,⟨#[79,112,73,83,117,98]⟩,true,true,⟨#[105,105]⟩,⟨#[]⟩,0,8),
 (132,⟨#[79,112,73,77,117,108]⟩,true,true,⟨#[105,105]⟩,⟨#[]⟩,0,8),
 (134,⟨#[79,112,85,68,105,118]⟩,true,true,⟨#[105,105]⟩,⟨#[]⟩,0,8),
 (135,⟨#[79,112,83,68,105,118]⟩,true,true,⟨#[105,105]⟩,⟨#[]⟩,0,8),
 (137,⟨#[79,112,85,77,111,100]⟩,true,true,⟨#[105,105]⟩,⟨#[]⟩,0,8),
 (138,⟨#[79,112,83,82,101,109]⟩,true,true,⟨#[105,105]⟩,⟨#[]⟩,0,8),
 (139,⟨#[79,112,83,77,111,100]⟩,true,true,⟨#[105,105]⟩,⟨#[]⟩,0,8),
 (149,⟨#[79,112,73,65,100,100,67,97,114,114,121]⟩,true,true,⟨#[105,105]⟩,⟨#[]⟩,0,8),
 (150,⟨#[79,112,73,83,117,98,66,111,114,114,111,119]⟩,true,true,⟨#[105,105]⟩,⟨#[]⟩,0,8),
 (151,⟨#[79,112,85,77,117,108,69,120,116,101,110,100,101,100]⟩,true,true,⟨#[105,105]⟩,⟨#[]⟩,0,8),
 (152,⟨#[79,112,83,77,117,108,69,120,116,101,110,100,101,100]⟩,true,true,⟨#[105,105]⟩,⟨#[]⟩,0,8),
 (154,⟨#[79,112,65,110,121]⟩,true,true,⟨#[105]⟩,⟨#[]⟩,0,8),
 (155,⟨#[79,112,65,108,108]⟩,true,true,⟨#[105]⟩,⟨#[]⟩,0,8),
 (164,⟨#[79,112,76,111,103,105,99,97,108,69,113,117,97,108]⟩,true,true,⟨#[105,105]⟩,⟨#[]⟩,0,8),
 (165,⟨#[79,112,76,111,103,105,99,97,108,78,111,116,69,113,117,97,108]⟩,true,true,⟨#[105,105]⟩,⟨#[]⟩,0,8),
 (166,⟨#[79,112,76,111,103,105,99,97,108,79,114]⟩,true,true,⟨#[105,105]⟩,⟨#[]⟩,0,8),
 (167,⟨#[79,112,76,111,103,105,99,97,108,65,110,100]⟩,true,true,⟨#[105,105]⟩,⟨#[]⟩,0,8),
 (168,⟨#[79,112,76,111,103,105,99,97,108,78,111,116]⟩,true,true,⟨#[105]⟩,⟨#[]⟩,0,8),
 (169,⟨#[79,112,83,101,108,101,99,116]⟩,true,true,⟨#[105,105,105]⟩,⟨#[]⟩,0,8),
 (170,⟨#[79,112,73,69,113,117,97,108]⟩,true,true,⟨#[105,105]⟩,⟨#[]⟩,0,8),
 (171,⟨#[79,112,73,78,111,116,69,113,117,97,108]⟩,true,true,⟨#[105,105]⟩,⟨#[]⟩,0,8),
 (172,⟨#[79,112,85,71,114,101,97,116,101,114,84,104,97,110]⟩,true,true,⟨#[105,105]⟩,⟨#[]⟩,0,8),
 (173,⟨#[79,112,83,71,114,101,97,116,101,114,84,104,97,110]⟩,true,true,⟨#[105,105]⟩,⟨#[]⟩,0,8),
 (174,⟨#[79,112,85,71,114,101,97,116,101,114,84,104,97,110,69,113,117,97,108]⟩,true,true,⟨#[105,105]⟩,⟨#[]⟩,0,8),
 (175,⟨#[79,112,83,71,114,101,97,116,101,114,84,104,97,110,69,113,117,97,108]⟩,true,true,⟨#[105,105]⟩,⟨#[]⟩,0,8),
 (176,⟨#[79,112,85,76,101,115,115,84,104,97,110]⟩,true,true,⟨#[105,105]⟩,⟨#[]⟩,0,8),
 (177,⟨#[79,112,83,76,101,115,115,84,104,97,110]⟩,true,true,⟨#[105,105]⟩,⟨#[]⟩,0,8),
 (178,⟨#[79,112,85,76,101,115,115,84,104,97,110,69,113,117,97,108]⟩,true,true,⟨#[105,105]⟩,⟨#[]⟩,0,8),
 (179,⟨#[79,112,83,76,101,115,115,84,104,97,110,69,113,117,97,108]⟩,true,true,⟨#[105,105]⟩,⟨#[]⟩,0,8),
 (194,⟨#[79,112,83,104,105,102,116,82,105,103,104,116,76,111,103,105,99,97,108]⟩,true,true,⟨#[105,105]⟩,⟨#[]⟩,0,8),
 (195,⟨#[79,112,83,104,105,102,116,82,105,103,104,116,65,114,105,116,104,109,101,116,105,99]⟩,true,true,⟨#[105,105]⟩,⟨#[]⟩,0,8),
 (196,⟨#[79,112,83,104,105,102,116,76,101,102,116,76,111,103,105,99,97,108]⟩,true,true,⟨#[105,105]⟩,⟨#[]⟩,0,8),
 (197,⟨#[79,112,66,105,116,119,105,115,101,79,114]⟩,true,true,⟨#[105,105]⟩,⟨#[]⟩,0,8),
 (198,⟨#[79,112,66,105,116,119,105,115,101,88,111,114]⟩,true,true,⟨#[105,105]⟩,⟨#[]⟩,0,8),
 (199,⟨#[79,112,66,105,116,119,105,115,101,65,110,100]⟩,true,true,⟨#[105,105]⟩,⟨#[]⟩,0,8),
 (200,⟨#[79,112,78,111,116]⟩,true,true,⟨#[105]⟩,⟨#[]⟩,0,8),
 (201,⟨#[79,112,66,105,116,70,105,101,108,100,73,110,115,101,114,116]⟩,true,true,⟨#[105,105,105,105]⟩,⟨#[]⟩,0,8),
 (202,⟨#[79,112,66,105,116,70,105,101,108,100,83,69,120,116,114,97,99,116]⟩,true,true,⟨#[105,105,105]⟩,⟨#[]⟩,0,8),
 (203,⟨#[79,112,66,105,116,70,105,101,108,100,85,69,120,116,114,97,99,116]⟩,true,true,⟨#[105,105,105]⟩,⟨#[]⟩,0,8),
 (204,⟨#[79,112,66,105,116,82,101,118,101,114,115,101]⟩,true,true,⟨#[105]⟩,⟨#[]⟩,0,8),
 (205,⟨#[79,112,66,105,116,67,111,117,110,116]⟩,true,true,⟨#[105]⟩,⟨#[]⟩,0,8),
 (245,⟨#[79,112,80,104,105]⟩,true,true,⟨#[]⟩,⟨#[105,105]⟩,0,8),
 (246,⟨#[79,112,76,111,111,112,77,101,114,103,101]⟩,false,false,⟨#[105,105,103]⟩,⟨#[]⟩,0,8),
 (247,⟨#[79,112,83,101,108,101,99,116,105,111,110,77,101,114,103,101]⟩,false,false,⟨#[105,104]⟩,⟨#[]⟩,0,8),
 (248,⟨#[79,112,76,97,98,101,108]⟩,false,true,⟨#[]⟩,⟨#[]⟩,0,8),
 (249,⟨#[79,112,66,114,97,110,99,104]⟩,false,false,⟨#[105]⟩,⟨#[]⟩,0,8),
 (250,⟨#[79,112,66,114,97,110,99,104,67,111,110,100,105,116,105,111,110,97,108]⟩,false,false,⟨#[105,105,105]⟩,⟨#[]⟩,0,8),
 (251,⟨#[79,112,83,119,105,116,99,104]⟩,false,false,⟨#[105,105]⟩,⟨#[110,105]⟩,0,8),
 (252,⟨#[79,112,75,105,108,108]⟩,false,false,⟨#[]⟩,⟨#[]⟩,0,8),
 (253,⟨#[79,112,82,101,116,117,114,110]⟩,false,false,⟨#[]⟩,⟨#[]⟩,0,8),
 (254,⟨#[79,112,82,101,116,117,114,110,86,97,108,117,101]⟩,false,false,⟨#[105]⟩,⟨#[]⟩,0,8),
 (255,⟨#[79,112,85,110,114,101,97,99,104,97,98,108,101]⟩,false,false,⟨#[]⟩,⟨#[]⟩,0,8)]
def namesT:List (Int×Int×ByteArray):=[
 (107,0,⟨#[77,97,116,114,105,120]⟩),
 (107,1,⟨#[83,104,97,100,101,114]⟩),
 (97,0,⟨#[76,111,103,105,99,97,108]⟩),
 (109,0,⟨#[83,105,109,112,108,101]⟩),
 (109,1,⟨#[71,76,83,76,52,53,48]⟩),
 (101,0,⟨#[86,101,114,116,101,120]⟩),
 (101,4,⟨#[70,114,97,103,109,101,110,116]⟩),
 (120,7,⟨#[79,114,105,103,105,110,85,112,112,101,114,76,101,102,116]⟩),
 (108,0,⟨#[85,110,107,110,111,119,110]⟩),
 (108,1,⟨#[69,83,83,76]⟩),
 (108,2,⟨#[71,76,83,76]⟩),
 (99,1,⟨#[73,110,112,117,116]⟩),
 (99,3,⟨#[79,117,116,112,117,116]⟩),
 (99,6,⟨#[80,114,105,118,97,116,101]⟩),
 (99,7,⟨#[70,117,110,99,116,105,111,110]⟩),
 (100,0,⟨#[82,101,108,97,120,101,100,80,114,101,99,105,115,105,111,110]⟩),
 (100,11,⟨#[66,117,105,108,116,73,110]⟩),
 (100,14,⟨#[70,108,97,116]⟩),
 (100,30,⟨#[76,111,99,97,116,105,111,110]⟩),
 (102,0,⟨#[78,111,110,101]⟩),
 (102,1,⟨#[73,110,108,105,110,101]⟩),
 (102,2,⟨#[68,111,110,116,73,110,108,105,110,101]⟩),
 (102,4,⟨#[80,117,114,101]⟩),
 (102,8,⟨#[67,111,110,115,116]⟩),
 (104,0,⟨#[78,111,110,101]⟩),
 (104,1,⟨#[70,108,97,116,116,101,110]⟩),
 (104,2,⟨#[68,111,110,116,70,108,97,116,116,101,110]⟩),
 (103,0,⟨#[78,111,110,101]⟩),
 (103,1,⟨#[85,110,114,111,108,108]⟩),
 (103,2,⟨#[68,111,110,116,85,110,114,111,108,108]⟩)]
def sgn (s:ByteArray) (k:Nat):Int:=((s.data.toList.getD k 0).toNat:Int)
theorem sgn_at (s:ByteArray) (k:Nat) (h:k<s.size):((s[k]'h).toNat:Int)=sgn s k:=by
 have h':k<s.data.toList.length:=by simpa using h
 unfold sgn
 rw [List.getD_eq_getElem?_getD,List.getElem?_eq_getElem h']
 rfl
abbrev RdSt:=Int×Int×Frm
def rdStep (s:ByteArray) (k:Nat) (c:Int) (x:RdSt):RdSt :=
 match x with
 | (col,fr,nm,t,r,fx,rs,mo,pa) =>
  if c=47 then (col+1,k+1,nm,t,r,fx,rs,mo,pa)
  else if col=0 then (col,fr,s.extract fr.toNat (k+1),t,r,fx,rs,mo,pa)
  else if col=1 then (col,fr,nm,t || (c==116),r || (c==114),fx,rs,mo,pa)
  else if col=2 then (col,fr,nm,t,r,s.extract fr.toNat (k+1),rs,mo,pa)
  else if col=3 then (col,fr,nm,t,r,fx,s.extract fr.toNat (k+1),mo,pa)
  else if col=4 then (col,fr,nm,t,r,fx,rs,10 * mo+(c - 48),pa)
  else (col,fr,nm,t,r,fx,rs,mo,c - 48)
def rdTo (s:ByteArray):Nat→RdSt
 | 0=>(0,0,⟨#[]⟩,false,false,⟨#[]⟩,⟨#[]⟩,0,0)
 | k+1=>rdStep s k (sgn s k) (rdTo s k)
def rdOk (k:Nat) (c:Int) (x:RdSt):Bool :=
 decide (c<128∧0≤c∧0≤x.1∧x.1≤5∧0≤x.2.1∧x.2.1≤k∧0≤x.2.2.2.2.2.2.2.1∧x.2.2.2.2.2.2.2.1≤1000∧(x.1=4→c≠47→48≤c)∧(x.1=5→c≠47→48≤c))
def goodT (s:ByteArray):Bool:=(List.range s.size).all fun k=>rdOk k (sgn s k) (rdTo s k)
theorem goodT_at {s:ByteArray} (h:goodT s=true) {k:Nat} (hk:k<s.size):rdOk k (sgn s k) (rdTo s k)=true:=List.all_eq_true.1 h k (List.mem_range.2 hk)
def rdF (s:ByteArray):Frm:=(rdTo s s.size).2.2
def ftxt (n:Int):ByteArray:=if n<41 then lookT namingT n else if n<124 then lookT makingT n else if n<164 then lookT countingT n else if n<194 then lookT comparingT n else if n<245 then lookT bitT n else lookT flowT n
set_option maxRecDepth 10000
def formV (op:Int) (f:Frm):Value:=.agg #[.int .u16 op,.string f.1,.bool f.2.1,.bool f.2.2.1,.string f.2.2.2.1,.string f.2.2.2.2.1,.int .i64 f.2.2.2.2.2.1,.int .u8 f.2.2.2.2.2.2]
def noFrm:Frm:=(⟨#[]⟩,false,false,⟨#[]⟩,⟨#[]⟩,0,0)
theorem one_block {w:World} {B T:Nat} {cs:Array Value} (h:w.heap[B]?=some (.cells cs T (0,0))):(∀ i,w.cell? ⟨B,i,none⟩=cs[i]?)∧(∀ i,w.frozen? ⟨B,i,none⟩=false):=by
 refine⟨fun i=>?_,fun i=>?_⟩
 ·simp [World.cell?,h]
 ·simp [World.frozen?,h]
theorem alloc_new (w:World) (cs:Array Value) (T:Nat):(w.alloc (.cells cs T)).heap[w.heap.size]?=some (.cells cs T (0,0)):=heap_alloc_new w _
theorem eight_set {w:World} {B T:Nat} {z0 z1 z2 z3 z4 z5 z6 z7:Value} (h:w.heap[B]?=some (.cells #[z0,z1,z2,z3,z4,z5,z6,z7] T (0,0))) (u0 u1 u2 u3 u4 u5 u6 u7:Value) :
  ((((((((w.setCell ⟨B,0,none⟩ u0).setCell ⟨B,1,none⟩ u1).setCell ⟨B,2,none⟩ u2).setCell ⟨B,3,none⟩ u3).setCell ⟨B,4,none⟩ u4).setCell ⟨B,5,none⟩ u5).setCell ⟨B,6,none⟩ u6).setCell ⟨B,7,none⟩ u7).heap[B]?=some (.cells #[u0,u1,u2,u3,u4,u5,u6,u7] T (0,0)):=by
 simp only [World.setCell,Array.getElem?_modify,h];simp
theorem eight_below (w:World) (B:Nat) (u0 u1 u2 u3 u4 u5 u6 u7:Value) :
  Below B w ((((((((w.setCell ⟨B,0,none⟩ u0).setCell ⟨B,1,none⟩ u1).setCell ⟨B,2,none⟩ u2).setCell ⟨B,3,none⟩ u3).setCell ⟨B,4,none⟩ u4).setCell ⟨B,5,none⟩ u5).setCell ⟨B,6,none⟩ u6).setCell ⟨B,7,none⟩ u7) :=
 ((((((((Below.refl B w).setCell (Nat.le_refl _) _).setCell (Nat.le_refl _) _).setCell (Nat.le_refl _) _).setCell (Nat.le_refl _) _).setCell (Nat.le_refl _) _).setCell (Nat.le_refl _) _).setCell (Nat.le_refl _) _).setCell (Nat.le_refl _) _
def frmCells (n:Int) (f:Frm):Array Value:=#[.int .u16 n,.string f.1,.bool f.2.1,.bool f.2.2.1,.string f.2.2.2.1,.string f.2.2.2.2.1,.int .i64 f.2.2.2.2.2.1,.int .u8 f.2.2.2.2.2.2]
theorem frm_cells {w:World} {B T:Nat} {n:Int} {f:Frm} (h:w.heap[B]?=some (.cells (frmCells n f) T (0,0))) :
  w.cell? ⟨B,0,none⟩=some (.int .u16 n)∧w.cell? ⟨B,1,none⟩=some (.string f.1)∧w.cell? ⟨B,2,none⟩=some (.bool f.2.1)∧w.cell? ⟨B,3,none⟩=some (.bool f.2.2.1)∧w.cell? ⟨B,4,none⟩=some (.string f.2.2.2.1)∧w.cell? ⟨B,5,none⟩=some (.string f.2.2.2.2.1)∧w.cell? ⟨B,6,none⟩=some (.int .i64 f.2.2.2.2.2.1)∧w.cell? ⟨B,7,none⟩=some (.int .u8 f.2.2.2.2.2.2)∧∀ i,w.frozen? ⟨B,i,none⟩=false:=by
 obtain⟨hc,hf⟩:=one_block h
 exact⟨hc 0,hc 1,hc 2,hc 3,hc 4,hc 5,hc 6,hc 7,hf⟩
def lookF:List (Int×Frm)→Int→Frm×Bool
 | [],_=>(noFrm,false)
 | (k,s) :: l,n=>if n=k then (s,true) else lookF l n
def ofV (n:Int):Value:=if (lookF refT n).2 then formV n (lookF refT n).1 else formV 0 noFrm
end Go.Proofs.YtoebhgpciinkgaaGreatDoor
