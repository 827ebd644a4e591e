/-
  Texts in one: LayoutRows, LayoutWalk1, DrawLies.
-/
import Derived.Test.YtoebhgpciinkgaaGreatDoorB09
namespace Go.Proofs.YtoebhgpciinkgaaGreatDoor
open Go.RowKit
set_option linter.unusedVariables false
set_option linter.unusedSimpArgs false
set_option maxRecDepth 10000
def noFunc:FuncT:=(0,0,[],[],0)
def nthF (fs:List FuncT) (j:Nat):FuncT:=fs.getD j noFunc
theorem nthF_lo (fs:List FuncT) (f:FuncT) (j:Nat) (h:j<fs.length):nthF (fs++[f]) j=nthF fs j:=by simp [nthF,List.getD,List.getElem?_append_left h]
theorem nthF_hi (fs:List FuncT) (f:FuncT):nthF (fs++[f]) fs.length=f:=by simp [nthF,List.getD]
def fC (f:FuncT) (pv bv:Value):List Value:=[.int .u32 f.1,.int .i64 f.2.1,pv,bv,.int .i64 f.2.2.2.2]
def bC (b:Int×Int×Int):List Value:=[.int .u32 b.1,.int .i64 b.2.1,.int .i64 b.2.2]
def cellsF (fs:List FuncT) (V:Bool→Nat→Value):Nat→List Value
 | 0=>[]
 | m+1=>cellsF fs V m++fC (nthF fs m) (V false m) (V true m)
theorem cellsF_len (fs:List FuncT) (V:Bool→Nat→Value):∀ m,(cellsF fs V m).length=m * 5
 | 0=>rfl
 | m+1=>by rw [cellsF,List.length_append,cellsF_len fs V m];simp [fC];omega
theorem cellsF_eq {fs fs':List FuncT} {V V':Bool→Nat→Value}:∀ {m:Nat},(∀ j,j<m→nthF fs' j=nthF fs j∧V' false j=V false j∧V' true j=V true j)→cellsF fs' V' m=cellsF fs V m
 | 0,_=>rfl
 | m+1,h=>by
  rw [cellsF,cellsF,cellsF_eq (fun j hj=>h j (by omega))]
  obtain⟨h1,h2,h3⟩:=h m (by omega)
  rw [h1,h2,h3]
theorem cellsF_at (fs:List FuncT) (V:Bool→Nat→Value) (m i:Nat):(cellsF fs V (m+1))[m * 5+i]?=(fC (nthF fs m) (V false m) (V true m))[i]?:=by
 rw [cellsF,List.getElem?_append_right (by rw [cellsF_len];omega),cellsF_len];congr 1;omega
theorem cellsF_set (fs:List FuncT) (V:Bool→Nat→Value) (m i:Nat) (u:Value):(cellsF fs V (m+1)).set (m * 5+i) u=cellsF fs V m++(fC (nthF fs m) (V false m) (V true m)).set i u:=by
 rw [cellsF,List.set_append,if_neg (by rw [cellsF_len];omega),cellsF_len];congr 2;omega
def rowF (fv:Value) (fs:List FuncT) (V:Bool→Nat→Value):Option (Bool×Nat)→RowX
 | none=>⟨209,5,fv,fs.length,cellsF fs V fs.length⟩
 | some (false,j)=>⟨3,1,V false j,(nthF fs j).2.2.1.length,(nthF fs j).2.2.1.map (Value.int .i64)⟩
 | some (true,j)=>⟨213,3,V true j,(nthF fs j).2.2.2.1.length,(nthF fs j).2.2.2.1.flatMap bC⟩
def inF (fs:List FuncT):Option (Bool×Nat)→Prop
 | none=>True
 | some (_,j)=>j<fs.length
def FuncsAt (w:World) (lo:Nat) (fv:Value) (fs:List FuncT):Prop:=∃ V,RowsX w lo (inF fs) (rowF fv fs V)
theorem FuncsAt.nil (w:World) (lo:Nat):FuncsAt w lo (.slice none 0 0) []:=by
 refine⟨fun _ _=>.slice none 0 0,⟨fun q hq=>?_,fun q q' hq hq' hne g e1 e2=>?_⟩⟩
 ·match q,hq with
  | none,_=>exact World.ownsRow_nil _ _ _ _
  | some (_,j),hq=>exact absurd hq (Nat.not_lt_zero j)
 ·match q,q',hq,hq' with
  | none,none,_,_=>exact hne rfl
  | some (_,j),_,hq,_=>exact absurd hq (Nat.not_lt_zero j)
  | none,some (_,j),_,hq=>exact absurd hq (Nat.not_lt_zero j)
theorem FuncsAt.kept {w w':World} {lo:Nat} {fv:Value} {fs:List FuncT} {ob:Option Nat} (h:FuncsAt w lo fv fs) (hg:w.grownBy w' ob) (hob:∀ g,ob=some g→g<lo):FuncsAt w' lo fv fs:=by
 obtain⟨V,hV⟩:=h;exact⟨V,hV.kept hg hob⟩
theorem FuncsAt.below {w w':World} {lo:Nat} {fv:Value} {fs:List FuncT} (h:FuncsAt w lo fv fs) (hb:Below w.heap.size w w'):FuncsAt w' lo fv fs:=h.kept (ob:=none) ⟨hb.os,hb.tape,hb.output,hb.size,fun k hk _=>hb.block k hk⟩ (fun g e=>by cases e)
theorem FuncsAt.row {w:World} {lo:Nat} {fv:Value} {fs:List FuncT} (h:FuncsAt w lo fv fs):∃ cs,w.ownsRow lo 209 5 fv fs.length cs ∧
  ∀ (w':World) (fv':Value) (id at_:Int),w.grownBy w' fv.ownBlock→(fv'.ownBlock=fv.ownBlock∨∀ g,fv'.ownBlock=some g→w.heap.size≤g)→w'.ownsRow lo 209 5 fv' (fs.length+1) (cs++[.int .u32 id,.int .i64 at_,.slice none 0 0,.slice none 0 0,.int .i64 0])→FuncsAt w' lo fv' (fs++[(id,at_,[],[],0)]):=by
 obtain⟨V,hV⟩:=h
 refine⟨cellsF fs V fs.length,hV.own none trivial,fun w' fv' id at_ hg hv how=>?_⟩
 let V':Bool→Nat→Value:=fun b j=>if j=fs.length then .slice none 0 0 else V b j
 have hcell:cellsF (fs++[(id,at_,[],[],0)]) V' (fs.length+1)=cellsF fs V fs.length++[.int .u32 id,.int .i64 at_,.slice none 0 0,.slice none 0 0,.int .i64 0]:=by
  rw [cellsF,cellsF_eq (fs:=fs) (V:=V) (fun j hj=>⟨nthF_lo fs _ j hj,by simp [V',show j≠fs.length by omega],by simp [V',show j≠fs.length by omega]⟩),nthF_hi]
  simp [fC,V']
 have h1:=hV.put (R':=fun q=>if q=none then ⟨209,5,fv',fs.length+1,cellsF fs V fs.length++[.int .u32 id,.int .i64 at_,.slice none 0 0,.slice none 0 0,.int .i64 0]⟩ else rowF fv fs V q) none trivial hg (by rw [if_pos rfl];exact how) (by rw [if_pos rfl];exact hv) (fun q hq hne=>if_neg hne)
 refine⟨V',h1.grow (fun q hq=>?_) (fun q hq=>?_)⟩
 ·match q,hq with
  | none,_=>exact .inl trivial
  | some (b,j),hq =>
   by_cases e:j<fs.length
   ·exact .inl e
   ·have e2:j=fs.length:=by have:j<(fs++[((id,at_,[],[],0):FuncT)]).length:=hq;simp at this;omega
    subst e2
    refine .inr ?_
    cases b
    ·simp [rowF,V',nthF_hi]
    ·simp [rowF,V',nthF_hi]
 ·match q,hq with
  | none,_ =>
   rw [if_pos rfl]
   simp only [rowF,List.length_append,List.length_singleton,hcell]
  | some (b,j),hq =>
   have e:j≠fs.length:=by have:j<fs.length:=hq;omega
   rw [if_neg (by simp)]
   cases b
   ·simp [rowF,V',e,nthF_lo fs _ j hq]
   ·simp [rowF,V',e,nthF_lo fs _ j hq]
structure LastF (w : World) (lo : Nat) (fv : Value) (fs : List FuncT) (f : FuncT) (F c : Nat) (P Q : Value) : Prop where
  val : fv = .slice (some ⟨F, 0, none⟩) (fs.length + 1) c
  low : lo ≤ F
  lt : F < w.heap.size
  cap : fs.length + 1 ≤ c
  frozen : ∀ i, w.frozen? ⟨F, i, none⟩ = false
  c2 : w.cell? ⟨F, fs.length * 5 + 2, none⟩ = some P
  c3 : w.cell? ⟨F, fs.length * 5 + 3, none⟩ = some Q
  c4 : w.cell? ⟨F, fs.length * 5 + 4, none⟩ = some (.int .i64 f.2.2.2.2)
  par : w.ownsRow lo 3 1 P f.2.2.1.length (f.2.2.1.map (Value.int .i64))
  blk : w.ownsRow lo 213 3 Q f.2.2.2.1.length (f.2.2.2.1.flatMap bC)
  pF : P.ownBlock ≠ some F
  qF : Q.ownBlock ≠ some F
  putP : ∀ (w' : World) (P' : Value) (ps : List Int), w.grownBy w' P.ownBlock → (P'.ownBlock = P.ownBlock ∨ ∀ g, P'.ownBlock = some g → w.heap.size ≤ g) → w'.ownsRow lo 3 1 P' ps.length (ps.map (Value.int .i64)) → FuncsAt (w'.setCell ⟨F, fs.length * 5 + 2, none⟩ P') lo fv (fs ++ [(f.1, f.2.1, ps, f.2.2.2.1, f.2.2.2.2)])
  putQ : ∀ (w' : World) (Q' : Value) (bs : List (Int × Int × Int)), w.grownBy w' Q.ownBlock → (Q'.ownBlock = Q.ownBlock ∨ ∀ g, Q'.ownBlock = some g → w.heap.size ≤ g) → w'.ownsRow lo 213 3 Q' bs.length (bs.flatMap bC) → FuncsAt (w'.setCell ⟨F, fs.length * 5 + 3, none⟩ Q') lo fv (fs ++ [(f.1, f.2.1, f.2.2.1, bs, f.2.2.2.2)])
  setQ : ∀ (w' : World) (bs : List (Int × Int × Int)), w.grownBy w' Q.ownBlock → w'.ownsRow lo 213 3 Q bs.length (bs.flatMap bC) → FuncsAt w' lo fv (fs ++ [(f.1, f.2.1, f.2.2.1, bs, f.2.2.2.2)])
  putE : ∀ k : Int, FuncsAt (w.setCell ⟨F, fs.length * 5 + 4, none⟩ (.int .i64 k)) lo fv (fs ++ [(f.1, f.2.1, f.2.2.1, f.2.2.2.1, k)])
theorem FuncsAt.last {w:World} {lo:Nat} {fv:Value} {fs:List FuncT} {f:FuncT} (h:FuncsAt w lo fv (fs++[f])):∃ F c P Q,LastF w lo fv fs f F c P Q:=by
 obtain⟨V,hV⟩:=h
 have hlen:(fs++[f]).length=fs.length+1:=by simp
 have htop:=hV.own none trivial
 have hin:fs.length<(fs++[f]).length:=by omega
 have hp:=hV.own (some (false,fs.length)) hin
 have hq:=hV.own (some (true,fs.length)) hin
 simp only [rowF,RowX.own,nthF_hi,hlen] at htop hp hq
 obtain⟨F,c,e,h1,h2,h3,h4,h5⟩:=own_form htop (by omega)
 have hcell:∀ i,i<5→w.cell? ⟨F,fs.length * 5+i,none⟩=(fC f (V false fs.length) (V true fs.length))[i]?:=fun i hi=>by
  rw [h5 _ (by omega),cellsF_at,nthF_hi]
 have hown:(rowF fv (fs++[f]) V none).v.ownBlock=some F:=by show fv.ownBlock=_;rw [e];rfl
 have ne:∀ b,(some (b,fs.length):Option (Bool×Nat))≠none:=fun b e=>by cases e
 have hpF:(V false fs.length).ownBlock≠some F:=fun e2=>hV.apart (some (false,fs.length)) none hin trivial (ne _) F e2 hown
 have hqF:(V true fs.length).ownBlock≠some F:=fun e2=>hV.apart (some (true,fs.length)) none hin trivial (ne _) F e2 hown
 -- a row turned, then its head in the row of functions
 have turn:∀ (b:Bool) (w':World) (v':Value) (f':FuncT) (i:Nat),w.grownBy w' (V b fs.length).ownBlock→(v'.ownBlock=(V b fs.length).ownBlock∨∀ g,v'.ownBlock=some g→w.heap.size≤g) →
   (rowF fv (fs++[f']) (fun b' j=>if b'=b∧j=fs.length then v' else V b' j) (some (b,fs.length))).own w' lo →
   rowF fv (fs++[f']) (fun b' j=>if b'=b∧j=fs.length then v' else V b' j) (some (!b,fs.length))=rowF fv (fs++[f]) V (some (!b,fs.length)) →
   (fC f (V false fs.length) (V true fs.length)).set i v'=fC f' (if false=b then v' else V false fs.length) (if true=b then v' else V true fs.length) →
   FuncsAt (w'.setCell ⟨F,fs.length * 5+i,none⟩ v') lo fv (fs++[f']):=by
  intro b w' v' f' i hg hv how hoth hset
  have hlen':(fs++[f']).length=fs.length+1:=by simp
  have s1:=hV.put (R':=fun q=>if q=none then rowF fv (fs++[f]) V none else rowF fv (fs++[f']) (fun b' j=>if b'=b∧j=fs.length then v' else V b' j) q) (some (b,fs.length)) hin (by cases b <;> exact hg) (by rw [if_neg (ne _)];exact how) (by
    rw [if_neg (ne _)]
    cases b <;> simpa [rowF] using hv) (fun q hq hne=>by
    match q,hq with
    | none,_=>simp
    | some (b',j),hq =>
     rw [if_neg (by simp)]
     by_cases ej:j=fs.length
     ·subst ej
      have hb:b'=!b:=by cases b <;> cases b' <;> simp at hne ⊢
      rw [hb];exact hoth
     ·have hj:j<fs.length:=by have:j<(fs++[f]).length:=hq;omega
      cases b' <;> simp [rowF,ej,nthF_lo fs _ j hj])
  have htop':=s1.own none trivial
  simp only [if_true,rowF,RowX.own,hlen] at htop'
  rw [e] at htop'
  have hs:=own_setAt htop' (fs.length * 5+i) v'
  rw [cellsF_set,nthF_hi,hset] at hs
  refine⟨_,s1.put (w':=w'.setCell ⟨F,fs.length * 5+i,none⟩ v') (R':=rowF fv (fs++[f']) (fun b' j=>if b'=b∧j=fs.length then v' else V b' j)) none trivial ?_ ?_ ?_ ?_ |> fun h=>⟨fun q hq=>h.own q (by cases q with
    | none=>trivial
    | some x=>have hx:x.2<(fs++[f']).length:=hq;show x.2<(fs++[f]).length;omega),fun q q' hq hq'=>h.apart q q' (by cases q with
    | none=>trivial
    | some x=>have hx:x.2<(fs++[f']).length:=hq;show x.2<(fs++[f]).length;omega) (by cases q' with
    | none=>trivial
    | some x=>have hx:x.2<(fs++[f']).length:=hq';show x.2<(fs++[f]).length;omega)⟩⟩
  ·simp only [if_true];rw [hown];exact grown_cell _ _ _ _
  ·unfold RowX.own
   simp only [rowF]
   rw [hlen',cellsF,cellsF_eq (fs:=fs++[f]) (V:=V) (fun j hj=>⟨by rw [nthF_lo fs _ j hj,nthF_lo fs _ j hj],by simp [show j≠fs.length by omega],by simp [show j≠fs.length by omega]⟩),nthF_hi,e]
   simpa using hs
  ·simp only [if_true];exact .inl rfl
  ·intro q hq hne
   simp only [if_neg hne]
 refine⟨F,c,V false fs.length,V true fs.length,e,h1,h2,h3,h4,hcell 2 (by omega),hcell 3 (by omega),hcell 4 (by omega),hp,hq,hpF,hqF,?_,?_,?_,?_⟩
 ·intro w' P' ps hg hv how
  refine turn false w' P' _ 2 hg hv ?_ ?_ ?_
  ·simp only [rowF,RowX.own,nthF_hi,and_self,if_true];exact how
  ·simp [rowF,nthF_hi]
  ·simp [fC]
 ·intro w' Q' bs hg hv how
  refine turn true w' Q' _ 3 hg hv ?_ ?_ ?_
  ·simp only [rowF,RowX.own,nthF_hi,and_self,if_true];exact how
  ·simp [rowF,nthF_hi]
  ·simp [fC]
 ·intro w' bs hg how
  refine⟨V,(hV.put (R':=rowF fv (fs++[(f.1,f.2.1,f.2.2.1,bs,f.2.2.2.2)]) V) (some (true,fs.length)) hin hg ?_ (.inl rfl) ?_) |> fun h=>⟨fun q hq=>h.own q (by cases q with
    | none=>trivial
    | some x=>have hx:x.2<(fs++[((f.1,f.2.1,f.2.2.1,bs,f.2.2.2.2):FuncT)]).length:=hq;show x.2<(fs++[f]).length;simp at hx ⊢;omega),fun q q' hq hq'=>h.apart q q' (by cases q with
    | none=>trivial
    | some x=>have hx:x.2<(fs++[((f.1,f.2.1,f.2.2.1,bs,f.2.2.2.2):FuncT)]).length:=hq;show x.2<(fs++[f]).length;simp at hx ⊢;omega) (by cases q' with
    | none=>trivial
    | some x=>have hx:x.2<(fs++[((f.1,f.2.1,f.2.2.1,bs,f.2.2.2.2):FuncT)]).length:=hq';show x.2<(fs++[f]).length;simp at hx ⊢;omega)⟩⟩
  ·simp only [rowF,RowX.own,nthF_hi];exact how
  ·intro q hq hne
   match q,hq with
   | none,_ =>
    simp only [rowF,List.length_append,List.length_singleton]
    rw [cellsF,cellsF,cellsF_eq (fs:=fs++[f]) (V:=V) (fun j hj=>⟨by rw [nthF_lo fs _ j hj,nthF_lo fs _ j hj],rfl,rfl⟩),nthF_hi,nthF_hi]
    rfl
   | some (b,j),hq =>
    by_cases ej:j=fs.length
    ·subst ej
     cases b
     ·simp [rowF,nthF_hi]
     ·exact absurd rfl hne
    ·have hj:j<fs.length:=by have:j<(fs++[f]).length:=hq;omega
     cases b <;> simp [rowF,nthF_lo fs _ j hj]
 ·intro k
  have hs:=own_setAt (by rw [e] at htop;exact htop) (fs.length * 5+4) (.int .i64 k)
  rw [cellsF_set,nthF_hi] at hs
  refine⟨V,(hV.put (R':=rowF fv (fs++[(f.1,f.2.1,f.2.2.1,f.2.2.2.1,k)]) V) none trivial (w':=w.setCell ⟨F,fs.length * 5+4,none⟩ (.int .i64 k)) ?_ ?_ (.inl rfl) ?_) |> fun h=>⟨fun q hq=>h.own q (by cases q with
    | none=>trivial
    | some x=>have hx:x.2<(fs++[((f.1,f.2.1,f.2.2.1,f.2.2.2.1,k):FuncT)]).length:=hq;show x.2<(fs++[f]).length;simp at hx ⊢;omega),fun q q' hq hq'=>h.apart q q' (by cases q with
    | none=>trivial
    | some x=>have hx:x.2<(fs++[((f.1,f.2.1,f.2.2.1,f.2.2.2.1,k):FuncT)]).length:=hq;show x.2<(fs++[f]).length;simp at hx ⊢;omega) (by cases q' with
    | none=>trivial
    | some x=>have hx:x.2<(fs++[((f.1,f.2.1,f.2.2.1,f.2.2.2.1,k):FuncT)]).length:=hq';show x.2<(fs++[f]).length;simp at hx ⊢;omega)⟩⟩
  ·rw [hown];exact grown_cell _ _ _ _
  ·unfold RowX.own
   simp only [rowF,List.length_append,List.length_singleton]
   rw [cellsF,cellsF_eq (fs:=fs++[f]) (V:=V) (fun j hj=>⟨by rw [nthF_lo fs _ j hj,nthF_lo fs _ j hj],rfl,rfl⟩),nthF_hi,e]
   exact hs
  ·intro q hq hne
   match q,hq with
   | none,_=>exact absurd rfl hne
   | some (b,j),hq =>
    by_cases ej:j=fs.length
    ·subst ej
     cases b <;> simp [rowF,nthF_hi]
    ·have hj:j<fs.length:=by have:j<(fs++[f]).length:=hq;omega
     cases b <;> simp [rowF,nthF_lo fs _ j hj]
def VarsOk (l:List InstT):Prop:=∀ k,k<l.length→(nthI l k).1=59→1≤(nthI l k).2.2.2.length
theorem KeepB.low {B:Nat} {w0 w w':World} (h:Below w0.heap.size w0 w) (hB:w0.heap.size≤B) (hk:KeepB B w w'):Below w0.heap.size w0 w' :=
 ⟨hk.os.trans h.os,hk.tape.trans h.tape,hk.output.trans h.output,Nat.le_trans h.size hk.size,fun k hk'=>(hk.block k (by have:=h.size;omega) (by omega)).trans (h.block k hk')⟩
set_option maxHeartbeats 8000000 in
theorem look_any (B:Nat) (a:Option Addr) (n c:Nat) (ps:Nat→Int) (fv:Value) (k:Nat) (part kind:Int) (l:List InstT) (w0 w:World) (h:WkB B (.slice a n c) ps fv (k:Int) part kind w) (hv:InstsV w0 a l) (hw:Below w0.heap.size w0 w) (hB:w0.heap.size≤B) (hl:l.length=n) (hn:40 * n≤140737488351232) (hvar:VarsOk l) (hk:k≤n) :
  Calls Tryz.prog 115 #[.pointer (some ⟨B,0,none⟩)] w fun e w'=>e=.returned (.tuple #[])∧WkB B (.slice a n c) ps fv (k:Int) (partAt l k) (kindAt l k) w'∧KeepB B w w':=by
 have HL:=hide hl
 have HV:=hide hv
 have HVAR:=hide hvar
 have h1:=(h.setPart 9).setKind 0
 have HK1:Hid (KeepB B w ((w.setCell ⟨B,23,none⟩ (.int .u8 9)).setCell ⟨B,24,none⟩ (.int .u16 0))):=(KeepB.set w 23 _).trans (KeepB.set _ 24 _)
 have HW1:=hide h1
 have HLOW:=hide (KeepB.low hw hB HK1.out)
 obtain⟨d0,_,_,d22,d23,d24,df⟩:=h.cells
 have hkn:(k:Int)≤(n:Int):=by omega
 clear h hv hl hvar h1 hw
 go_enter Tryz.func115,Tryz.ntmps115
 go_wp2_with fail
 generalize (w.setCell ⟨B,23,none⟩ (.int .u8 9)).setCell ⟨B,24,none⟩ (.int .u16 0)=W1 at *
 clear d0 d22 d23 d24 df
 obtain⟨e0,_,_,e22,e23,e24,ef⟩:=HW1.out.cells
 by_cases hlt:k<n
 ·have hkne:((k:Int)==(n:Int))=false:=by simpa using (by omega:(k:Int)≠(n:Int))
  have hki:(k:Int)<(n:Int):=by omega
  have hk0:(0:Int)≤(k:Int):=by omega
  have hkl:k<l.length:=by rw [HL.out];exact hlt
  have HP:Hid (partAt l k=partI (nthI l k)∧kindAt l k=kindX (nthI l k)):=by unfold partAt kindAt;rw [if_pos hkl,if_pos hkl];exact⟨rfl,rfl⟩
  obtain⟨g1,o1,aj,cj,nj,rfl,hg1,p1,p2,p3,p4,p5,p6,p7⟩:=HV.out.below HLOW.out k hkl
  have hv59:=HVAR.out k hkl
  go_quiet (fail)
  go_wp2_with fail
  have hdr:Below W1.heap.size W1 (W1.drewN nq):=⟨rfl,rfl,rfl,Nat.le_refl _,fun _ _=>rfl⟩
  have HW2:=hide (HW1.out.below hdr)
  have HK2:=hide (HK1.out.trans (.of_below hdr))
  have HL2:=hide (HLOW.out.trans (hdr.mono HLOW.out.size))
  have q1:(W1.drewN nq).cell? ⟨g1,o1+k * 4,none⟩=some (.int .u16 (nthI l k).1):=p1
  have q2:(W1.drewN nq).cell? ⟨g1,o1+k * 4+1,none⟩=some (.int .u32 (nthI l k).2.1):=p2
  have q3:(W1.drewN nq).cell? ⟨g1,o1+k * 4+2,none⟩=some (.int .u32 (nthI l k).2.2.1):=p3
  have q4:(W1.drewN nq).cell? ⟨g1,o1+k * 4+3,none⟩=some (.slice aj nj cj):=p4
  have p6':=p6.below hdr
  have hg2:g1<(W1.drewN nq).heap.size:=hg1
  clear p1 p2 p3 p4 p6 HW1 HK1 HLOW hdr e0 e22 e23 e24 ef hg1
  generalize W1.drewN nq=W2 at *
  obtain⟨e0,_,_,e22,e23,e24,ef⟩:=HW2.out.cells
  have hBl:=HW2.out.lt
  generalize nthI l k=z at *
  obtain⟨zo,zt,zr,zl⟩:=z
  simp only at *
  refine wp_norm ?_
  go_region
  all_goals
   rw [onNormal_normal]
   have hba:Below W2.heap.size W2 (W2.alloc (.cells #[.int .u16 zo,.int .u32 zt,.int .u32 zr,.slice aj nj cj] 71)).drew:=((Below.refl _ W2).alloc (Nat.le_refl _) _).drew
   have hPo:=partOf_any (zo,zt,zr,zl) aj nj cj _ (p6'.below hba) p5 (fun e=>by rw [← p5];exact hv59 e)
   unfold instV at hPo
   simp only at hPo
   have HW3:=hide (HW2.out.below hba)
   have HK3:=hide (HK2.out.trans (.of_below hba))
   have hz0:=(one_block (heap_alloc_new W2 (.cells #[.int .u16 zo,.int .u32 zt,.int .u32 zr,.slice aj nj cj] 71))).1 0
   have HZ:=hide (heap_alloc_new W2 (.cells #[.int .u16 zo,.int .u32 zt,.int .u32 zr,.slice aj nj cj] 71))
   have HZ':Hid ((W2.alloc (.cells #[.int .u16 zo,.int .u32 zt,.int .u32 zr,.slice aj nj cj] 71)).drew.heap[W2.heap.size]?=some (.cells #[.int .u16 zo,.int .u32 zt,.int .u32 zr,.slice aj nj cj] 71 (0,0))):=HZ.out
   have HZL:Hid (W2.heap.size<(W2.alloc (.cells #[.int .u16 zo,.int .u32 zt,.int .u32 zr,.slice aj nj cj] 71)).drew.heap.size):=by show _<(W2.alloc _).heap.size;simp
   have hneB:W2.heap.size≠B:=by omega
   clear q1 q2 q3 q4 p6' hba HW2 HK2 hz0 HZ e0 e22 e23 e24 ef
   generalize (W2.alloc (.cells #[.int .u16 zo,.int .u32 zt,.int .u32 zr,.slice aj nj cj] 71)).drew=W3 at *
   obtain⟨zc,_⟩:=one_block HZ'.out
   have z0:=zc 0
   have z1:=zc 1
   have z2:=zc 2
   have z3:=zc 3
   have hzl:=HZL.out
   clear zc
   go_wp2_with fail
   refine hPo.mono ?_
   rintro e w4 ⟨rfl,hb4⟩
   have HW4:=hide (HW3.out.below hb4)
   have HK4:=hide (HK3.out.trans (.of_below hb4))
   have z4:=(hb4.cell (p:=⟨W2.heap.size,0,none⟩) hzl).trans z0
   have hzl4:W2.heap.size<w4.heap.size:=Nat.lt_of_lt_of_le hzl hb4.size
   have HW5:=hide (HW4.out.setPart (partI (zo,zt,zr,zl)))
   have HK5:=hide (HK4.out.trans (KeepB.set w4 23 (.int .u8 (partI (zo,zt,zr,zl)))))
   obtain⟨_,_,_,_,e23,_,ef⟩:=HW4.out.cells
   clear hPo hb4 HW3 HK3 z0 z1 z2 z3 hzl HZ' HZL
   by_cases h8:partI (zo,zt,zr,zl)=8
   ·have HKD:Hid (kindX (zo,zt,zr,zl)=kindOp zo):=by show _=_;unfold kindX;rw [if_pos h8]
    rw [h8] at HW5 HK5 HP ⊢
    rw [HKD.out] at HP
    have hko:=fun wx=>kindOf_any zo wx
    have HW6:=hide (HW5.out.setKind (kindOp zo))
    have HK6:=hide (HK5.out.trans (KeepB.set _ 24 (.int .u16 (kindOp zo))))
    obtain⟨_,_,_,_,y23,y24,yf⟩:=HW5.out.cells
    go_wp2_with fail
    refine (hko _).mono ?_
    rintro e w6 ⟨rfl,rfl⟩
    clear hko
    go_wp2_with fail
    go_end0
    exact⟨rfl,by rw [HP.out.1,HP.out.2];exact HW6.out,HK6.out⟩
   ·have HKD:Hid (kindX (zo,zt,zr,zl)=0):=by show _=_;unfold kindX;rw [if_neg h8]
    rw [HKD.out] at HP
    have h8':(partI (zo,zt,zr,zl)==8)=false:=by simpa using h8
    generalize partI (zo,zt,zr,zl)=pp at *
    go_wp2_with fail
    go_end0
    exact⟨rfl,by rw [HP.out.1,HP.out.2];exact HW5.out,HK5.out⟩
 ·obtain rfl:k=n:=by omega
  have HP:Hid (partAt l k=9∧kindAt l k=0):=by unfold partAt kindAt;rw [if_neg (by rw [HL.out];omega),if_neg (by rw [HL.out];omega)];exact⟨rfl,rfl⟩
  go_quiet (fail)
  go_wp2_with fail
  have hdr:Below W1.heap.size W1 (W1.drewN nq):=⟨rfl,rfl,rfl,Nat.le_refl _,fun _ _=>rfl⟩
  refine bodyPost_ret (v:=.tuple #[]) (by simp [results,Tryz.results115,go_sem]) rfl ⟨rfl,by rw [HP.out.1,HP.out.2];exact HW1.out.below hdr,HK1.out.trans (.of_below hdr)⟩
set_option maxHeartbeats 4000000 in
theorem step_any (B:Nat) (a:Option Addr) (n c:Nat) (ps:Nat→Int) (fv:Value) (k:Nat) (part kind:Int) (l:List InstT) (w0 w:World) (h:WkB B (.slice a n c) ps fv (k:Int) part kind w) (hv:InstsV w0 a l) (hw:Below w0.heap.size w0 w) (hB:w0.heap.size≤B) (hl:l.length=n) (hn:40 * n≤140737488351232) (hvar:VarsOk l) (hk:k<n) :
  Calls Tryz.prog 138 #[.pointer (some ⟨B,0,none⟩)] w fun e w'=>e=.returned (.tuple #[])∧WkB B (.slice a n c) ps fv ((k+1:Nat):Int) (partAt l (k+1)) (kindAt l (k+1)) w'∧KeepB B w w':=by
 have ek:((k+1:Nat):Int)=(k:Int)+1:=by omega
 have h1:=h.setAt ((k+1:Nat):Int)
 have hK1:=KeepB.set (B:=B) w 22 (.int .i64 ((k+1:Nat):Int))
 have hLk:=look_any B a n c ps fv (k+1) part kind l w0 _ h1 hv (KeepB.low hw hB hK1) hB hl hn hvar (by omega)
 rw [ek] at hK1 hLk ⊢
 have HK1:=hide hK1
 obtain⟨_,_,_,d22,_,_,df⟩:=h.cells
 have hkw:IntKind.i64.wrap ((k:Int)+1)=(k:Int)+1:=by rw [IntKind.wrap_i64];omega
 clear h h1 hv hw hl hn hvar ek hK1
 go_enter Tryz.func138,Tryz.ntmps138
 go_wp2_with fail
 refine hLk.mono ?_
 rintro e w2 ⟨rfl,h2,hk2⟩
 have H2:=hide (And.intro h2 (HK1.out.trans hk2))
 clear hLk h2 hk2
 go_wp2_with fail
 go_end0
 exact⟨rfl,H2.out.1,H2.out.2⟩
set_option maxHeartbeats 4000000 in
/-- What is wrong where the instructions can't go on. -/
theorem fault_any5 (B:Nat) (ins:Value) (ps:Nat→Int) (fv:Value) (at_ part kind:Int) (w:World) (h:WkB B ins ps fv at_ part kind w) :
  Calls Tryz.prog 118 #[.pointer (some ⟨B,0,none⟩)] w fun e w'=>e=.returned (.agg #[.int .i64 (if part=9 then 51 else 50),.int .i64 at_])∧Below w.heap.size w w':=by
 have hba:Below w.heap.size w (w.alloc (.cells #[.int .i64 0,.int .i64 0] 30)):=(Below.refl _ w).alloc (Nat.le_refl _) _
 obtain⟨_,_,_,d22,d23,_,df⟩:=h.cells
 have hl:=h.lt
 have HBA:=hide hba
 clear h hba
 by_cases h9:part=9
 ·subst h9
  rw [if_pos rfl]
  go_enter Tryz.func118,Tryz.ntmps118
  go_wp2_with fail
  refine bodyPost_ret (v:=.agg #[.int .i64 51,.int .i64 at_]) ?_ rfl ⟨rfl,?_⟩
  ·simp [results,Tryz.results118,go_sem,World.setCell,Array.getElem?_modify]
  ·exact (Below.refl _ w).alloc (Nat.le_refl _) _
 ·rw [if_neg h9]
  have h9':(part==9)=false:=by simpa using h9
  clear h9
  go_enter Tryz.func118,Tryz.ntmps118
  go_wp2_with fail
  refine bodyPost_ret (v:=.agg #[.int .i64 50,.int .i64 at_]) ?_ rfl ⟨rfl,?_⟩
  ·simp [results,Tryz.results118,go_sem,World.setCell,Array.getElem?_modify]
  ·exact (Below.refl _ w).alloc (Nat.le_refl _) _
theorem stepAny_lies {P:Program} (w:World) {F:Fence} (hF:∀ f,F.fn f) {o:Oper} {ops:Array Oper} {a:Act} {K:Act→World→Prop} {Q:Exit→Act→World→Prop} (hgd:o.guard=none) (s x:Operand) (t:TypeId)
  (ho:o.op=.call { callee:=.builtin .append,args:=#[s,x],argTypes:=#[t,t] }) (base:Nat) (e:TypeId) (i:TypeInfo) (z:Value) (size bytes:Nat) (ht:P.underlying t=some (.slice e)) (hi:P.info? e=some i) (hz:i.zero=some z)
  (hsize:i.size=size) (hby:i.bytes=bytes) (hzs:z.cells.size=size) (hsz:0<size) (v:Value) (n:Nat) (xs:List Value) (hs:a.eval s=v) (hown:w.ownsRow base e size v n xs)
  (ad:Addr) (m c:Nat) (news:List Value) (hx:a.eval x=.slice (some ad) m c) (hl:news.length=m * size) (hnews:∀ j u,news[j]?=some u→w.cell? (ad.add j)=some u) (h1:∀ u∈news,u.oneCell'=true)
  (hm:0<m) (h63:n+m≤maxLen) (hbytes:(n+m) * bytes≤140737488355328) (hbase:base≤w.heap.size)
  (h:∀ g cap w',w'.ownsRow base e size (.slice (some ⟨g,0,none⟩) (n+m) cap) (n+m) (xs++news)→w.grownBy w' v.ownBlock→(v.ownBlock=some g∨g=w.heap.size)→K (a.put o.dst (.slice (some ⟨g,0,none⟩) (n+m) cap)) w') :
  if Region.wanted o (yielded ops a.tmps)=true then Oper.wpIn F 0 P o a w K Q else (∀ f,o.about P w a.eval=some f→F.fn f)∧K (a.put o.dst undef) w:=by
 obtain⟨g,cap',w',hr,h2,h3,h4,_⟩:=run_append_lies (P:=P) w t o.type base e i z size bytes ht hi hz hsize hby hzs hsz v n xs hown ad m c news hl hnews h1 hm h63 hbytes hbase w.heap.size rfl
 rw [if_pos (by simp [Region.wanted,hgd])]
 refine⟨fun f _=>hF f,?_⟩
 rw [Oper.semAt_eq _ _ _ (fun c hc=>by rw [ho] at hc;cases hc)]
 unfold execOp
 simp only [ho,resolve,invoke,builtin,Sem.run_bind,Sem.run_pure,Result.andThen_ok,List.map_toArray,List.map_cons,List.map_nil,hs,hx,hr]
 exact h g cap' w' h2 h3 h4
end Go.Proofs.YtoebhgpciinkgaaGreatDoor
