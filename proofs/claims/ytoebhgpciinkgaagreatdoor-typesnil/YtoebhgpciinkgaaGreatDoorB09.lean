/-
  Texts in one: MathK, MathKf, RowX.
-/
import Derived.Test.YtoebhgpciinkgaaGreatDoorB08
namespace Go.Proofs.YtoebhgpciinkgaaGreatDoor
open Go.RowKit
set_option linter.unusedVariables false
set_option linter.unusedSimpArgs false
set_option maxRecDepth 10000
def overP (l:List InstT) (p:Int):Nat→Bool
 | 0=>false
 | k+1=>overP l p k || decide (p<partI (nthI l k))
def modelsN (l:List InstT):Nat→Nat
 | 0=>0
 | k+1=>modelsN l k+(if partI (nthI l k)=1 then 1 else 0)
theorem modelsN_le (l:List InstT):∀ k,modelsN l k≤k
 | 0=>Nat.le_refl _
 | k+1=>by have:=modelsN_le l k;rw [modelsN];split <;> omega
theorem overP_at {l:List InstT} {p:Int} {k m:Nat} (hk:k<m) (h:p<partI (nthI l k)):overP l p m=true:=by
 induction m with
 | zero=>omega
 | succ m ih =>
  rw [overP]
  by_cases e:k=m
  ·subst e;simp [h]
  ·rw [ih (by omega)];rfl
def aheadO (l:List InstT) (m:Nat):Int:=if 0<m∧partI (nthI l (m - 1))=8 then (nthI l (m - 1)).1 else 0
def blockAt (l:List InstT):Nat→Nat
 | 0=>0
 | k+1=>if (nthI l (k+1)).1=248 then k+1 else blockAt l k
def firstB (l:List InstT) (k:Nat):Bool:=decide ((nthI l (blockAt l k - 1)).1=54∨(nthI l (blockAt l k - 1)).1=55)
def mayF (op ah:Int) (fs:Bool):Bool :=
 if op=54 then ah==0 || ah==56
 else if op=55 then ah==54 || ah==55
 else if op=248 then ah==54 || ah==55 || endsB ah
 else if op=56 then endsB ah
 else if (ah==0 || ah==54 || ah==55 || ah==56 || endsB ah)=true then false
 else if op=245 then (ah==248 || ah==245) && !fs
 else if op=59 then (ah==248 || ah==59) && fs
 else if ah=246 then op==249 || op==250
 else if ah=247 then op==250 || op==251
 else true
theorem overP_false {l:List InstT} {p:Int}:∀ {m:Nat},overP l p m=false→∀ i,i<m→partI (nthI l i)≤p
 | 0,_,i,hi=>by omega
 | m+1,h,i,hi=>by
  rw [overP,Bool.or_eq_false_iff] at h
  by_cases e:i=m
  ·subst e;simpa using h.2
  ·exact overP_false h.1 i (by omega)
theorem overP_low {l:List InstT} {p:Int}:∀ {m:Nat},(∀ i,i<m→partI (nthI l i)≤p)→overP l p m=false
 | 0,_=>rfl
 | m+1,h=>by
  rw [overP,overP_low (fun i hi=>h i (by omega)),Bool.false_or]
  have:=h m (by omega)
  simpa using this
theorem modelsN_none {l:List InstT}:∀ {k:Nat},(∀ i,i<k→partI (nthI l i)≠1)→modelsN l k=0
 | 0,_=>rfl
 | k+1,h=>by rw [modelsN,modelsN_none (fun i hi=>h i (by omega)),if_neg (h k (by omega))]
theorem modelsN_mono {l:List InstT} {i k:Nat} (h:i≤k):modelsN l i≤modelsN l k:=by
 induction k with
 | zero=>rw [show i=0 by omega];exact Nat.le_refl _
 | succ k ih =>
  by_cases e:i=k+1
  ·rw [e];exact Nat.le_refl _
  ·have:=ih (by omega);rw [modelsN];omega
def mayL (l:List InstT) (m:Nat):Bool :=
 (!overP l (partI (nthI l m)) m && (if partI (nthI l m)=1 then decide (modelsN l m=0) else !(decide (1<partI (nthI l m)) && decide (modelsN l m=0)))) && (decide (partI (nthI l m)<8) || mayF (nthI l m).1 (aheadO l m) (firstB l (m - 1)))
def okTo (l:List InstT) (k:Nat):Prop:=∀ i,i<k→mayL l i=true
theorem okTo_zero (l:List InstT):okTo l 0:=fun i hi=>by omega
theorem okTo.snoc {l:List InstT} {k:Nat} (h:okTo l k) (hk:mayL l k=true):okTo l (k+1):=fun i hi=>by
 by_cases e:i=k
 ·rw [e];exact hk
 ·exact h i (by omega)
theorem mayL_over {l:List InstT} {k i:Nat} (hi:i<k) (h:partI (nthI l k)<partI (nthI l i)):mayL l k=false:=by
 unfold mayL;rw [overP_at hi h];rfl
theorem mayL_low {l:List InstT} {k:Nat} {p:Int} (hp:partI (nthI l k)=p) (h8:p<8) (ho:∀ i,i<k→partI (nthI l i)≤p) (h1:p=1→modelsN l k=0) (h2:1<p→modelsN l k≠0):mayL l k=true:=by
 unfold mayL
 rw [hp,overP_low ho]
 have h8':decide (p<8)=true:=by simpa using h8
 rw [h8']
 by_cases e:p=1
 ·simp [e,h1 e]
 ·by_cases e2:1<p
  ·simp [e,e2,h2 e2]
  ·simp [e,e2]
theorem mayL_noModel {l:List InstT} {k:Nat} (h:1<partI (nthI l k)) (h0:modelsN l k=0):mayL l k=false:=by
 unfold mayL
 rw [if_neg (by omega)]
 simp [h,h0]
theorem mayL_twoModels {l:List InstT} {k:Nat} (h:partI (nthI l k)=1) (h0:modelsN l k≠0):mayL l k=false:=by
 unfold mayL
 rw [if_pos h]
 simp [h0]
theorem mayL_eight {l:List InstT} {k:Nat} (h:partI (nthI l k)=8) (ho:∀ i,i<k→partI (nthI l i)≤8) (h0:modelsN l k≠0):mayL l k=mayF (nthI l k).1 (aheadO l k) (firstB l (k - 1)):=by
 unfold mayL
 rw [h,overP_low ho]
 simp [h0]
theorem partI_eight (x:InstT):0≤partI x∧partI x≤8:=by
 have h:refT.all (fun r=>decide (0≤r.2.2.2.2.2.2.2) && decide (r.2.2.2.2.2.2.2≤8))=true:=by decide +kernel
 unfold partI
 split
 ·omega
 ·unfold partO
  split
  ·next h1 =>
   have h2:=List.all_eq_true.1 h _ (lookF_true h1)
   simpa using h2
  ·omega
theorem partAt_lt {l:List InstT} {k:Nat} (h:k<l.length):partAt l k=partI (nthI l k):=by unfold partAt;rw [if_pos h]
theorem partAt_end {l:List InstT} {k:Nat} (h:l.length≤k):partAt l k=9:=by unfold partAt;rw [if_neg (by omega)]
theorem partAt_nine {l:List InstT} {k:Nat} (h:partAt l k=9):l.length≤k:=by
 unfold partAt at h
 split at h
 ·have:=partI_eight (nthI l k);omega
 ·omega
theorem partAt_small (l:List InstT) (k:Nat):0≤partAt l k∧partAt l k≤9:=by
 unfold partAt
 split
 ·have:=partI_eight (nthI l k);omega
 ·omega
def cntP (l:List InstT) (p:Nat):Nat→Nat
 | 0=>0
 | k+1=>cntP l p k+(if partI (nthI l k)<p then 1 else 0)
theorem cntP_all {l:List InstT} {p:Nat}:∀ {k:Nat},(∀ i,i<k→partI (nthI l i)<p)→cntP l p k=k
 | 0,_=>rfl
 | k+1,h=>by rw [cntP,cntP_all (fun i hi=>h i (by omega)),if_pos (h k (by omega))]
theorem cntP_more {l:List InstT} {p k:Nat} (h:(p:Int)≤partI (nthI l k)):cntP l p (k+1)=cntP l p k:=by rw [cntP,if_neg (by omega)];rfl
theorem cntP_le (l:List InstT) (p:Nat):∀ k,cntP l p k≤k
 | 0=>Nat.le_refl _
 | k+1=>by have:=cntP_le l p k;rw [cntP];split <;> omega
structure FrM (l : List InstT) (ps : Nat → Int) (j k : Nat) : Prop where
  le : k ≤ l.length
  ok : okTo l k
  parts : ∀ i, i < k → partI (nthI l i) ≤ j
  one : j = 1 → ∀ i, i < k → partI (nthI l i) < 1
  models : 2 ≤ j → modelsN l k ≠ 0
  stuck : partAt l k < j → k < l.length ∧ mayL l k = false
  spans : ∀ i, i ≤ 2 * j → ps i = cntP l ((i + 1) / 2) k
structure FrO (l : List InstT) (ps : Nat → Int) (j k : Nat) : Prop where
  le : k ≤ l.length
  ok : okTo l k
  parts : ∀ i, i < k → partI (nthI l i) < j
  models : 2 ≤ j → modelsN l k ≠ 0
  stuck : partAt l k < j → k < l.length ∧ mayL l k = false
  spans : ∀ i, i < 2 * j → ps i = cntP l ((i + 1) / 2) k
theorem FrO.start (l:List InstT) (ps:Nat→Int):FrO l ps 0 0:=⟨Nat.zero_le _,okTo_zero l,fun i hi=>by omega,fun h=>by omega,fun h=>by have:=partAt_small l 0;omega,fun i hi=>by omega⟩
theorem FrO.more {l:List InstT} {ps:Nat→Int} {j k:Nat} (h:FrO l ps j k):FrM l (fun i=>if i=2 * j then (k:Int) else ps i) j k:=by
 refine⟨h.le,h.ok,fun i hi=>by have:=h.parts i hi;omega,fun e i hi=>by have:=h.parts i hi;omega,h.models,h.stuck,fun i hi=>?_⟩
 by_cases e:i=2 * j
 ·simp only [e,if_true]
  rw [show (2 * j+1) / 2=j by omega,cntP_all h.parts]
 ·simp only [e,if_false]
  exact h.spans i (by omega)
theorem FrM.may {l:List InstT} {ps:Nat→Int} {j k:Nat} (h:FrM l ps j k) (hj:j<8) (hp:partAt l k=j):k<l.length∧mayL l k=true:=by
 have hk:k<l.length:=by
  rcases Nat.lt_or_ge k l.length with h1 | h1
  ·exact h1
  ·rw [partAt_end h1] at hp;omega
 rw [partAt_lt hk] at hp
 refine⟨hk,mayL_low hp (by omega) h.parts (fun e=>modelsN_none fun i hi=>?_) (fun e=>h.models (by omega))⟩
 have:=h.one (by omega) i hi;omega
theorem FrM.step {l:List InstT} {ps:Nat→Int} {j k:Nat} (h:FrM l ps j k) (hj:j<8) (h1:j≠1) (hp:partAt l k=j):FrM l ps j (k+1):=by
 obtain⟨hk,hm⟩:=h.may hj hp
 have hpi:partI (nthI l k)=j:=by rw [← hp,partAt_lt hk]
 refine⟨hk,h.ok.snoc hm,fun i hi=>?_,fun e=>absurd e h1,fun e=>?_,fun e=>?_,fun i hi=>?_⟩
 ·by_cases e:i=k
  ·rw [e,hpi];exact Int.le_refl _
  ·exact h.parts i (by omega)
 ·have:=h.models e;have:=modelsN_mono (l:=l) (show k≤k+1 by omega);omega
 ·rcases Nat.lt_or_ge (k+1) l.length with hl | hl
  ·rw [partAt_lt hl] at e
   exact⟨hl,mayL_over (i:=k) (by omega) (by omega)⟩
  ·rw [partAt_end hl] at e;omega
 ·rw [cntP_more (by rw [hpi];omega)];exact h.spans i hi
theorem FrM.stepModel {l:List InstT} {ps:Nat→Int} {k:Nat} (h:FrM l ps 1 k) (hp:partAt l k=1):FrO l (fun i=>if i=3 then ((k+1:Nat):Int) else ps i) 2 (k+1):=by
 obtain⟨hk,hm⟩:=h.may (by omega) hp
 have hpi:partI (nthI l k)=1:=by rw [← partAt_lt hk];exact hp
 have hmo:modelsN l (k+1)≠0:=by rw [modelsN,if_pos hpi];omega
 have hparts:∀ i,i<k+1→partI (nthI l i)<((2:Nat):Int):=fun i hi=>by
  by_cases e:i=k
  ·rw [e,hpi];omega
  ·have:=h.parts i (by omega);omega
 refine⟨hk,h.ok.snoc hm,hparts,fun _=>hmo,fun e=>?_,fun i hi=>?_⟩
 ·rcases Nat.lt_or_ge (k+1) l.length with hl | hl
  ·rw [partAt_lt hl] at e
   refine⟨hl,?_⟩
   by_cases e1:partI (nthI l (k+1))=1
   ·exact mayL_twoModels e1 hmo
   ·exact mayL_over (i:=k) (by omega) (by omega)
  ·rw [partAt_end hl] at e;omega
 ·by_cases e:i=3
  ·simp only [e,if_true];rw [cntP_all (by simpa using hparts)]
  ·simp only [e,if_false]
   rw [cntP_more (by rw [hpi];omega)];exact h.spans i (by omega)
theorem FrM.close {l:List InstT} {ps:Nat→Int} {j k:Nat} (h:FrM l ps j k) (h1:j≠1) (hp:partAt l k≠j):FrO l (fun i=>if i=2 * j+1 then (k:Int) else ps i) (j+1) k:=by
 have hparts:∀ i,i<k→partI (nthI l i)<((j+1:Nat):Int):=fun i hi=>by have:=h.parts i hi;omega
 refine⟨h.le,h.ok,hparts,fun e=>h.models (by omega),fun e=>h.stuck (by omega),fun i hi=>?_⟩
 by_cases e:i=2 * j+1
 ·simp only [e,if_true];rw [show (2 * j+1+1) / 2=j+1 by omega,cntP_all hparts]
 ·simp only [e,if_false];exact h.spans i (by omega)
def wrongAt (l:List InstT) (k:Nat):Prop:=okTo l k∧(k<l.length∧mayL l k=false∨k=l.length∧(modelsN l k=0∨aheadO l k≠0∧aheadO l k≠56))
theorem FrM.noModel {l:List InstT} {ps:Nat→Int} {k:Nat} (h:FrM l ps 1 k) (hp:partAt l k≠1):wrongAt l k:=by
 have hm:modelsN l k=0:=modelsN_none fun i hi=>by have:=h.one rfl i hi;omega
 refine⟨h.ok,?_⟩
 rcases Nat.lt_or_ge k l.length with hl | hl
 ·refine .inl ⟨hl,?_⟩
  by_cases e:partAt l k<(1:Nat)
  ·exact (h.stuck e).2
  ·rw [partAt_lt hl] at hp e
   exact mayL_noModel (by omega) hm
 ·exact .inr ⟨by have:=h.le;omega,.inl hm⟩
abbrev FuncT:=Int×Int×List Int×List (Int×Int×Int)×Int
def onLast (fs:List FuncT) (g:FuncT→FuncT):List FuncT:=match fs.getLast? with
 | none=>[]
 | some f=>fs.dropLast++[g f]
theorem onLast_snoc (fs:List FuncT) (f:FuncT) (g:FuncT→FuncT):onLast (fs++[f]) g=fs++[g f]:=by simp [onLast]
def withParam (k:Int) (f:FuncT):FuncT:=(f.1,f.2.1,f.2.2.1++[k],f.2.2.2.1,f.2.2.2.2)
def withBlock (lab k:Int) (f:FuncT):FuncT:=(f.1,f.2.1,f.2.2.1,f.2.2.2.1++[(lab,k,0)],f.2.2.2.2)
def withEnd (k:Int) (f:FuncT):FuncT:=(f.1,f.2.1,f.2.2.1,f.2.2.2.1,k)
def endLast (bs:List (Int×Int×Int)) (k:Int):List (Int×Int×Int):=match bs.getLast? with
 | none=>[]
 | some b=>bs.dropLast++[(b.1,b.2.1,k)]
theorem endLast_snoc (bs:List (Int×Int×Int)) (b:Int×Int×Int) (k:Int):endLast (bs++[b]) k=bs++[(b.1,b.2.1,k)]:=by simp [endLast]
def withTo (k:Int) (f:FuncT):FuncT:=(f.1,f.2.1,f.2.2.1,endLast f.2.2.2.1 k,f.2.2.2.2)
def stepC (fs:List FuncT) (x:InstT) (k:Nat):List FuncT :=
 if x.1=54 then fs++[(x.2.2.1,(k:Int),[],[],0)]
 else if x.1=55 then onLast fs (withParam k)
 else if x.1=56 then onLast fs (withEnd k)
 else if x.1=248 then onLast fs (withBlock x.2.2.1 k)
 else if endsB x.1 then onLast fs (withTo ((k+1:Nat):Int))
 else fs
def cutTo (l:List InstT):Nat→List FuncT
 | 0=>[]
 | k+1=>stepC (cutTo l k) (nthI l k) k
theorem part_of_function {x:InstT} (h:x.1=54∨x.1=55∨x.1=56∨x.1=248∨endsB x.1=true):partI x=8:=by
 have h59:x.1≠59:=by
  rcases h with h | h | h | h | h
  ·omega
  ·omega
  ·omega
  ·omega
  ·unfold endsB at h;simp at h;omega
 unfold partI
 rw [if_neg (fun e=>h59 e.1)]
 have key:∀ op:Int,op=54∨op=55∨op=56∨op=248∨op=249∨op=250∨op=251∨op=252∨op=253∨op=254∨op=255→partO op=8:=by
  intro op ho
  rcases ho with e | e | e | e | e | e | e | e | e | e | e <;> subst e <;> decide +kernel
 refine key _ ?_
 rcases h with h | h | h | h | h
 ·omega
 ·omega
 ·omega
 ·omega
 ·unfold endsB at h;simp at h;omega
theorem partO_zero:partO 0≠8:=by decide +kernel
theorem stepC_other {fs:List FuncT} {x:InstT} {k:Nat} (h1:x.1≠54) (h2:x.1≠55) (h3:x.1≠56) (h4:x.1≠248) (h5:endsB x.1=false):stepC fs x k=fs:=by
 unfold stepC;rw [if_neg h1,if_neg h2,if_neg h3,if_neg h4,h5];rfl
theorem cutTo_front {l:List InstT}:∀ {k:Nat},(∀ i,i<k→partI (nthI l i)<8)→cutTo l k=[]
 | 0,_=>rfl
 | k+1,h=>by
  have hp:=h k (by omega)
  have no:∀ {q:Prop},(q→partI (nthI l k)=8)→¬ q:=fun hq h1=>by have:=hq h1;omega
  rw [cutTo,cutTo_front (fun i hi=>h i (by omega))]
  exact stepC_other (no fun e=>part_of_function (.inl e)) (no fun e=>part_of_function (.inr (.inl e))) (no fun e=>part_of_function (.inr (.inr (.inl e)))) (no fun e=>part_of_function (.inr (.inr (.inr (.inl e))))) (by
   cases he:endsB (nthI l k).1 with
   | false=>rfl
   | true=>have:=part_of_function (x:=nthI l k) (.inr (.inr (.inr (.inr he))));omega)
structure Fc (l : List InstT) (k : Nat) : Prop where
  le : k ≤ l.length
  ok : okTo l k
  parts : ∀ i, i < k → partI (nthI l i) ≤ 8
  models : modelsN l k ≠ 0
  stuck : partAt l k < 8 → k < l.length ∧ mayL l k = false
theorem kind_part {l:List InstT} {k:Nat} (h:kindAt l k≠0):k<l.length∧partI (nthI l k)=8∧kindAt l k=kindOp (nthI l k).1:=by
 unfold kindAt kindX at *
 split at h
 ·next hk =>
  split at h
  ·next h8=>rw [if_pos hk,if_pos h8];exact⟨hk,h8,rfl⟩
  ·exact absurd rfl h
 ·exact absurd rfl h
theorem kindAt_eight {l:List InstT} {k:Nat} (hk:k<l.length) (h:partI (nthI l k)=8):kindAt l k=kindOp (nthI l k).1:=by
 unfold kindAt kindX;rw [if_pos hk,if_pos h]
theorem Fc.next {l:List InstT} {k:Nat} (h:Fc l k) (hk:k<l.length) (h8:partI (nthI l k)=8) (hm:mayF (nthI l k).1 (aheadO l k) (firstB l (k - 1))=true):Fc l (k+1)∧aheadO l (k+1)=(nthI l k).1:=by
 refine⟨⟨hk,h.ok.snoc ((mayL_eight h8 h.parts h.models).trans hm),fun i hi=>?_,?_,fun e=>?_⟩,?_⟩
 ·by_cases e:i=k
  ·rw [e,h8];exact Int.le_refl _
  ·exact h.parts i (by omega)
 ·have:=h.models;have:=modelsN_mono (l:=l) (show k≤k+1 by omega);omega
 ·rcases Nat.lt_or_ge (k+1) l.length with hl | hl
  ·rw [partAt_lt hl] at e
   exact⟨hl,mayL_over (i:=k) (by omega) (by omega)⟩
  ·rw [partAt_end hl] at e;omega
 ·unfold aheadO;rw [if_pos ⟨by omega,h8⟩,Nat.add_sub_cancel]
theorem Fc.fail {l:List InstT} {k:Nat} (h:Fc l k) (hm:k<l.length→partI (nthI l k)=8→mayF (nthI l k).1 (aheadO l k) (firstB l (k - 1))=false) (ha:aheadO l k≠0∧aheadO l k≠56∨partAt l k≠9):wrongAt l k:=by
 refine⟨h.ok,?_⟩
 rcases Nat.lt_or_ge k l.length with hl | hl
 ·refine .inl ⟨hl,?_⟩
  by_cases e:partAt l k<8
  ·exact (h.stuck e).2
  ·rw [partAt_lt hl] at e
   have:=partI_eight (nthI l k)
   have h8:partI (nthI l k)=8:=by omega
   rw [mayL_eight h8 h.parts h.models]
   exact hm hl h8
 ·refine .inr ⟨by have:=h.le;omega,.inr ?_⟩
  rcases ha with ha | ha
  ·exact ha
  ·exact absurd (partAt_end hl) ha
theorem firstB_label {l:List InstT} {k:Nat} (hk:1≤k) (h:(nthI l k).1=248):firstB l k=decide ((nthI l (k - 1)).1=54∨(nthI l (k - 1)).1=55)∧blockAt l k=k:=by
 obtain⟨j,rfl⟩:∃ j,k=j+1:=⟨k - 1,by omega⟩
 have:blockAt l (j+1)=j+1:=by rw [blockAt,if_pos h]
 unfold firstB
 rw [this]
 exact⟨rfl,rfl⟩
theorem firstB_other {l:List InstT} {k:Nat} (hk:1≤k) (h:(nthI l k).1≠248):firstB l k=firstB l (k - 1)∧blockAt l k=blockAt l (k - 1):=by
 obtain⟨j,rfl⟩:∃ j,k=j+1:=⟨k - 1,by omega⟩
 have:blockAt l (j+1)=blockAt l j:=by rw [blockAt,if_neg h]
 unfold firstB
 rw [this]
 exact⟨rfl,rfl⟩
theorem endsB_iff {op:Int}:endsB op=true↔249≤op∧op≤255:=by unfold endsB;simp
theorem endsB_false {op:Int}:endsB op=false↔¬ (249≤op∧op≤255):=by rw [← endsB_iff,Bool.not_eq_true]
theorem ends_cases {op:Int} (h:249≤op∧op≤255):op=249∨op=250∨op=251∨op=252∨op=253∨op=254∨op=255:=by omega
theorem kindOp_table (op:Int):(op=54∧kindOp op=1)∨(op=55∧kindOp op=2)∨(op=56∧kindOp op=4)∨(op=248∧kindOp op=8)∨(op=59∧kindOp op=16)∨(op=245∧kindOp op=32)∨(op=247∧kindOp op=128)∨(op=246∧kindOp op=256)∨(op=250∧kindOp op=3584)∨(op=249∧kindOp op=2560)∨(op=252∧kindOp op=512)∨(op=253∧kindOp op=512)∨(op=254∧kindOp op=512)∨(op=255∧kindOp op=512)∨(op=251∧kindOp op=1536)∨(op≠54∧op≠55∧op≠56∧op≠248∧op≠59∧op≠245∧op≠247∧op≠246∧op≠250∧op≠249∧op≠252∧op≠253∧op≠254∧op≠255∧op≠251∧kindOp op=64):=by
 by_cases h54:op=54
 ·subst h54;exact .inl ⟨rfl,by decide +kernel⟩
 by_cases h55:op=55
 ·subst h55;exact .inr (.inl ⟨rfl,by decide +kernel⟩)
 by_cases h56:op=56
 ·subst h56;exact .inr (.inr (.inl ⟨rfl,by decide +kernel⟩))
 by_cases h248:op=248
 ·subst h248;exact .inr (.inr (.inr (.inl ⟨rfl,by decide +kernel⟩)))
 by_cases h59:op=59
 ·subst h59;exact .inr (.inr (.inr (.inr (.inl ⟨rfl,by decide +kernel⟩))))
 by_cases h245:op=245
 ·subst h245;exact .inr (.inr (.inr (.inr (.inr (.inl ⟨rfl,by decide +kernel⟩)))))
 by_cases h247:op=247
 ·subst h247;exact .inr (.inr (.inr (.inr (.inr (.inr (.inl ⟨rfl,by decide +kernel⟩))))))
 by_cases h246:op=246
 ·subst h246;exact .inr (.inr (.inr (.inr (.inr (.inr (.inr (.inl ⟨rfl,by decide +kernel⟩)))))))
 by_cases h250:op=250
 ·subst h250;exact .inr (.inr (.inr (.inr (.inr (.inr (.inr (.inr (.inl ⟨rfl,by decide +kernel⟩))))))))
 by_cases h249:op=249
 ·subst h249;exact .inr (.inr (.inr (.inr (.inr (.inr (.inr (.inr (.inr (.inl ⟨rfl,by decide +kernel⟩)))))))))
 by_cases h252:op=252
 ·subst h252;exact .inr (.inr (.inr (.inr (.inr (.inr (.inr (.inr (.inr (.inr (.inl ⟨rfl,by decide +kernel⟩))))))))))
 by_cases h253:op=253
 ·subst h253;exact .inr (.inr (.inr (.inr (.inr (.inr (.inr (.inr (.inr (.inr (.inr (.inl ⟨rfl,by decide +kernel⟩)))))))))))
 by_cases h254:op=254
 ·subst h254;exact .inr (.inr (.inr (.inr (.inr (.inr (.inr (.inr (.inr (.inr (.inr (.inr (.inl ⟨rfl,by decide +kernel⟩))))))))))))
 by_cases h255:op=255
 ·subst h255;exact .inr (.inr (.inr (.inr (.inr (.inr (.inr (.inr (.inr (.inr (.inr (.inr (.inr (.inl ⟨rfl,by decide +kernel⟩)))))))))))))
 by_cases h251:op=251
 ·subst h251;exact .inr (.inr (.inr (.inr (.inr (.inr (.inr (.inr (.inr (.inr (.inr (.inr (.inr (.inr (.inl ⟨rfl,by decide +kernel⟩))))))))))))))
 have e:kindOp op=64:=by
  unfold kindOp
  simp [h54,h55,h56,h248,h59,h245,h247,h246,h250,h249,h252,h253,h254,h255,h251]
 exact .inr (.inr (.inr (.inr (.inr (.inr (.inr (.inr (.inr (.inr (.inr (.inr (.inr (.inr (.inr (⟨h54,h55,h56,h248,h59,h245,h247,h246,h250,h249,h252,h253,h254,h255,h251,e⟩)))))))))))))))
theorem kindOp_one {op:Int}:kindOp op=1↔op=54:=by
 constructor
 ·intro h
  rcases kindOp_table op with ⟨e,q⟩ | ⟨e,q⟩ | ⟨e,q⟩ | ⟨e,q⟩ | ⟨e,q⟩ | ⟨e,q⟩ | ⟨e,q⟩ | ⟨e,q⟩ | ⟨e,q⟩ | ⟨e,q⟩ | ⟨e,q⟩ | ⟨e,q⟩ | ⟨e,q⟩ | ⟨e,q⟩ | ⟨e,q⟩ | ⟨n54,n55,n56,n248,n59,n245,n247,n246,n250,n249,n252,n253,n254,n255,n251,q⟩ <;> first | exact e | (rw [q] at h;exact absurd h (by decide))
 ·intro h;subst h;decide +kernel
theorem kindOp_two {op:Int}:kindOp op=2↔op=55:=by
 constructor
 ·intro h
  rcases kindOp_table op with ⟨e,q⟩ | ⟨e,q⟩ | ⟨e,q⟩ | ⟨e,q⟩ | ⟨e,q⟩ | ⟨e,q⟩ | ⟨e,q⟩ | ⟨e,q⟩ | ⟨e,q⟩ | ⟨e,q⟩ | ⟨e,q⟩ | ⟨e,q⟩ | ⟨e,q⟩ | ⟨e,q⟩ | ⟨e,q⟩ | ⟨n54,n55,n56,n248,n59,n245,n247,n246,n250,n249,n252,n253,n254,n255,n251,q⟩ <;> first | exact e | (rw [q] at h;exact absurd h (by decide))
 ·intro h;subst h;decide +kernel
theorem kindOp_four {op:Int}:kindOp op=4↔op=56:=by
 constructor
 ·intro h
  rcases kindOp_table op with ⟨e,q⟩ | ⟨e,q⟩ | ⟨e,q⟩ | ⟨e,q⟩ | ⟨e,q⟩ | ⟨e,q⟩ | ⟨e,q⟩ | ⟨e,q⟩ | ⟨e,q⟩ | ⟨e,q⟩ | ⟨e,q⟩ | ⟨e,q⟩ | ⟨e,q⟩ | ⟨e,q⟩ | ⟨e,q⟩ | ⟨n54,n55,n56,n248,n59,n245,n247,n246,n250,n249,n252,n253,n254,n255,n251,q⟩ <;> first | exact e | (rw [q] at h;exact absurd h (by decide))
 ·intro h;subst h;decide +kernel
theorem kindOp_eight {op:Int}:kindOp op=8↔op=248:=by
 constructor
 ·intro h
  rcases kindOp_table op with ⟨e,q⟩ | ⟨e,q⟩ | ⟨e,q⟩ | ⟨e,q⟩ | ⟨e,q⟩ | ⟨e,q⟩ | ⟨e,q⟩ | ⟨e,q⟩ | ⟨e,q⟩ | ⟨e,q⟩ | ⟨e,q⟩ | ⟨e,q⟩ | ⟨e,q⟩ | ⟨e,q⟩ | ⟨e,q⟩ | ⟨n54,n55,n56,n248,n59,n245,n247,n246,n250,n249,n252,n253,n254,n255,n251,q⟩ <;> first | exact e | (rw [q] at h;exact absurd h (by decide))
 ·intro h;subst h;decide +kernel
theorem kindOp_16 {op:Int}:kindOp op=16↔op=59:=by
 constructor
 ·intro h
  rcases kindOp_table op with ⟨e,q⟩ | ⟨e,q⟩ | ⟨e,q⟩ | ⟨e,q⟩ | ⟨e,q⟩ | ⟨e,q⟩ | ⟨e,q⟩ | ⟨e,q⟩ | ⟨e,q⟩ | ⟨e,q⟩ | ⟨e,q⟩ | ⟨e,q⟩ | ⟨e,q⟩ | ⟨e,q⟩ | ⟨e,q⟩ | ⟨n54,n55,n56,n248,n59,n245,n247,n246,n250,n249,n252,n253,n254,n255,n251,q⟩ <;> first | exact e | (rw [q] at h;exact absurd h (by decide))
 ·intro h;subst h;decide +kernel
theorem kindOp_32 {op:Int}:kindOp op=32↔op=245:=by
 constructor
 ·intro h
  rcases kindOp_table op with ⟨e,q⟩ | ⟨e,q⟩ | ⟨e,q⟩ | ⟨e,q⟩ | ⟨e,q⟩ | ⟨e,q⟩ | ⟨e,q⟩ | ⟨e,q⟩ | ⟨e,q⟩ | ⟨e,q⟩ | ⟨e,q⟩ | ⟨e,q⟩ | ⟨e,q⟩ | ⟨e,q⟩ | ⟨e,q⟩ | ⟨n54,n55,n56,n248,n59,n245,n247,n246,n250,n249,n252,n253,n254,n255,n251,q⟩ <;> first | exact e | (rw [q] at h;exact absurd h (by decide))
 ·intro h;subst h;decide +kernel
theorem kindOp_128 {op:Int}:kindOp op=128↔op=247:=by
 constructor
 ·intro h
  rcases kindOp_table op with ⟨e,q⟩ | ⟨e,q⟩ | ⟨e,q⟩ | ⟨e,q⟩ | ⟨e,q⟩ | ⟨e,q⟩ | ⟨e,q⟩ | ⟨e,q⟩ | ⟨e,q⟩ | ⟨e,q⟩ | ⟨e,q⟩ | ⟨e,q⟩ | ⟨e,q⟩ | ⟨e,q⟩ | ⟨e,q⟩ | ⟨n54,n55,n56,n248,n59,n245,n247,n246,n250,n249,n252,n253,n254,n255,n251,q⟩ <;> first | exact e | (rw [q] at h;exact absurd h (by decide))
 ·intro h;subst h;decide +kernel
theorem kindOp_256 {op:Int}:kindOp op=256↔op=246:=by
 constructor
 ·intro h
  rcases kindOp_table op with ⟨e,q⟩ | ⟨e,q⟩ | ⟨e,q⟩ | ⟨e,q⟩ | ⟨e,q⟩ | ⟨e,q⟩ | ⟨e,q⟩ | ⟨e,q⟩ | ⟨e,q⟩ | ⟨e,q⟩ | ⟨e,q⟩ | ⟨e,q⟩ | ⟨e,q⟩ | ⟨e,q⟩ | ⟨e,q⟩ | ⟨n54,n55,n56,n248,n59,n245,n247,n246,n250,n249,n252,n253,n254,n255,n251,q⟩ <;> first | exact e | (rw [q] at h;exact absurd h (by decide))
 ·intro h;subst h;decide +kernel
theorem kindOp_64 {op:Int}:kindOp op=64↔op≠54∧op≠55∧op≠56∧op≠248∧op≠59∧op≠245∧op≠247∧op≠246∧¬ (249≤op∧op≤255):=by
 constructor
 ·intro h
  rcases kindOp_table op with ⟨e,q⟩ | ⟨e,q⟩ | ⟨e,q⟩ | ⟨e,q⟩ | ⟨e,q⟩ | ⟨e,q⟩ | ⟨e,q⟩ | ⟨e,q⟩ | ⟨e,q⟩ | ⟨e,q⟩ | ⟨e,q⟩ | ⟨e,q⟩ | ⟨e,q⟩ | ⟨e,q⟩ | ⟨e,q⟩ | ⟨n54,n55,n56,n248,n59,n245,n247,n246,n250,n249,n252,n253,n254,n255,n251,q⟩ <;> first | (refine⟨n54,n55,n56,n248,n59,n245,n247,n246,fun hr=>?_⟩;rcases ends_cases hr with e | e | e | e | e | e | e <;> first | exact n249 e | exact n250 e | exact n251 e | exact n252 e | exact n253 e | exact n254 e | exact n255 e) | (rw [q] at h;exact absurd h (by decide))
 ·rintro⟨h1,h2,h3,h4,h5,h6,h7,h8,h9⟩
  rcases kindOp_table op with ⟨e,q⟩ | ⟨e,q⟩ | ⟨e,q⟩ | ⟨e,q⟩ | ⟨e,q⟩ | ⟨e,q⟩ | ⟨e,q⟩ | ⟨e,q⟩ | ⟨e,q⟩ | ⟨e,q⟩ | ⟨e,q⟩ | ⟨e,q⟩ | ⟨e,q⟩ | ⟨e,q⟩ | ⟨e,q⟩ | ⟨n54,n55,n56,n248,n59,n245,n247,n246,n250,n249,n252,n253,n254,n255,n251,q⟩ <;> first | exact q | contradiction | (exact absurd (by rw [e];decide) h9)
theorem kind_sel (op:Int):(bits .and .u16 (kindOp op) 1024==0)=!(op==250 || op==251):=by
 rcases kindOp_table op with ⟨e,q⟩ | ⟨e,q⟩ | ⟨e,q⟩ | ⟨e,q⟩ | ⟨e,q⟩ | ⟨e,q⟩ | ⟨e,q⟩ | ⟨e,q⟩ | ⟨e,q⟩ | ⟨e,q⟩ | ⟨e,q⟩ | ⟨e,q⟩ | ⟨e,q⟩ | ⟨e,q⟩ | ⟨e,q⟩ | ⟨n54,n55,n56,n248,n59,n245,n247,n246,n250,n249,n252,n253,n254,n255,n251,q⟩ <;> rw [q] <;> first | (rw [e];decide +kernel) | (rw [show (op==250)=false by simpa using n250,show (op==251)=false by simpa using n251];decide +kernel)
theorem kind_loop (op:Int):(bits .and .u16 (kindOp op) 2048==0)=!(op==249 || op==250):=by
 rcases kindOp_table op with ⟨e,q⟩ | ⟨e,q⟩ | ⟨e,q⟩ | ⟨e,q⟩ | ⟨e,q⟩ | ⟨e,q⟩ | ⟨e,q⟩ | ⟨e,q⟩ | ⟨e,q⟩ | ⟨e,q⟩ | ⟨e,q⟩ | ⟨e,q⟩ | ⟨e,q⟩ | ⟨e,q⟩ | ⟨e,q⟩ | ⟨n54,n55,n56,n248,n59,n245,n247,n246,n250,n249,n252,n253,n254,n255,n251,q⟩ <;> rw [q] <;> first | (rw [e];decide +kernel) | (rw [show (op==249)=false by simpa using n249,show (op==250)=false by simpa using n250];decide +kernel)
theorem kind_none:(bits .and .u16 0 512==0)=true∧(bits .and .u16 0 1024==0)=true∧(bits .and .u16 0 2048==0)=true:=by decide +kernel
theorem cutTo_small (l:List InstT):∀ k,(cutTo l k).length≤k∧∀ f∈cutTo l k,f.2.2.1.length≤k∧f.2.2.2.1.length≤k
 | 0=>⟨Nat.le_refl _,fun f hf=>by cases hf⟩
 | k+1=>by
  obtain⟨h1,h2⟩:=cutTo_small l k
  have last:∀ g:FuncT→FuncT,(∀ f,(g f).2.2.1.length≤f.2.2.1.length+1∧(g f).2.2.2.1.length≤f.2.2.2.1.length+1)→(onLast (cutTo l k) g).length≤k+1∧∀ f∈onLast (cutTo l k) g,f.2.2.1.length≤k+1∧f.2.2.2.1.length≤k+1:=by
   intro g hg
   generalize hfs:cutTo l k=fs at *
   rcases List.eq_nil_or_concat fs with e | ⟨fs',f,e⟩
   ·subst e;simp [onLast]
   ·rw [List.concat_eq_append] at e
    subst e
    rw [onLast_snoc]
    refine⟨by simp at h1 ⊢;omega,fun f' hf=>?_⟩
    rcases List.mem_append.1 hf with hf | hf
    ·have:=h2 f' (List.mem_append.2 (.inl hf));omega
    ·rw [List.mem_singleton] at hf
     subst hf
     have:=h2 f (by simp)
     have:=hg f
     omega
  rw [cutTo]
  unfold stepC
  split
  ·refine⟨by simp;omega,fun f hf=>?_⟩
   rcases List.mem_append.1 hf with hf | hf
   ·have:=h2 f hf;omega
   ·rw [List.mem_singleton] at hf;subst hf;simp
  ·split
   ·exact last _ (fun f=>by simp [withParam])
   ·split
    ·exact last _ (fun f=>by simp [withEnd])
    ·split
     ·exact last _ (fun f=>by simp [withBlock])
     ·split
      ·refine last _ (fun f=>?_)
       have:(endLast f.2.2.2.1 ((k+1:Nat):Int)).length≤f.2.2.2.1.length:=by
        generalize f.2.2.2.1=bs
        rcases List.eq_nil_or_concat bs with e | ⟨bs',b,e⟩
        ·subst e;simp [endLast]
        ·rw [List.concat_eq_append] at e;subst e;rw [endLast_snoc];simp
       simp only [withTo]
       omega
      ·exact⟨by omega,fun f hf=>by have:=h2 f hf;omega⟩
theorem cutTo_last {l:List InstT} {k:Nat} {fs:List FuncT} {f:FuncT} (h:cutTo l k=fs++[f]):fs.length<k∧f.2.2.1.length≤k∧f.2.2.2.1.length≤k:=by
 obtain⟨h1,h2⟩:=cutTo_small l k
 rw [h] at h1 h2
 have:=h2 f (by simp)
 simp at h1
 omega
def SpansF (l:List InstT) (ps:Nat→Int) (k:Nat):Prop:=∀ i,i≤16→ps i=cntP l ((i+1) / 2) k
theorem SpansF.next {l:List InstT} {ps:Nat→Int} {k:Nat} (h:SpansF l ps k) (h8:partI (nthI l k)=8):SpansF l ps (k+1):=fun i hi=>by
 rw [cntP_more (by rw [h8];omega)];exact h i hi
def AtOut (l:List InstT) (k:Nat):Prop:=Fc l k∧(aheadO l k=0∨aheadO l k=56)
def AtPar (l:List InstT) (k:Nat):Prop:=Fc l k∧(aheadO l k=54∨aheadO l k=55)∧∃ fs f,cutTo l k=fs++[f]
def AtBlk (l:List InstT) (k:Nat) (head:Int):Prop:=Fc l k∧kindAt l k=8∧((aheadO l k=54∨aheadO l k=55)∧head=16∨endsB (aheadO l k)=true∧head=32)∧∃ fs f,cutTo l k=fs++[f]
def AtHds (l:List InstT) (k:Nat) (head:Int):Prop:=Fc l k∧(head=16∧(aheadO l k=248∨aheadO l k=59)∧firstB l (k - 1)=true∨head=32∧(aheadO l k=248∨aheadO l k=245)∧firstB l (k - 1)=false)∧∃ fs f bs b,cutTo l k=fs++[f]∧f.2.2.2.1=bs++[b]
def inBlk (ah:Int):Prop:=ah≠0∧ah≠54∧ah≠55∧ah≠56∧ah≠246∧ah≠247∧¬ (249≤ah∧ah≤255)
def AtBody (l:List InstT) (k:Nat):Prop:=Fc l k∧inBlk (aheadO l k)∧(k<l.length→partI (nthI l k)=8→(nthI l k).1=59∨(nthI l k).1=245→mayF (nthI l k).1 (aheadO l k) (firstB l (k - 1))=false)∧∃ fs f bs b,cutTo l k=fs++[f]∧f.2.2.2.1=bs++[b]
def AtEnd (l:List InstT) (k:Nat):Prop:=Fc l k∧mayF (nthI l k).1 (aheadO l k) (firstB l (k - 1))=true∧partI (nthI l k)=8∧k<l.length∧endsB (nthI l k).1=true∧∃ fs f bs b,cutTo l k=fs++[f]∧f.2.2.2.1=bs++[b]
def AtAft (l:List InstT) (k:Nat):Prop:=Fc l k∧endsB (aheadO l k)=true∧∃ fs f,cutTo l k=fs++[f]
theorem ahead_at {l:List InstT} {k:Nat} (h:aheadO l k≠0):1≤k∧(nthI l (k - 1)).1=aheadO l k:=by
 unfold aheadO at *
 split at h
 ·next h1=>rw [if_pos h1];exact⟨h1.1,rfl⟩
 ·exact absurd rfl h
theorem AtOut.end {l:List InstT} {k:Nat} (h:AtOut l k) (hp:partAt l k=9):k=l.length∧okTo l k∧modelsN l k≠0∧(aheadO l k=0∨aheadO l k=56) :=
 ⟨by have:=partAt_nine hp;have:=h.1.le;omega,h.1.ok,h.1.models,h.2⟩
theorem AtOut.wrong {l:List InstT} {k:Nat} (h:AtOut l k) (hp:partAt l k≠9) (hk:kindAt l k≠1):wrongAt l k:=by
 refine h.1.fail (fun hl h8=>?_) (.inr hp)
 rw [kindAt_eight hl h8] at hk
 have h54:(nthI l k).1≠54:=fun e=>hk (kindOp_one.2 e)
 rcases h.2 with e | e <;> rw [e] <;> unfold mayF <;> simp [h54,endsB]
theorem AtOut.next {l:List InstT} {k:Nat} (h:AtOut l k) (hk:kindAt l k=1):k<l.length∧partI (nthI l k)=8∧AtPar l (k+1)∧cutTo l (k+1)=cutTo l k++[((nthI l k).2.2.1,(k:Int),[],[],0)]:=by
 obtain⟨hl,h8,e⟩:=kind_part (l:=l) (k:=k) (by omega)
 rw [e] at hk
 have h54:=kindOp_one.1 hk
 have hm:mayF (nthI l k).1 (aheadO l k) (firstB l (k - 1))=true:=by
  rw [h54];unfold mayF;rcases h.2 with e | e <;> rw [e] <;> rfl
 obtain⟨h1,h2⟩:=h.1.next hl h8 hm
 have hc:cutTo l (k+1)=cutTo l k++[((nthI l k).2.2.1,(k:Int),[],[],0)]:=by rw [cutTo];unfold stepC;rw [if_pos h54]
 exact⟨hl,h8,⟨h1,.inl (h2.trans h54),_,_,hc⟩,hc⟩
theorem AtPar.par {l:List InstT} {k:Nat} (h:AtPar l k) (hk:kindAt l k=2):k<l.length∧partI (nthI l k)=8∧AtPar l (k+1)∧∀ fs f,cutTo l k=fs++[f]→cutTo l (k+1)=fs++[withParam k f]:=by
 obtain⟨hl,h8,e⟩:=kind_part (l:=l) (k:=k) (by omega)
 rw [e] at hk
 have h55:=kindOp_two.1 hk
 have hm:mayF (nthI l k).1 (aheadO l k) (firstB l (k - 1))=true:=by
  rw [h55];unfold mayF;rcases h.2.1 with e | e <;> rw [e] <;> rfl
 obtain⟨h1,h2⟩:=h.1.next hl h8 hm
 have hc:∀ fs f,cutTo l k=fs++[f]→cutTo l (k+1)=fs++[withParam k f]:=fun fs f e=>by
  rw [cutTo];unfold stepC;rw [if_neg (by omega),if_pos h55,e,onLast_snoc]
 obtain⟨fs,f,e⟩:=h.2.2
 exact⟨hl,h8,⟨h1,.inr (h2.trans h55),_,_,hc fs f e⟩,hc⟩
theorem AtPar.blk {l:List InstT} {k:Nat} (h:AtPar l k) (hk:kindAt l k=8):AtBlk l k 16:=⟨h.1,hk,.inl ⟨h.2.1,rfl⟩,h.2.2⟩
theorem AtPar.wrong {l:List InstT} {k:Nat} (h:AtPar l k) (h2:kindAt l k≠2) (h3:kindAt l k≠8):wrongAt l k:=by
 have ha:=h.2.1
 refine h.1.fail (fun hl h8=>?_) (.inl (by omega))
 rw [kindAt_eight hl h8] at h2 h3
 have k1:(nthI l k).1≠55:=fun e=>h2 (kindOp_two.2 e)
 have k2:(nthI l k).1≠248:=fun e=>h3 (kindOp_eight.2 e)
 rcases ha with e | e <;> rw [e] <;> unfold mayF <;> simp [k1,k2,endsB]
theorem AtBlk.next {l:List InstT} {k:Nat} {head:Int} (h:AtBlk l k head):k<l.length∧partI (nthI l k)=8∧AtHds l (k+1) head∧∀ fs f,cutTo l k=fs++[f]→cutTo l (k+1)=fs++[withBlock (nthI l k).2.2.1 k f]:=by
 obtain⟨hF,hk,ha,fs0,f0,hcut⟩:=h
 obtain⟨hl,h8,e⟩:=kind_part (l:=l) (k:=k) (by omega)
 rw [e] at hk
 have h248:=kindOp_eight.1 hk
 have hne:aheadO l k≠0:=by
  rcases ha with ⟨ha,_⟩ | ⟨ha,_⟩
  ·omega
  ·have:=endsB_iff.1 ha;omega
 obtain⟨hk1,hah⟩:=ahead_at hne
 have hm:mayF (nthI l k).1 (aheadO l k) (firstB l (k - 1))=true:=by
  rw [h248];unfold mayF
  rcases ha with ⟨ha | ha,_⟩ | ⟨ha,_⟩
  ·rw [ha];rfl
  ·rw [ha];rfl
  ·simp [ha]
 obtain⟨h1,h2⟩:=hF.next hl h8 hm
 have hc:∀ fs f,cutTo l k=fs++[f]→cutTo l (k+1)=fs++[withBlock (nthI l k).2.2.1 k f]:=fun fs f e=>by
  rw [cutTo];unfold stepC;rw [if_neg (by omega),if_neg (by omega),if_neg (by omega),if_pos h248,e,onLast_snoc]
 have hf:=(firstB_label hk1 h248).1
 rw [hah] at hf
 refine⟨hl,h8,⟨h1,?_,_,_,_,_,hc fs0 f0 hcut,rfl⟩,hc⟩
 rw [Nat.add_sub_cancel,h2,h248,hf]
 rcases ha with ⟨ha,e⟩ | ⟨ha,e⟩
 ·exact .inl ⟨e,.inl rfl,by simpa using ha⟩
 ·have:=endsB_iff.1 ha
  exact .inr ⟨e,.inl rfl,by simp;omega⟩
theorem AtHds.next {l:List InstT} {k:Nat} {head:Int} (h:AtHds l k head) (hk:kindAt l k=head):k<l.length∧partI (nthI l k)=8∧AtHds l (k+1) head∧cutTo l (k+1)=cutTo l k:=by
 obtain⟨hF,ha,hcut⟩:=h
 obtain⟨hl,h8,e⟩:=kind_part (l:=l) (k:=k) (by omega)
 rw [e] at hk
 have hne:aheadO l k≠0:=by omega
 obtain⟨hk1,hah⟩:=ahead_at hne
 have hop:(head=16∧(nthI l k).1=59)∨(head=32∧(nthI l k).1=245):=by
  rcases ha with ⟨e1,_⟩ | ⟨e1,_⟩
  ·exact .inl ⟨e1,kindOp_16.1 (by omega)⟩
  ·exact .inr ⟨e1,kindOp_32.1 (by omega)⟩
 have hm:mayF (nthI l k).1 (aheadO l k) (firstB l (k - 1))=true:=by
  rcases ha with ⟨e1,ha,hf⟩ | ⟨e1,ha,hf⟩
  ·have h59:(nthI l k).1=59:=by omega
   rw [h59,hf];unfold mayF;rcases ha with ha | ha <;> rw [ha] <;> rfl
  ·have h245:(nthI l k).1=245:=by omega
   rw [h245,hf];unfold mayF;rcases ha with ha | ha <;> rw [ha] <;> rfl
 obtain⟨h1,h2⟩:=hF.next hl h8 hm
 have hc:cutTo l (k+1)=cutTo l k:=by
  rw [cutTo]
  refine stepC_other (by omega) (by omega) (by omega) (by omega) ?_
  unfold endsB;simp;omega
 have hf:=(firstB_other hk1 (show (nthI l k).1≠248 by omega)).1
 refine⟨hl,h8,⟨h1,?_,by rw [hc];exact hcut⟩,hc⟩
 rw [Nat.add_sub_cancel,h2,hf]
 rcases ha with ⟨e1,_,hf⟩ | ⟨e1,_,hf⟩
 ·exact .inl ⟨e1,.inr (by omega),hf⟩
 ·exact .inr ⟨e1,.inr (by omega),hf⟩
theorem AtHds.body {l:List InstT} {k:Nat} {head:Int} (h:AtHds l k head) (hk:kindAt l k≠head):AtBody l k:=by
 obtain⟨hF,ha,hcut⟩:=h
 refine⟨hF,by unfold inBlk;omega,fun hl h8 ho=>?_,hcut⟩
 rw [kindAt_eight hl h8] at hk
 rcases ha with ⟨e1,ha,hf⟩ | ⟨e1,ha,hf⟩
 ·have h59:(nthI l k).1≠59:=fun e=>hk (by rw [e1];exact kindOp_16.2 e)
  have h245:(nthI l k).1=245:=by omega
  rw [h245,hf];unfold mayF;rcases ha with ha | ha <;> rw [ha] <;> rfl
 ·have h245:(nthI l k).1≠245:=fun e=>hk (by rw [e1];exact kindOp_32.2 e)
  have h59:(nthI l k).1=59:=by omega
  rw [h59,hf];unfold mayF;rcases ha with ha | ha <;> rw [ha] <;> rfl
theorem mayF_in {op ah:Int} {fs:Bool} (h:inBlk ah) (h1:op≠54) (h2:op≠55) (h3:op≠56) (h4:op≠248) (h5:op≠59) (h6:op≠245):mayF op ah fs=true:=by
 obtain⟨a0,a1,a2,a3,a4,a5,a6⟩:=h
 have he:endsB ah=false:=endsB_false.2 a6
 unfold mayF
 simp [h1,h2,h3,h4,h5,h6,a0,a1,a2,a3,a4,a5,he]
theorem mayF_out {op ah:Int} {fs:Bool} (h:inBlk ah) (h1:op=54∨op=55∨op=56∨op=248):mayF op ah fs=false:=by
 obtain⟨a0,a1,a2,a3,a4,a5,a6⟩:=h
 have he:endsB ah=false:=endsB_false.2 a6
 unfold mayF
 rcases h1 with e | e | e | e <;> subst e <;> simp [a0,a1,a2,a3,he]
theorem op_ne_zero {x:InstT} (h:partI x=8):x.1≠0:=fun e=>by
 unfold partI at h
 rw [if_neg (by omega),e] at h
 exact partO_zero h
theorem AtBody.step {l:List InstT} {k:Nat} (h:AtBody l k) (hl:k<l.length) (h8:partI (nthI l k)=8) (h1:(nthI l k).1≠54) (h2:(nthI l k).1≠55) (h3:(nthI l k).1≠56) (h4:(nthI l k).1≠248) (h5:(nthI l k).1≠59) (h6:(nthI l k).1≠245) (h7:endsB (nthI l k).1=false):Fc l (k+1)∧aheadO l (k+1)=(nthI l k).1∧cutTo l (k+1)=cutTo l k:=by
 obtain⟨k1,k2⟩:=h.1.next hl h8 (mayF_in h.2.1 h1 h2 h3 h4 h5 h6)
 exact⟨k1,k2,by rw [cutTo];exact stepC_other h1 h2 h3 h4 h7⟩
theorem AtBody.plain {l:List InstT} {k:Nat} (h:AtBody l k) (hk:kindAt l k=64):k<l.length∧partI (nthI l k)=8∧AtBody l (k+1)∧cutTo l (k+1)=cutTo l k:=by
 obtain⟨hl,h8,e⟩:=kind_part (l:=l) (k:=k) (by omega)
 rw [e] at hk
 obtain⟨n1,n2,n3,n4,n5,n6,n7,n8,n9⟩:=kindOp_64.1 hk
 have he:endsB (nthI l k).1=false:=endsB_false.2 n9
 obtain⟨q1,q2,q3⟩:=h.step hl h8 n1 n2 n3 n4 n5 n6 he
 refine⟨hl,h8,⟨q1,?_,fun _ _ ho=>?_,by rw [q3];exact h.2.2.2⟩,q3⟩
 ·rw [q2];exact⟨op_ne_zero h8,n1,n2,n3,n8,n7,n9⟩
 ·rw [q2]
  unfold mayF
  rcases ho with ho | ho <;> simp [ho,n4,n5,n6]
theorem AtBody.sel {l:List InstT} {k:Nat} (h:AtBody l k) (hk:kindAt l k=128):k<l.length∧partI (nthI l k)=8∧Fc l (k+1)∧aheadO l (k+1)=247∧cutTo l (k+1)=cutTo l k:=by
 obtain⟨hl,h8,e⟩:=kind_part (l:=l) (k:=k) (by omega)
 rw [e] at hk
 have h247:=kindOp_128.1 hk
 obtain⟨q1,q2,q3⟩:=h.step hl h8 (by omega) (by omega) (by omega) (by omega) (by omega) (by omega) (by unfold endsB;simp;omega)
 exact⟨hl,h8,q1,q2.trans h247,q3⟩
theorem AtBody.loop {l:List InstT} {k:Nat} (h:AtBody l k) (hk:kindAt l k=256):k<l.length∧partI (nthI l k)=8∧Fc l (k+1)∧aheadO l (k+1)=246∧cutTo l (k+1)=cutTo l k:=by
 obtain⟨hl,h8,e⟩:=kind_part (l:=l) (k:=k) (by omega)
 rw [e] at hk
 have h246:=kindOp_256.1 hk
 obtain⟨q1,q2,q3⟩:=h.step hl h8 (by omega) (by omega) (by omega) (by omega) (by omega) (by omega) (by unfold endsB;simp;omega)
 exact⟨hl,h8,q1,q2.trans h246,q3⟩
theorem sel_end {l:List InstT} {k:Nat} (hF:Fc l k) (ha:aheadO l k=247):(bits .and .u16 (kindAt l k) 1024==0)=true∧wrongAt l k∨(bits .and .u16 (kindAt l k) 1024==0)=false∧k<l.length∧partI (nthI l k)=8∧endsB (nthI l k).1=true∧mayF (nthI l k).1 (aheadO l k) (firstB l (k - 1))=true:=by
 by_cases hl:k<l.length∧partI (nthI l k)=8
 ·rw [kindAt_eight hl.1 hl.2,kind_sel]
  by_cases ho:(nthI l k).1=250∨(nthI l k).1=251
  ·refine .inr ⟨by rcases ho with e | e <;> rw [e] <;> rfl,hl.1,hl.2,by rw [endsB_iff];omega,?_⟩
   rw [ha];rcases ho with e | e <;> rw [e] <;> rfl
  ·refine .inl ⟨by simp;omega,hF.fail (fun _ _=>?_) (.inl (by omega))⟩
   have n1:(nthI l k).1≠250:=fun e=>ho (.inl e)
   have n2:(nthI l k).1≠251:=fun e=>ho (.inr e)
   rw [ha];unfold mayF;simp [n1,n2,endsB]
 ·have hz:kindAt l k=0:=by
   unfold kindAt kindX
   split
   ·next h1=>rw [if_neg (fun e=>hl ⟨h1,e⟩)]
   ·rfl
  rw [hz]
  exact .inl ⟨kind_none.2.1,hF.fail (fun h1 h2=>absurd ⟨h1,h2⟩ hl) (.inl (by omega))⟩
theorem loop_end {l:List InstT} {k:Nat} (hF:Fc l k) (ha:aheadO l k=246):(bits .and .u16 (kindAt l k) 2048==0)=true∧wrongAt l k∨(bits .and .u16 (kindAt l k) 2048==0)=false∧k<l.length∧partI (nthI l k)=8∧endsB (nthI l k).1=true∧mayF (nthI l k).1 (aheadO l k) (firstB l (k - 1))=true:=by
 by_cases hl:k<l.length∧partI (nthI l k)=8
 ·rw [kindAt_eight hl.1 hl.2,kind_loop]
  by_cases ho:(nthI l k).1=249∨(nthI l k).1=250
  ·refine .inr ⟨by rcases ho with e | e <;> rw [e] <;> rfl,hl.1,hl.2,by rw [endsB_iff];omega,?_⟩
   rw [ha];rcases ho with e | e <;> rw [e] <;> rfl
  ·refine .inl ⟨by simp;omega,hF.fail (fun _ _=>?_) (.inl (by omega))⟩
   have n1:(nthI l k).1≠249:=fun e=>ho (.inl e)
   have n2:(nthI l k).1≠250:=fun e=>ho (.inr e)
   rw [ha];unfold mayF;simp [n1,n2,endsB]
 ·have hz:kindAt l k=0:=by
   unfold kindAt kindX
   split
   ·next h1=>rw [if_neg (fun e=>hl ⟨h1,e⟩)]
   ·rfl
  rw [hz]
  exact .inl ⟨kind_none.2.2,hF.fail (fun h1 h2=>absurd ⟨h1,h2⟩ hl) (.inl (by omega))⟩
theorem body_end {l:List InstT} {k:Nat} (h:AtBody l k) (h64:kindAt l k≠64) (h128:kindAt l k≠128) (h256:kindAt l k≠256):(bits .and .u16 (kindAt l k) 512==0)=true∧wrongAt l k∨(bits .and .u16 (kindAt l k) 512==0)=false∧k<l.length∧partI (nthI l k)=8∧endsB (nthI l k).1=true∧mayF (nthI l k).1 (aheadO l k) (firstB l (k - 1))=true:=by
 have hb:=h.2.1
 have hne:aheadO l k≠0∧aheadO l k≠56:=⟨hb.1,hb.2.2.2.1⟩
 by_cases hl:k<l.length∧partI (nthI l k)=8
 ·rw [kindAt_eight hl.1 hl.2] at h64 h128 h256 ⊢
  rw [kind_ends]
  cases he:endsB (nthI l k).1 with
  | true =>
   have:=endsB_iff.1 he
   exact .inr ⟨rfl,hl.1,hl.2,rfl,mayF_in hb (by omega) (by omega) (by omega) (by omega) (by omega) (by omega)⟩
  | false =>
   refine .inl ⟨rfl,h.1.fail (fun _ _=>?_) (.inl hne)⟩
   by_cases hs:(nthI l k).1=54∨(nthI l k).1=55∨(nthI l k).1=56∨(nthI l k).1=248
   ·exact mayF_out hb hs
   ·refine h.2.2.1 hl.1 hl.2 ?_
    have n1:(nthI l k).1≠247:=fun e=>h128 (kindOp_128.2 e)
    have n2:(nthI l k).1≠246:=fun e=>h256 (kindOp_256.2 e)
    have n3:¬ (249≤(nthI l k).1∧(nthI l k).1≤255):=fun e=>by rw [endsB_iff.2 e] at he;cases he
    by_cases q1:(nthI l k).1=59
    ·exact .inl q1
    ·by_cases q2:(nthI l k).1=245
     ·exact .inr q2
     ·exact absurd (kindOp_64.2 ⟨fun e=>hs (.inl e),fun e=>hs (.inr (.inl e)),fun e=>hs (.inr (.inr (.inl e))),fun e=>hs (.inr (.inr (.inr e))),q1,q2,n1,n2,n3⟩) h64
 ·have hz:kindAt l k=0:=by
   unfold kindAt kindX
   split
   ·next h1=>rw [if_neg (fun e=>hl ⟨h1,e⟩)]
   ·rfl
  rw [hz]
  exact .inl ⟨kind_none.1,h.1.fail (fun h1 h2=>absurd ⟨h1,h2⟩ hl) (.inl hne)⟩
theorem AtEnd.next {l:List InstT} {k:Nat} (h:AtEnd l k):AtAft l (k+1)∧∀ fs f,cutTo l k=fs++[f]→cutTo l (k+1)=fs++[withTo ((k+1:Nat):Int) f]:=by
 obtain⟨hF,hm,h8,hl,he,fs0,f0,_,_,hcut,_⟩:=h
 obtain⟨q1,q2⟩:=hF.next hl h8 hm
 have hr:=endsB_iff.1 he
 have hc:∀ fs f,cutTo l k=fs++[f]→cutTo l (k+1)=fs++[withTo ((k+1:Nat):Int) f]:=fun fs f e=>by
  rw [cutTo];unfold stepC;rw [if_neg (by omega),if_neg (by omega),if_neg (by omega),if_neg (by omega),if_pos he,e,onLast_snoc]
 exact⟨⟨q1,by rw [q2];exact he,_,_,hc fs0 f0 hcut⟩,hc⟩
theorem AtAft.blk {l:List InstT} {k:Nat} (h:AtAft l k) (hk:kindAt l k=8):AtBlk l k 32:=⟨h.1,hk,.inr ⟨h.2.1,rfl⟩,h.2.2⟩
theorem AtAft.fin {l:List InstT} {k:Nat} (h:AtAft l k) (hk:kindAt l k=4):k<l.length∧partI (nthI l k)=8∧AtOut l (k+1)∧∀ fs f,cutTo l k=fs++[f]→cutTo l (k+1)=fs++[withEnd k f]:=by
 obtain⟨hl,h8,e⟩:=kind_part (l:=l) (k:=k) (by omega)
 rw [e] at hk
 have h56:=kindOp_four.1 hk
 obtain⟨q1,q2⟩:=h.1.next hl h8 (by rw [h56];unfold mayF;simpa using h.2.1)
 refine⟨hl,h8,⟨q1,.inr (q2.trans h56)⟩,fun fs f e=>?_⟩
 rw [cutTo];unfold stepC;rw [if_neg (by omega),if_neg (by omega),if_pos h56,e,onLast_snoc]
theorem AtAft.wrong {l:List InstT} {k:Nat} (h:AtAft l k) (h1:kindAt l k≠8) (h2:kindAt l k≠4):wrongAt l k:=by
 have hr:=endsB_iff.1 h.2.1
 refine h.1.fail (fun hl h8=>?_) (.inl (by omega))
 rw [kindAt_eight hl h8] at h1 h2
 have k1:(nthI l k).1≠248:=fun e=>h1 (kindOp_eight.2 e)
 have k2:(nthI l k).1≠56:=fun e=>h2 (kindOp_four.2 e)
 have a0:aheadO l k≠0:=by omega
 have a1:aheadO l k≠54:=by omega
 have a2:aheadO l k≠55:=by omega
 have a3:aheadO l k≠56:=by omega
 unfold mayF
 simp [k1,k2,a0,a1,a2,a3,h.2.1]
structure RowX where
  T : Nat
  size : Nat
  v : Value
  n : Nat
  xs : List Value
def RowX.own (r:RowX) (w:World) (lo:Nat):Prop:=w.ownsRow lo r.T r.size r.v r.n r.xs
structure RowsX {ι : Type} (w : World) (lo : Nat) (In : ι → Prop) (R : ι → RowX) : Prop where
  own : ∀ q, In q → (R q).own w lo
  apart : ∀ q q', In q → In q' → q ≠ q' → ∀ g, (R q).v.ownBlock = some g → (R q').v.ownBlock ≠ some g
theorem RowsX.kept {ι:Type} {w w':World} {lo:Nat} {In:ι→Prop} {R:ι→RowX} {ob:Option Nat} (h:RowsX w lo In R) (hg:w.grownBy w' ob) (hob:∀ g,ob=some g→g<lo):RowsX w' lo In R :=
 ⟨fun q hq=>own_grown (h.own q hq) hg (fun g e e2=>by have:=(World.ownsRow.lt (h.own q hq) g e2).1;have:=hob g e;omega),h.apart⟩
theorem RowsX.put {ι:Type} {w w':World} {lo:Nat} {In:ι→Prop} {R R':ι→RowX} (h:RowsX w lo In R) (i:ι) (hi:In i) (hg:w.grownBy w' (R i).v.ownBlock) (hnew:(R' i).own w' lo) (hv:(R' i).v.ownBlock=(R i).v.ownBlock∨∀ g,(R' i).v.ownBlock=some g→w.heap.size≤g) (hs:∀ q,In q→q≠i→R' q=R q):RowsX w' lo In R':=by
 constructor
 ·intro q hq
  by_cases e:q=i
  ·rw [e];exact hnew
  ·rw [hs q hq e]
   exact own_grown (h.own q hq) hg (fun g eg=>h.apart i q hi hq (fun e2=>e e2.symm) g eg)
 ·intro q q' hq hq' hne g e1 e2
  by_cases eq:q=i
  ·subst eq
   have hq'i:q'≠q:=fun e=>hne e.symm
   rw [hs q' hq' hq'i] at e2
   rcases hv with hv | hv
   ·rw [hv] at e1;exact h.apart q q' hq hq' hne g e1 e2
   ·have:=hv g e1;have:=(World.ownsRow.lt (h.own q' hq') g e2).2;omega
  ·rw [hs q hq eq] at e1
   by_cases eq':q'=i
   ·subst eq'
    rcases hv with hv | hv
    ·rw [hv] at e2;exact h.apart q q' hq hq' hne g e1 e2
    ·have:=hv g e2;have:=(World.ownsRow.lt (h.own q hq) g e1).2;omega
   ·rw [hs q' hq' eq'] at e2
    exact h.apart q q' hq hq' hne g e1 e2
theorem RowsX.grow {ι:Type} {w:World} {lo:Nat} {In In':ι→Prop} {R R':ι→RowX} (h:RowsX w lo In R) (hin:∀ q,In' q→In q∨((R' q).v=.slice none 0 0∧(R' q).n=0∧(R' q).xs=[])) (hs:∀ q,In q→R' q=R q):RowsX w lo In' R':=by
 constructor
 ·intro q hq
  rcases hin q hq with h1 | ⟨h1,h2,h3⟩
  ·rw [hs q h1];exact h.own q h1
  ·unfold RowX.own;rw [h1,h2,h3];exact World.ownsRow_nil _ _ _ _
 ·intro q q' hq hq' hne g e1 e2
  rcases hin q hq with h1 | ⟨h1,_,_⟩
  ·rcases hin q' hq' with k1 | ⟨k1,_,_⟩
   ·rw [hs q h1] at e1;rw [hs q' k1] at e2;exact h.apart q q' h1 k1 hne g e1 e2
   ·rw [k1] at e2;cases e2
  ·rw [h1] at e1;cases e1
theorem own_setAt {w:World} {lo e size n g cap:Nat} {xs:List Value} (h:w.ownsRow lo e size (.slice (some ⟨g,0,none⟩) n cap) n xs) (i:Nat) (u:Value):(w.setCell ⟨g,i,none⟩ u).ownsRow lo e size (.slice (some ⟨g,0,none⟩) n cap) n (xs.set i u):=by
 refine⟨by rw [List.length_set];exact h.1,.inr ?_⟩
 rcases h.2 with ⟨h1,_⟩ | ⟨g',cap',cur,e1,h2,h3,h4,h5,h6,h7⟩
 ·cases h1
 ·cases e1
  refine⟨g,cap,cur.setIfInBounds i u,rfl,h2,?_,h4,h5,by simp [h6],?_⟩
  ·simp [World.setCell,Array.getElem?_modify,h3]
  ·rw [Array.toList_setIfInBounds,List.take_set,h7]
theorem own_form {w:World} {lo e size n:Nat} {v:Value} {xs:List Value} (h:w.ownsRow lo e size v n xs) (hn:0<n):∃ g cap,v=.slice (some ⟨g,0,none⟩) n cap∧lo≤g∧g<w.heap.size∧n≤cap∧(∀ i,w.frozen? ⟨g,i,none⟩=false)∧(∀ i,i<n * size→w.cell? ⟨g,i,none⟩=xs[i]?):=by
 rcases h.2 with ⟨_,h1⟩ | ⟨g,cap,cur,e1,h2,h3,h4,h5,h6,h7⟩
 ·omega
 ·refine⟨g,cap,e1,h2,(Array.getElem?_eq_some_iff.1 h3).1,h4,fun i=>by simp [World.frozen?,h3],fun i hi=>?_⟩
  rw [show w.cell? ⟨g,i,none⟩=cur[i]? by simp [World.cell?,h3],← h7,List.getElem?_take,if_pos hi]
  simp
theorem grown_cell (w:World) (g i:Nat) (u:Value):w.grownBy (w.setCell ⟨g,i,none⟩ u) (some g):=grown_setCell w g i u
end Go.Proofs.YtoebhgpciinkgaaGreatDoor
