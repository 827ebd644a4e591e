/-
  Texts laid together in one: MathX, MathZ, MathDg, StrconvFormatUint, Toks, MathY, MathH.
-/
import Derived.Test.YtddkapkkjhomkabGreatDoorM15
import Derived.WalkSpells
import Derived.WalkMore
import Derived.Shelf.LaysM
import Derived.Shelf.Strconv.Itoa1
import Derived.Shelf.Strconv.Itoa2
import Derived.Lib.ItoaMem
import Derived.Lib.AppendIntMem
import Derived.BigCall
import Derived.BigGuard
import Derived.Test.YtddkapkkjhomkabGreatDoorProg
set_option linter.unusedVariables false
set_option linter.unusedSimpArgs false
set_option maxRecDepth 10000
namespace Go.Proofs.YtddkapkkjhomkabGreatDoor
open Go.RowKit

/-! ### quotes -/

def hexD (n:Int):Int:=if n < 10 then 48+n else 87+n
def escL (c:Int):List Int:=if c=34 ∨ c=92 then [92,c] else if printB c then [c] else [92,120,hexD (c / 16),hexD (c % 16)]
def quoteL (l:List Int):List Int:=34 :: (l.flatMap escL ++ [34])
theorem hexD_within {n:Int} (h0:0≤n) (h1:n < 16):0≤hexD n∧hexD n < 256:=by unfold hexD;split <;> omega
theorem escL_within {c:Int} (h0:0≤c) (h1:c < 256):Within 256 (escL c):=by
 have a:=hexD_within (n:=c / 16) (by omega) (by omega)
 have b:=hexD_within (n:=c % 16) (by omega) (by omega)
 intro z hz
 unfold escL at hz
 split at hz
 ·simp at hz;omega
 ·split at hz
  ·simp at hz;omega
  ·simp only [List.mem_cons,List.not_mem_nil,or_false] at hz
   rcases hz with rfl | rfl | rfl | rfl <;> omega
theorem escL_len (c:Int):(escL c).length≤4:=by
 unfold escL;split
 ·simp
 ·split <;> simp
theorem flat_within {l:List Int} (h:Within 256 l):Within 256 (l.flatMap escL):=by
 intro z hz
 obtain ⟨c,hc,hz⟩:=List.mem_flatMap.1 hz
 exact escL_within (h c hc).1 (h c hc).2 z hz
theorem flat_lenX (l:List Int):(l.flatMap escL).length≤4 * l.length:=by
 induction l with
 | nil=>simp
 | cons c l ih =>
  have:=escL_len c
  simp only [List.flatMap_cons,List.length_append,List.length_cons];omega
theorem within_appX {m:Int} {a b:List Int} (ha:Within m a) (hb:Within m b):Within m (a ++ b):=fun z hz=>by
 rcases List.mem_append.1 hz with h | h
 ·exact ha z h
 ·exact hb z h
theorem within_cons {m c:Int} {a:List Int} (h0:0≤c) (h1:c < m) (ha:Within m a):Within m (c :: a):=fun z hz=>by
 rcases List.mem_cons.1 hz with h | h
 ·subst h;exact ⟨h0,h1⟩
 ·exact ha z h
theorem quoteL_within {l:List Int} (h:Within 256 l):Within 256 (quoteL l) :=
 within_cons (by omega) (by omega) (within_appX (flat_within h) (within_one (by omega) (by omega)))
theorem quoteL_len (l:List Int):(quoteL l).length≤4 * l.length+2:=by
 have:=flat_lenX l
 simp only [quoteL,List.length_cons,List.length_append,List.length_nil];omega
theorem flat_snoc (l:List Int) (k:Nat) (h:k < l.length):(l.take (k+1)).flatMap escL=(l.take k).flatMap escL ++ escL (nth l k):=by
 rw [take_snoc l k h];simp
/-! ### tokens -/

theorem kind_letter (c:Int):(kindL c == 3)=letterB c:=by
 unfold kindL
 cases letterB c
 ·simp only [Bool.false_eq_true,if_false]
  repeat' split
  all_goals rfl
 ·rfl
theorem kind_run (c:Int):(kindL c == 3 || kindL c == 4)=runB c:=by
 unfold kindL runB
 cases letterB c
 ·cases digitB c
  ·simp only [Bool.false_eq_true,if_false]
   repeat' split
   all_goals rfl
  ·rfl
 ·rfl
theorem kind_lo (c:Int):1≤kindL c:=by unfold kindL;repeat' split <;> omega
theorem kind_hi (c:Int):kindL c≤10:=by unfold kindL;repeat' split <;> omega
def wordB (l:List Int):Bool:=!l.isEmpty && l.all runB && letterB (nth l 0)
def tokOk (k:Int) (l:List Int):Bool:=if k=1 then wordB l else if k=2 then plainB l else if k=3 then numB l else if k=4 then true else if k=5 then decide (l=[61]) else false
def tokS (k:Int) (l:List Int):List Int:=if k=2 then 37 :: l else if k=4 then quoteL l else l
theorem word_not {l:List Int} {k:Nat} (h:k < l.length) (hr:runB (nth l k)=false):wordB l=false:=by
 have e:nth l k=l[k]:=by simp [nth,List.getD,h]
 cases hb:wordB l
 ·rfl
 ·simp only [wordB,Bool.and_eq_true,List.all_eq_true] at hb
  have:=hb.1.2 _ (List.getElem_mem h)
  rw [← e,hr] at this;cases this
theorem word_all {l:List Int} (h:l≠[]) (hr:∀ k,k < l.length→runB (nth l k)=true):wordB l=letterB (nth l 0):=by
 have e:l.all runB=true:=by
  rw [List.all_eq_true]
  intro x hx
  obtain ⟨k,hk,rfl⟩:=List.getElem_of_mem hx
  have:=hr k hk
  have e:nth l k=l[k]:=by simp [nth,List.getD,hk]
  rwa [e] at this
 have e2:l.isEmpty=false:=by cases l <;> simp_all
 simp [wordB,e,e2]
theorem tokS_within {k:Int} {l:List Int} (h:Within 256 l):Within 256 (tokS k l):=by
 unfold tokS;split
 ·exact within_cons (by omega) (by omega) h
 ·split
  ·exact quoteL_within h
  ·exact h
theorem tokS_len (k:Int) (l:List Int):(tokS k l).length≤4 * l.length+2:=by
 have:=quoteL_len l
 unfold tokS;split
 ·simp;omega
 ·split <;> omega
abbrev TokT:=Int × ByteArray × Int
def nthT (l:List TokT) (k:Nat):TokT:=l.getD k (0,⟨#[]⟩,0)
def wAll (l:List TokT):List Int:=l.flatMap fun t=>32 :: tokS t.1 (strI t.2.1)
def wOk (l:List TokT):Bool:=l.all fun t=>tokOk t.1 (strI t.2.1)
def wOut (l:List TokT):List Int:=if wOk l then (wAll l).drop 1 else []
def wErr (l:List TokT):Int:=if wOk l then 0 else 2
def bulkT (l:List TokT):Nat:=(l.map fun t=>t.2.1.size).sum
theorem takeT_snoc (l:List TokT) (k:Nat) (h:k < l.length):l.take (k+1)=l.take k ++ [nthT l k]:=by
 rw [List.take_succ_eq_append_getElem h];simp [nthT,List.getD,h]
theorem wAll_snoc (l:List TokT) (k:Nat) (h:k < l.length):wAll (l.take (k+1))=wAll (l.take k) ++ 32 :: tokS (nthT l k).1 (strI (nthT l k).2.1):=by
 rw [takeT_snoc l k h];simp [wAll]
theorem wAll_drop0 (l:List TokT) (h:0 < l.length):(wAll (l.take 1)).drop 1=tokS (nthT l 0).1 (strI (nthT l 0).2.1):=by
 rw [wAll_snoc l 0 h];simp [wAll]
theorem wAll_dropS (l:List TokT) (k:Nat) (h0:0 < k) (h:k < l.length):(wAll (l.take (k+1))).drop 1=((wAll (l.take k)).drop 1 ++ [32]) ++ tokS (nthT l k).1 (strI (nthT l k).2.1):=by
 rw [wAll_snoc l k h]
 have hl:1≤(wAll (l.take k)).length:=by
  obtain ⟨m,rfl⟩:∃ m,k=m+1:=⟨k - 1,by omega⟩
  rw [wAll_snoc l m (by omega)];simp;omega
 rw [List.drop_append_of_le_length hl];simp
theorem wOk_at {l:List TokT} (h:wOk l=true) {k:Nat} (hk:k < l.length):tokOk (nthT l k).1 (strI (nthT l k).2.1)=true:=by
 simp only [wOk,List.all_eq_true] at h
 have e:nthT l k=l[k]:=by simp [nthT,List.getD,hk]
 rw [e];exact h _ (List.getElem_mem hk)
theorem wOk_not {l:List TokT} {k:Nat} (hk:k < l.length) (h:tokOk (nthT l k).1 (strI (nthT l k).2.1)=false):wOk l=false:=by
 cases e:wOk l
 ·rfl
 ·rw [wOk_at e hk] at h;cases h
theorem wOk_all {l:List TokT} (h:∀ k,k < l.length→tokOk (nthT l k).1 (strI (nthT l k).2.1)=true):wOk l=true:=by
 simp only [wOk,List.all_eq_true]
 intro x hx
 obtain ⟨k,hk,rfl⟩:=List.getElem_of_mem hx
 have:=h k hk
 have e:nthT l k=l[k]:=by simp [nthT,List.getD,hk]
 rwa [e] at this
theorem wAll_within (l:List TokT):Within 256 (wAll l):=by
 intro z hz
 obtain ⟨t,_,hz⟩:=List.mem_flatMap.1 hz
 rcases List.mem_cons.1 hz with h | h
 ·omega
 ·exact tokS_within (strI_within _) z h
theorem within_dropX {m:Int} {l:List Int} (h:Within m l) (n:Nat):Within m (l.drop n):=fun z hz=>h z (List.mem_of_mem_drop hz)
theorem wAll_len (l:List TokT):(wAll l).length≤4 * bulkT l+3 * l.length:=by
 induction l with
 | nil=>simp [wAll]
 | cons t l ih =>
  have:=tokS_len t.1 (strI t.2.1)
  rw [strI_len] at this
  have e:wAll (t :: l)=(32 :: tokS t.1 (strI t.2.1)) ++ wAll l:=rfl
  rw [e]
  have e2:bulkT (t :: l)=t.2.1.size+bulkT l:=rfl
  simp only [List.length_append,List.length_cons,e2] at *
  omega
theorem bulkT_take (l:List TokT) (k:Nat):bulkT (l.take k)≤bulkT l:=by
 induction l generalizing k with
 | nil=>simp
 | cons t l ih =>
  cases k with
  | zero=>simp [bulkT]
  | succ k =>
   have:=ih k
   simp only [List.take_succ_cons,bulkT,List.map_cons,List.sum_cons] at *
   omega
theorem bulkT_at (l:List TokT) (k:Nat) (h:k < l.length):(nthT l k).2.1.size≤bulkT l:=by
 have h1:=bulkT_take l (k+1)
 rw [takeT_snoc l k h] at h1
 have e:bulkT (l.take k ++ [nthT l k])=bulkT (l.take k)+(nthT l k).2.1.size:=by simp [bulkT]
 omega
/-! ### reading -/

def runE (l:List Int) (p:Nat):Nat:=p+((l.drop p).takeWhile runB).length
def cutL (l:List Int) (a b:Nat):List Int:=(l.take b).drop a
def partP (l:List Int) (p:Nat):Option (Int × Nat) :=
 if nth l p=92 then
  if nth l (p+1)=34 ∨ nth l (p+1)=92 then some (nth l (p+1),2)
  else if nth l (p+1)=120∧hexB (nth l (p+2))=true∧hexB (nth l (p+3))=true then some (16 * dvI (nth l (p+2))+dvI (nth l (p+3)),4)
  else none
 else if printB (nth l p)=true then some (nth l p,1) else none
def quotF:Nat→List Int→Nat→Option (List Int × Nat)
 | 0,_,_=>none
 | f+1,l,p=>if nth l p=34 then some ([],p+1) else match partP l p with
  | none=>none
  | some (b,n)=>(quotF f l (p+n)).map fun r=>(b :: r.1,r.2)
def quotP (l:List Int) (p:Nat):Option (List Int × Nat):=quotF (l.length+1) l p
def tokP (l:List Int) (p:Nat):Sum Int (Int × List Int × Nat) :=
 if letterB (nth l p) then .inr (1,cutL l p (runE l p),runE l p)
 else if nth l p=37 then if plainB (cutL l (p+1) (runE l (p+1))) then .inr (2,cutL l (p+1) (runE l (p+1)),runE l (p+1)) else .inl 62
 else if digitB (nth l p) || decide (nth l p=45) then if numB (cutL l p (runE l (p+1))) then .inr (3,cutL l p (runE l (p+1)),runE l (p+1)) else .inl 62
 else if nth l p=34 then match quotP l (p+1) with
  | some (b,q)=>.inr (4,b,q)
  | none=>.inl 61
 else if nth l p=61 then .inr (5,[61],p+1)
 else .inl 60
abbrev TokR:=List TokT × Int × Int
def consR (t:TokT) (r:TokR):TokR:=if r.2.1=0 then (t :: r.1,0,0) else r
def joinR (acc:List TokT) (r:TokR):TokR:=if r.2.1=0 then (acc ++ r.1,0,0) else ([],r.2.1,r.2.2)
def toksF:Nat→List Int→Nat→TokR
 | 0,_,_=>([],0,0)
 | f+1,l,p =>
  if p < l.length∧nth l p≠59 then
   if blankB (nth l p) then toksF f l (p+1) else match tokP l p with
    | .inl e=>([],e,(p:Int))
    | .inr (k,t,q)=>consR (k,strOfNums t,(p:Int)) (toksF f l q)
  else ([],0,0)
def toksP (l:List Int) (p:Nat):TokR:=toksF (l.length+1) l p
theorem nth_over (l:List Int) (k:Nat) (h:l.length≤k):nth l k=0:=by simp [nth,List.getD,List.getElem?_eq_none h]
theorem runE_spec {l:List Int} {p k:Nat} (hp:p≤k) (hk:k≤l.length) (h:∀ i,p≤i→i < k→runB (nth l i)=true) (he:k=l.length ∨ runB (nth l k)=false):runE l p=k:=by
 have key:∀ (n:Nat) (p:Nat),k - p=n→p≤k→(∀ i,p≤i→i < k→runB (nth l i)=true)→((l.drop p).takeWhile runB).length=k - p:=by
  intro n
  induction n with
  | zero =>
   intro p hn hp _
   obtain rfl:p=k:=by omega
   rcases he with he | he
   ·rw [List.drop_eq_nil_of_le (by omega)];simp
   ·by_cases hl:p < l.length
    ·rw [List.drop_eq_getElem_cons hl]
     have e:nth l p=l[p]:=by simp [nth,List.getD,hl]
     rw [e] at he
     rw [List.takeWhile_cons_of_neg (by simp [he])];simp
    ·rw [List.drop_eq_nil_of_le (by omega)];simp
  | succ n ih =>
   intro p hn hp h
   have hl:p < l.length:=by omega
   have e:nth l p=l[p]:=by simp [nth,List.getD,hl]
   have h0:=h p (Nat.le_refl _) (by omega)
   rw [e] at h0
   rw [List.drop_eq_getElem_cons hl,List.takeWhile_cons_of_pos (by simpa using h0)]
   have:=ih (p+1) (by omega) (by omega) (fun i hi hik=>h i (by omega) hik)
   simp only [List.length_cons];omega
 have:=key _ p rfl hp h
 unfold runE;omega
theorem runE_le (l:List Int) (p:Nat) (h:p≤l.length):runE l p≤l.length:=by
 have:=(List.takeWhile_sublist (p:=runB) (l:=l.drop p)).length_le
 rw [List.length_drop] at this
 unfold runE;omega
theorem runE_ge (l:List Int) (p:Nat):p≤runE l p:=by unfold runE;omega
theorem runE_gt {l:List Int} {p:Nat} (h:p < l.length) (hr:runB (nth l p)=true):p+1≤runE l p:=by
 have e:nth l p=l[p]:=by simp [nth,List.getD,h]
 rw [e] at hr
 unfold runE
 rw [List.drop_eq_getElem_cons h,List.takeWhile_cons_of_pos (by simpa using hr)]
 simp
theorem partP_some {l:List Int} {p n:Nat} {b:Int} (h:partP l p=some (b,n)):1≤n∧p+n≤l.length:=by
 have hlt:∀ k,nth l k≠0→k < l.length:=fun k hk=>by
  rcases Nat.lt_or_ge k l.length with h' | h'
  ·exact h'
  ·exact absurd (nth_over l k h') hk
 have hhex:hexB 0=false:=by decide
 unfold partP at h
 split at h
 ·split at h
  ·rename_i h1
   have:=hlt (p+1) (by omega)
   simp at h;omega
  ·split at h
   ·rename_i h1
    have:=hlt (p+3) (fun e=>by rw [e,hhex] at h1;exact absurd h1.2.2 (by decide))
    simp at h;omega
   ·cases h
 ·split at h
  ·rename_i h1
   have:=hlt p (fun e=>by rw [e] at h1;exact absurd h1 (by decide))
   simp at h;omega
  ·cases h
theorem quotF_succ (f:Nat) (l:List Int) (p:Nat):quotF (f+1) l p=if nth l p=34 then some ([],p+1) else match partP l p with
  | none=>none
  | some (b,n)=>(quotF f l (p+n)).map fun r=>(b :: r.1,r.2):=rfl
theorem toksF_succ (f:Nat) (l:List Int) (p:Nat):toksF (f+1) l p=if p < l.length∧nth l p≠59 then
   if blankB (nth l p) then toksF f l (p+1) else match tokP l p with
    | .inl e=>([],e,(p:Int))
    | .inr (k,t,q)=>consR (k,strOfNums t,(p:Int)) (toksF f l q)
  else ([],0,0):=rfl
theorem quotF_fuel (l:List Int):∀ (f g p:Nat),l.length - p < f→l.length - p < g→quotF f l p=quotF g l p:=by
 intro f
 induction f with
 | zero=>intro g p h;omega
 | succ f ih =>
  intro g p hf hg
  match g,hg with
  | g+1,hg =>
   unfold quotF
   split
   ·rfl
   ·cases e:partP l p with
    | none=>rfl
    | some bn =>
     obtain ⟨b,n⟩:=bn
     have:=partP_some e
     simp only
     rw [ih g (p+n) (by omega) (by omega)]
theorem quotP_close {l:List Int} {p:Nat} (h:nth l p=34):quotP l p=some ([],p+1):=by
 unfold quotP quotF;rw [if_pos h]
theorem quotP_none {l:List Int} {p:Nat} (h:nth l p≠34) (h1:partP l p=none):quotP l p=none:=by
 unfold quotP quotF;rw [if_neg h,h1]
theorem quotP_some {l:List Int} {p n:Nat} {b:Int} (h:nth l p≠34) (h1:partP l p=some (b,n)):quotP l p=(quotP l (p+n)).map fun r=>(b :: r.1,r.2):=by
 have:=partP_some h1
 have e:quotP l p=(quotF l.length l (p+n)).map fun r=>(b :: r.1,r.2):=by
  show quotF (l.length+1) l p=_
  rw [quotF_succ,if_neg h,h1]
 rw [e,quotF_fuel l l.length (l.length+1) (p+n) (by omega) (by omega)]
 rfl
theorem quotP_end {l:List Int}:∀ {p q:Nat} {b:List Int},quotP l p=some (b,q)→p+1≤q∧q≤l.length:=by
 have key:∀ (f p q:Nat) (b:List Int),quotF f l p=some (b,q)→p+1≤q∧q≤l.length:=by
  intro f
  induction f with
  | zero=>intro p q b h;cases h
  | succ f ih =>
   intro p q b h
   unfold quotF at h
   split at h
   ·rename_i h1
    have:p < l.length:=by
     rcases Nat.lt_or_ge p l.length with h' | h'
     ·exact h'
     ·rw [nth_over l p h'] at h1;omega
    simp at h;omega
   ·cases e:partP l p with
    | none=>rw [e] at h;cases h
    | some bn =>
     obtain ⟨b',n⟩:=bn
     rw [e] at h
     simp only [Option.map_eq_some_iff] at h
     obtain ⟨⟨bs,q'⟩,h1,h2⟩:=h
     have:=ih _ _ _ h1
     simp at h2;omega
 intro p q b h
 exact key _ p q b h
theorem tokP_end {l:List Int} {p q:Nat} {k:Int} {t:List Int} (hp:p < l.length) (h:tokP l p=.inr (k,t,q)):p+1≤q∧q≤l.length:=by
 unfold tokP at h
 split at h
 ·rename_i h1
  have:=runE_gt hp (by simp [runB,h1])
  have:=runE_le l p (by omega)
  simp at h;omega
 ·have a:=runE_ge l (p+1)
  have b:=runE_le l (p+1) (by omega)
  split at h
  ·split at h
   ·simp at h;omega
   ·cases h
  ·split at h
   ·split at h
    ·simp at h;omega
    ·cases h
   ·split at h
    ·split at h
     ·rename_i e
      have:=quotP_end e
      simp at h;omega
     ·cases h
    ·split at h
     ·simp at h;omega
     ·cases h
theorem toksF_fuel (l:List Int):∀ (f g p:Nat),l.length - p < f→l.length - p < g→toksF f l p=toksF g l p:=by
 intro f
 induction f with
 | zero=>intro g p h;omega
 | succ f ih =>
  intro g p hf hg
  match g,hg with
  | g+1,hg =>
   unfold toksF
   split
   ·rename_i h1
    split
    ·rw [ih g (p+1) (by omega) (by omega)]
    ·cases e:tokP l p with
     | inl _=>rfl
     | inr r =>
      obtain ⟨k,t,q⟩:=r
      have:=tokP_end h1.1 e
      simp only
      rw [ih g q (by omega) (by omega)]
   ·rfl
theorem toksP_end {l:List Int} {p:Nat} (h:¬ (p < l.length∧nth l p≠59)):toksP l p=([],0,0):=by
 unfold toksP toksF;rw [if_neg h]
theorem toksP_blank {l:List Int} {p:Nat} (h:p < l.length) (h1:blankB (nth l p)=true):toksP l p=toksP l (p+1):=by
 have h2:nth l p≠59:=fun e=>by rw [e] at h1;exact absurd h1 (by decide)
 have e:toksP l p=toksF l.length l (p+1):=by
  show toksF (l.length+1) l p=_
  rw [toksF_succ,if_pos ⟨h,h2⟩,if_pos h1]
 rw [e,toksF_fuel l l.length (l.length+1) (p+1) (by omega) (by omega)]
 rfl
theorem toksP_err {l:List Int} {p:Nat} {e:Int} (h:p < l.length) (h2:nth l p≠59) (h1:blankB (nth l p)=false) (ht:tokP l p=.inl e):toksP l p=([],e,(p:Int)):=by
 unfold toksP toksF;rw [if_pos ⟨h,h2⟩,if_neg (by simp [h1]),ht]
theorem toksP_tok {l:List Int} {p q:Nat} {k:Int} {t:List Int} (h:p < l.length) (h2:nth l p≠59) (h1:blankB (nth l p)=false) (ht:tokP l p=.inr (k,t,q)):toksP l p=consR (k,strOfNums t,(p:Int)) (toksP l q):=by
 have hq:=tokP_end h ht
 have e:toksP l p=consR (k,strOfNums t,(p:Int)) (toksF l.length l q):=by
  show toksF (l.length+1) l p=_
  rw [toksF_succ,if_pos ⟨h,h2⟩,if_neg (by simp [h1]),ht]
 rw [e,toksF_fuel l l.length (l.length+1) q (by omega) (by omega)]
 rfl
theorem join_cons (acc:List TokT) (t:TokT) (r:TokR):joinR acc (consR t r)=joinR (acc ++ [t]) r:=by
 unfold joinR consR
 by_cases h:r.2.1=0
 ·simp [h]
 ·simp [h]
theorem toksP_shape (l:List Int) (p:Nat):((toksP l p).2.1=0→(toksP l p).2.2=0)∧((toksP l p).2.1≠0→(toksP l p).1=[]):=by
 have key:∀ f p,((toksF f l p).2.1=0→(toksF f l p).2.2=0)∧((toksF f l p).2.1≠0→(toksF f l p).1=[]):=by
  intro f
  induction f with
  | zero=>intro p;simp [toksF]
  | succ f ih =>
   intro p
   unfold toksF
   split
   ·split
    ·exact ih _
    ·split
     ·rename_i e he
      have hne:e≠0:=by
       intro h0;subst h0
       unfold tokP at he
       repeat' (split at he)
       all_goals simp at he
      simp [hne]
     ·rename_i k t q he
      have:=ih q
      unfold consR;split
      ·simp
      ·exact this
   ·simp
 exact key _ p
theorem join_nil (l:List Int) (p:Nat):joinR [] (toksP l p)=toksP l p:=by
 have h:=toksP_shape l p
 unfold joinR
 split
 ·rename_i e
  rcases hr:toksP l p with ⟨a,b,c⟩
  rw [hr] at h e
  simp only at h e
  simp [e,h.1 e]
 ·rename_i e
  rcases hr:toksP l p with ⟨a,b,c⟩
  rw [hr] at h e
  simp only at h e
  simp [h.2 e]
/-! ### moved to the right -/

theorem nth_shift (pre l:List Int) (p:Nat):nth (pre ++ l) (pre.length+p)=nth l p:=by
 rw [getD_right _ _ _ (by omega)];congr 1;omega
theorem drop_shift (pre l:List Int) (p:Nat):(pre ++ l).drop (pre.length+p)=l.drop p:=by
 rw [List.drop_append,List.drop_eq_nil_of_le (by omega)];simp
theorem runE_shift (pre l:List Int) (p:Nat):runE (pre ++ l) (pre.length+p)=pre.length+runE l p:=by
 unfold runE;rw [drop_shift];omega
theorem cut_shift (pre l:List Int) (a b:Nat):cutL (pre ++ l) (pre.length+a) (pre.length+b)=cutL l a b:=by
 unfold cutL
 rw [List.take_append,List.take_of_length_le (l:=pre) (by omega),show pre.length+b - pre.length=b by omega,drop_shift]
theorem part_shift (pre l:List Int) (p:Nat):partP (pre ++ l) (pre.length+p)=partP l p:=by
 unfold partP
 rw [nth_shift,show pre.length+p+1=pre.length+(p+1) by omega,show pre.length+p+2=pre.length+(p+2) by omega,show pre.length+p+3=pre.length+(p+3) by omega,nth_shift,nth_shift,nth_shift]
theorem quotF_shift (pre l:List Int):∀ f p,quotF f (pre ++ l) (pre.length+p)=(quotF f l p).map fun r=>(r.1,pre.length+r.2):=by
 intro f
 induction f with
 | zero=>intro p;rfl
 | succ f ih =>
  intro p
  rw [quotF_succ,quotF_succ,nth_shift,part_shift]
  split
  ·simp;omega
  ·cases e:partP l p with
   | none=>rfl
   | some bn =>
    obtain ⟨b,n⟩:=bn
    simp only
    rw [show pre.length+p+n=pre.length+(p+n) by omega,ih]
    simp [Option.map_map,Function.comp_def]
theorem quot_shift (pre l:List Int) (p:Nat):quotP (pre ++ l) (pre.length+p)=(quotP l p).map fun r=>(r.1,pre.length+r.2):=by
 unfold quotP
 rw [quotF_shift,quotF_fuel l ((pre ++ l).length+1) (l.length+1) p (by simp;omega) (by omega)]
def shiftT (k:Nat):Sum Int (Int × List Int × Nat)→Sum Int (Int × List Int × Nat)
 | .inl e=>.inl e
 | .inr (a,t,q)=>.inr (a,t,k+q)
theorem tok_shift (pre l:List Int) (p:Nat):tokP (pre ++ l) (pre.length+p)=shiftT pre.length (tokP l p):=by
 unfold tokP
 rw [nth_shift,runE_shift,show pre.length+p+1=pre.length+(p+1) by omega,runE_shift,cut_shift,cut_shift,cut_shift,quot_shift]
 split
 ·rfl
 ·split
  ·split <;> rfl
  ·split
   ·split <;> rfl
   ·split
    ·cases quotP l (p+1) with
     | none=>rfl
     | some r=>rfl
    ·split
     ·simp [shiftT]
     ·rfl
def moveT (k:Nat) (t:TokT):TokT:=(t.1,t.2.1,t.2.2+k)
def shiftR (k:Nat) (r:TokR):TokR:=(r.1.map (moveT k),r.2.1,if r.2.1=0 then r.2.2 else r.2.2+k)
theorem shift_cons (k:Nat) (t:TokT) (r:TokR):consR (moveT k t) (shiftR k r)=shiftR k (consR t r):=by
 unfold consR shiftR
 by_cases h:r.2.1=0 <;> simp [h]
theorem toksF_shift (pre l:List Int):∀ f p,toksF f (pre ++ l) (pre.length+p)=shiftR pre.length (toksF f l p):=by
 intro f
 induction f with
 | zero=>intro p;rfl
 | succ f ih =>
  intro p
  rw [toksF_succ,toksF_succ,nth_shift,tok_shift]
  have hlt:(pre.length+p < (pre ++ l).length∧nth l p≠59)↔(p < l.length∧nth l p≠59):=by rw [List.length_append];omega
  by_cases hc:p < l.length∧nth l p≠59
  ·rw [if_pos hc,if_pos (hlt.2 hc)]
   split
   ·rw [show pre.length+p+1=pre.length+(p+1) by omega];exact ih _
   ·cases e:tokP l p with
    | inl er =>
     have hne:er≠0:=by
      intro h0;subst h0
      unfold tokP at e
      repeat' (split at e)
      all_goals simp at e
     simp [shiftT,shiftR,hne];omega
    | inr r =>
     obtain ⟨k,t,q⟩:=r
     simp only [shiftT]
     rw [ih,← shift_cons]
     congr 1
     simp [moveT];omega
  ·rw [if_neg hc,if_neg (fun h=>hc (hlt.1 h))];rfl
theorem toks_shift (pre l:List Int) (p:Nat):toksP (pre ++ l) (pre.length+p)=shiftR pre.length (toksP l p):=by
 unfold toksP
 rw [toksF_shift,toksF_fuel l ((pre ++ l).length+1) (l.length+1) p (by simp;omega) (by omega)]
theorem toks_blanks (n:Nat) (l:List Int):toksP (List.replicate n 32 ++ l) 0=shiftR n (toksP l 0):=by
 have key:∀ k,k≤n→toksP (List.replicate n 32 ++ l) 0=toksP (List.replicate n 32 ++ l) k:=by
  intro k
  induction k with
  | zero=>intro _;rfl
  | succ k ih =>
   intro hk
   rw [ih (by omega)]
   refine toksP_blank (by simp;omega) ?_
   rw [getD_left _ _ _ (by simp;omega)]
   have:nth (List.replicate n (32:Int)) k=32:=by simp [nth,List.getD,show k < n by omega]
   rw [this];rfl
 have h:=toks_shift (List.replicate n 32) l 0
 rw [List.length_replicate,Nat.add_zero] at h
 rw [key n (Nat.le_refl _),h]
/-! ### one token -/

theorem cut_front (t rest:List Int):cutL (t ++ rest) 0 t.length=t:=by simp [cutL]
theorem all_nth {P:Int→Bool} {l:List Int} (h:l.all P=true) {k:Nat} (hk:k < l.length):P (nth l k)=true:=by
 rw [List.all_eq_true] at h
 have e:nth l k=l[k]:=by simp [nth,List.getD,hk]
 rw [e];exact h _ (List.getElem_mem hk)
theorem digit_run {c:Int} (h:digitB c=true):runB c=true:=by simp [runB,h]
theorem plain_all {t:List Int} (h:plainB t=true):t≠[]∧∀ k,k < t.length→digitB (nth t k)=true:=by
 simp only [plainB,digsB,Bool.and_eq_true,Bool.not_eq_true',List.isEmpty_eq_false_iff] at h
 exact ⟨h.2.1.1,fun k hk=>(dv_digit _).1 (allD_at h.2.1.2 hk)⟩
theorem hex_run {c:Int} (h:hexB c=true):runB c=true:=by
 simp only [hexB,digitB,Bool.or_eq_true,decide_eq_true_eq] at h
 simp only [runB,letterB,digitB,Bool.or_eq_true,decide_eq_true_eq,beq_iff_eq]
 omega
theorem nth_dropX (l:List Int) (a k:Nat):nth (l.drop a) k=nth l (a+k):=by unfold nth;simp [List.getD,List.getElem?_drop]
theorem num_shape {t:List Int} (h:numB t=true):0 < t.length∧(digitB (nth t 0)=true ∨ nth t 0=45)∧∀ k,1≤k→k < t.length→runB (nth t k)=true:=by
 unfold numB at h
 split at h
 ·rename_i e
  have hl:0 < t.length:=by
   have:=congrArg List.length e
   rw [List.length_take] at this;simp at this;omega
  have h0:nth t 0=45:=by
   cases t with
   | nil=>simp at hl
   | cons a r=>simp at e;simp [nth,e]
  simp only [Bool.and_eq_true] at h
  have hp:=plain_all h.1
  refine ⟨hl,.inr h0,fun k h1 hk=>?_⟩
  have:=hp.2 (k - 1) (by rw [List.length_drop];omega)
  rw [nth_dropX,show 1+(k - 1)=k by omega] at this
  exact digit_run this
 ·split at h
  ·rename_i e
   have hl:1 < t.length:=by
    have:=congrArg List.length e
    rw [List.length_take] at this;simp at this;omega
   have h0:nth t 0=48∧nth t 1=120:=by
    match t,hl with
    | [a],hl=>simp at hl
    | a :: b :: r,_=>simp at e;simp [nth,e]
   simp only [digsB,Bool.and_eq_true] at h
   refine ⟨by omega,.inl (by rw [h0.1];decide),fun k h1 hk=>?_⟩
   by_cases e1:k=1
   ·subst e1;rw [h0.2];decide
   ·have:=allD_at h.1.1.2 (k:=k - 2) (by rw [List.length_drop];omega)
    rw [nth_dropX,show 2+(k - 2)=k by omega] at this
    exact hex_run ((dv_hex _).1 this)
  ·have hp:=plain_all h
   have hl:0 < t.length:=by
    cases t with
    | nil=>exact absurd rfl hp.1
    | cons a r=>simp
   exact ⟨hl,.inl (hp.2 0 hl),fun k _ hk=>digit_run (hp.2 k hk)⟩
theorem part_esc_any (c:Int) (rest:List Int) (h0:0≤c) (h1:c < 256):nth (escL c ++ rest) 0≠34∧partP (escL c ++ rest) 0=some (c,(escL c).length):=by
 unfold escL
 split
 ·rename_i h
  refine ⟨by simp [nth],?_⟩
  unfold partP
  have e0:nth ([92,c] ++ rest) 0=92:=by simp [nth]
  have e1:nth ([92,c] ++ rest) (0+1)=c:=by simp [nth]
  rw [e0,e1,if_pos rfl,if_pos h];rfl
 ·rename_i h
  split
  ·rename_i hp
   have e0:nth ([c] ++ rest) 0=c:=by simp [nth]
   refine ⟨by rw [e0];omega,?_⟩
   unfold partP
   rw [e0,if_neg (by omega),if_pos hp];rfl
  ·rename_i hp
   have d:∀ n:Int,0≤n→n < 16→hexB (hexD n)=true∧dvI (hexD n)=n:=by
    intro n a b
    have:∀ m:Fin 16,hexB (hexD (m.val:Int))=true∧dvI (hexD (m.val:Int))=(m.val:Int):=by decide
    obtain ⟨m,rfl⟩:=Int.eq_ofNat_of_zero_le a
    exact this ⟨m,by omega⟩
   obtain ⟨a1,a2⟩:=d (c / 16) (by omega) (by omega)
   obtain ⟨b1,b2⟩:=d (c % 16) (by omega) (by omega)
   have e0:nth ([92,120,hexD (c / 16),hexD (c % 16)] ++ rest) 0=92:=by simp [nth]
   have e1:nth ([92,120,hexD (c / 16),hexD (c % 16)] ++ rest) (0+1)=120:=by simp [nth]
   have e2:nth ([92,120,hexD (c / 16),hexD (c % 16)] ++ rest) (0+2)=hexD (c / 16):=by simp [nth]
   have e3:nth ([92,120,hexD (c / 16),hexD (c % 16)] ++ rest) (0+3)=hexD (c % 16):=by simp [nth]
   refine ⟨by rw [e0];omega,?_⟩
   unfold partP
   rw [e0,e1,e2,e3,if_pos rfl,if_neg (by omega),if_pos ⟨rfl,a1,b1⟩,a2,b2]
   congr 1
   simp only [List.length_cons,List.length_nil]
   rw [show 16 * (c / 16)+c % 16=c by omega]
theorem quot_flat (t rest:List Int) (h:Within 256 t):quotP (t.flatMap escL ++ 34 :: rest) 0=some (t,(t.flatMap escL).length+1):=by
 induction t with
 | nil=>exact quotP_close (by simp [nth])
 | cons c t ih =>
  have hc:=h c (by simp)
  have e:(c :: t).flatMap escL ++ 34 :: rest=escL c ++ (t.flatMap escL ++ 34 :: rest):=by simp
  obtain ⟨p1,p2⟩:=part_esc_any c (t.flatMap escL ++ 34 :: rest) hc.1 hc.2
  rw [e,quotP_some p1 p2]
  have hs:=quot_shift (escL c) (t.flatMap escL ++ 34 :: rest) 0
  rw [Nat.add_zero] at hs
  rw [Nat.zero_add,hs,ih (fun z hz=>h z (by simp [hz]))]
  simp;omega
theorem tokS_pos {k:Int} {t:List Int} (h:tokOk k t=true):0 < (tokS k t).length:=by
 unfold tokOk at h
 unfold tokS
 split at h
 ·rename_i e;subst e
  simp only [wordB,Bool.and_eq_true,Bool.not_eq_true',List.isEmpty_eq_false_iff] at h
  simp;exact List.length_pos_iff.2 h.1.1
 ·split at h
  ·rename_i e;subst e;simp
  ·split at h
   ·rename_i e;subst e
    have:=(num_shape h).1
    simpa using this
   ·split at h
    ·rename_i e;subst e;simp [quoteL]
    ·split at h
     ·rename_i e;subst e
      have:=of_decide_eq_true h
      subst this;simp
     ·cases h
theorem tok_read {k:Int} {t rest:List Int} (h:tokOk k t=true) (hw:Within 256 t) (hr:runB (nth rest 0)=false) :
  tokP (tokS k t ++ rest) 0=.inr (k,t,(tokS k t).length)∧blankB (nth (tokS k t ++ rest) 0)=false∧nth (tokS k t ++ rest) 0≠59:=by
 have hstop:∀ u:List Int,u.length=(u ++ rest).length ∨ runB (nth (u ++ rest) u.length)=false:=fun u=>.inr (by rw [getD_right _ _ _ (Nat.le_refl _),Nat.sub_self];exact hr)
 have hpos:=tokS_pos h
 unfold tokOk at h
 split at h
 ·rename_i e;subst e
  have es:tokS 1 t=t:=rfl
  rw [es] at hpos ⊢
  have h':=h
  simp only [wordB,Bool.and_eq_true] at h
  have h0:nth (t ++ rest) 0=nth t 0:=getD_left _ _ _ hpos
  have hE:runE (t ++ rest) 0=t.length:=runE_spec (by omega) (by simp) (fun i _ hi=>by rw [getD_left _ _ _ hi];exact all_nth h.1.2 hi) (hstop t)
  refine ⟨?_,?_,?_⟩
  ·unfold tokP;rw [h0,if_pos h.2,hE,cut_front]
  ·rw [h0]
   cases e:blankB (nth t 0)
   ·rfl
   ·have hl:=h.2
    simp only [blankB,Bool.or_eq_true,beq_iff_eq] at e
    rcases e with (e | e) | e <;> (rw [e] at hl;exact absurd hl (by decide))
  ·rw [h0];intro e;have hl:=h.2;rw [e] at hl;exact absurd hl (by decide)
 ·split at h
  ·rename_i e;subst e
   have es:tokS 2 t=37 :: t:=rfl
   rw [es]
   have hp:=plain_all h
   have h0:nth (37 :: t ++ rest) 0=37:=by simp [nth]
   have hE:runE (37 :: t ++ rest) 1=1+t.length:=by
    have:=runE_shift [37] (t ++ rest) 0
    have h2:runE (t ++ rest) 0=t.length:=runE_spec (by omega) (by simp) (fun i _ hi=>by rw [getD_left _ _ _ hi];exact digit_run (hp.2 i hi)) (hstop t)
    rw [h2] at this
    simpa using this
   have hC:cutL (37 :: t ++ rest) 1 (1+t.length)=t:=by
    have:=cut_shift [37] (t ++ rest) 0 t.length
    rw [cut_front] at this
    simpa using this
   refine ⟨?_,by rw [h0];rfl,by rw [h0];decide⟩
   unfold tokP
   rw [h0,if_neg (by decide),if_pos rfl,Nat.zero_add,hE,hC,if_pos h]
   simp;omega
  ·split at h
   ·rename_i e;subst e
    have es:tokS 3 t=t:=rfl
    rw [es] at hpos ⊢
    obtain ⟨_,s1,s2⟩:=num_shape h
    have h0:nth (t ++ rest) 0=nth t 0:=getD_left _ _ _ hpos
    have hE:runE (t ++ rest) 1=t.length:=runE_spec (by omega) (by simp) (fun i h1 hi=>by rw [getD_left _ _ _ hi];exact s2 i h1 hi) (hstop t)
    have hn:letterB (nth t 0)=false∧nth t 0≠37∧nth t 0≠59∧blankB (nth t 0)=false∧(digitB (nth t 0) || decide (nth t 0=45))=true:=by
     rcases s1 with s1 | s1
     ·have s1':=s1
      simp only [digitB,decide_eq_true_eq] at s1
      refine ⟨?_,by omega,by omega,?_,by simp [s1']⟩
      ·simp [letterB];omega
      ·simp [blankB];omega
     ·rw [s1];decide
    refine ⟨?_,by rw [h0];exact hn.2.2.2.1,by rw [h0];exact hn.2.2.1⟩
    unfold tokP
    rw [h0,if_neg (by simp [hn.1]),if_neg hn.2.1,if_pos hn.2.2.2.2,Nat.zero_add,hE,cut_front,if_pos h]
   ·split at h
    ·rename_i e;subst e
     have es:tokS 4 t ++ rest=[34] ++ (t.flatMap escL ++ 34 :: rest):=by simp [tokS,quoteL]
     have el:(tokS 4 t).length=(t.flatMap escL).length+2:=by simp [tokS,quoteL]
     rw [es,el]
     have h0:nth ([34] ++ (t.flatMap escL ++ 34 :: rest)) 0=34:=by simp [nth]
     have hq:=quot_shift [34] (t.flatMap escL ++ 34 :: rest) 0
     rw [quot_flat t rest hw] at hq
     simp only [List.length_singleton,Nat.add_zero,Option.map_some] at hq
     refine ⟨?_,by rw [h0];rfl,by rw [h0];decide⟩
     unfold tokP
     rw [h0,if_neg (by decide),if_neg (by decide),if_neg (by decide),if_pos rfl,Nat.zero_add,hq]
     simp;omega
    ·split at h
     ·rename_i e;subst e
      have:=of_decide_eq_true h
      subst this
      have es:tokS 5 [61]=[61]:=rfl
      rw [es]
      have h0:nth ([61] ++ rest) 0=61:=by simp [nth]
      refine ⟨?_,by rw [h0];rfl,by rw [h0];decide⟩
      unfold tokP
      rw [h0,if_neg (by decide),if_neg (by decide),if_neg (by decide),if_neg (by decide),if_pos rfl];rfl
     ·cases h
/-! ### a line of tokens -/

def placed:Nat→List TokT→List TokT
 | _,[]=>[]
 | p,t :: r=>(t.1,t.2.1,(p:Int)) :: placed (p+(tokS t.1 (strI t.2.1)).length+1) r
theorem placed_move (k:Nat) (l:List TokT):∀ p,(placed p l).map (moveT k)=placed (p+k) l:=by
 induction l with
 | nil=>intro p;rfl
 | cons t r ih =>
  intro p
  simp only [placed,List.map_cons,ih,moveT]
  rw [show p+(tokS t.1 (strI t.2.1)).length+1+k=p+k+(tokS t.1 (strI t.2.1)).length+1 by omega]
  simp
theorem wAll_head (r:List TokT):runB (nth (wAll r) 0)=false:=by
 cases r with
 | nil=>rfl
 | cons t r=>rfl
theorem toks_wAll (r:List TokT) (h:toksP ((wAll r).drop 1) 0=(placed 0 r,0,0)):toksP (wAll r) 0=(placed 1 r,0,0):=by
 cases r with
 | nil=>rfl
 | cons t r =>
  have e:wAll (t :: r)=List.replicate 1 32 ++ (wAll (t :: r)).drop 1:=rfl
  rw [e,toks_blanks,h]
  unfold shiftR
  rw [placed_move];rfl
theorem toks_written (l:List TokT) (h:wOk l=true):toksP ((wAll l).drop 1) 0=(placed 0 l,0,0):=by
 induction l with
 | nil=>rfl
 | cons t r ih =>
  simp only [wOk,List.all_cons,Bool.and_eq_true] at h
  have ih:=toks_wAll r (ih h.2)
  have e:(wAll (t :: r)).drop 1=tokS t.1 (strI t.2.1) ++ wAll r:=by simp [wAll]
  obtain ⟨h1,h2,h3⟩:=tok_read h.1 (strI_within t.2.1) (wAll_head r)
  have hp:=tokS_pos h.1
  have hs:=toks_shift (tokS t.1 (strI t.2.1)) (wAll r) 0
  rw [Nat.add_zero,ih] at hs
  rw [e,toksP_tok (by rw [List.length_append];omega) h3 h2 h1,hs,str_of_strI]
  unfold shiftR consR
  rw [placed_move,if_pos rfl]
  simp only [placed]
  rw [Nat.zero_add,Nat.add_comm 1]
def dgL (n:Nat):List Int:=if n≤9 then [48+(n:Int)] else dgL (n / 10) ++ [48+((n % 10:Nat):Int)]
termination_by n
decreasing_by omega
theorem dgL_small {n:Nat} (h:n≤9):dgL n=[48+(n:Int)]:=by rw [dgL,if_pos h]
theorem dgL_big {n:Nat} (h:¬ n≤9):dgL n=dgL (n / 10) ++ [48+((n % 10:Nat):Int)]:=by rw [dgL,if_neg h]
theorem dv_dg (d:Nat) (h:d≤9):dvI (48+(d:Int))=d∧digitB (48+(d:Int))=true:=by
 have hd:digitB (48+(d:Int))=true:=by simp [digitB];omega
 refine ⟨?_,hd⟩
 unfold dvI
 rw [if_pos (digit_hex hd)]
 unfold worthI
 rw [if_pos (by omega)]
 omega
theorem dgL_facts:∀ n:Nat,valF 10 0 (dgL n)=n∧allD 10 (dgL n)=true∧(0 < (dgL n).length)∧(1≤n→nth (dgL n) 0≠48)∧(1 < (dgL n).length→9 < n)∧Within 256 (dgL n)∧(∀ z ∈ dgL n,48≤z∧z≤57):=by
 intro n
 induction n using Nat.strongRecOn with
 | _ n ih =>
  by_cases h:n≤9
  ·obtain ⟨d1,d2⟩:=dv_dg n h
   rw [dgL_small h]
   refine ⟨?_,?_,by simp,?_,by simp,within_one (by omega) (by omega),?_⟩
   ·simp [valF,d1]
   ·simp [allD,d1];omega
   ·intro h1;simp [nth];omega
   ·intro z hz;have:=List.mem_singleton.1 hz;omega
  ·obtain ⟨i1,i2,i3,i4,i5,i6,i7⟩:=ih (n / 10) (by omega)
   obtain ⟨d1,d2⟩:=dv_dg (n % 10) (by omega)
   rw [dgL_big h]
   refine ⟨?_,?_,by simp,?_,fun _=>by omega,within_appX i6 (within_one (by omega) (by omega)),?_⟩
   ·rw [valF_snoc,i1,d1];omega
   ·simp only [allD,List.all_append,Bool.and_eq_true] at i2 ⊢
    exact ⟨i2,by simp only [List.all_cons,List.all_nil,Bool.and_true,decide_eq_true_eq];rw [d1];omega⟩
   ·intro _
    rw [getD_left _ _ _ i3]
    exact i4 (by omega)
   ·intro z hz
    rcases List.mem_append.1 hz with hz | hz
    ·exact i7 z hz
    ·have:=List.mem_singleton.1 hz;omega
theorem dgL_len:∀ (k n:Nat),n < 10 ^ (k+1)→(dgL n).length≤k+1:=by
 intro k
 induction k with
 | zero=>intro n h;rw [dgL_small (by omega)];simp
 | succ k ih =>
  intro n h
  by_cases h9:n≤9
  ·rw [dgL_small h9];simp
  ·rw [dgL_big h9,List.length_append]
   have:=ih (n / 10) (by rw [Nat.pow_succ] at h;omega)
   simp;omega
theorem dgL_plain {n:Nat} (h:n < 4294967296):plainB (dgL n)=true:=by
 obtain ⟨h1,h2,h3,h4,h5,_⟩:=dgL_facts n
 have e:(decide (1 < (dgL n).length) && nth (dgL n) 0 == 48)=false:=by
  cases e:(decide (1 < (dgL n).length) && nth (dgL n) 0 == 48)
  ·rfl
  ·simp at e
   exact absurd e.2 (h4 (by have:=h5 e.1;omega))
 have e2:(dgL n).isEmpty=false:=by
  cases e:dgL n with
  | nil=>rw [e] at h3;simp at h3
  | cons a r=>rfl
 simp only [plainB,digsB,e,e2,h1,h2]
 simp;omega
theorem dgL_num {n:Nat} (h:n < 4294967296):numB (dgL n)=true∧numV (dgL n)=(n:Int):=by
 obtain ⟨h1,h2,h3,h4,h5,_,h7⟩:=dgL_facts n
 have e1:¬ (dgL n).take 1=[45]:=fun e=>by
  have:(45:Int) ∈ dgL n:=List.mem_of_mem_take (by rw [e];simp:(45:Int) ∈ (dgL n).take 1)
  have:=h7 _ this;omega
 have e2:¬ (dgL n).take 2=[48,120]:=fun e=>by
  have:(120:Int) ∈ dgL n:=List.mem_of_mem_take (by rw [e];simp:(120:Int) ∈ (dgL n).take 2)
  have:=h7 _ this;omega
 unfold numB numV
 rw [if_neg e1,if_neg e1,if_neg e2,if_neg e2]
 exact ⟨dgL_plain h,h1⟩
def dgS (n:Int):ByteArray:=strOfNums (dgL n.toNat)
theorem strI_dgS (n:Int):strI (dgS n)=dgL n.toNat:=strI_of (dgL_facts _).2.2.2.2.2.1
theorem dgS_size {n:Int} (h:n < 4294967296):(dgS n).size≤10:=by
 rw [← strI_len,strI_dgS];exact dgL_len 9 _ (by omega)
end Go.Proofs.YtddkapkkjhomkabGreatDoor
namespace Go.Proofs.YtddkapkkjhomkabGreatDoor
open Go.RowKit Go.Shelf Go.Sort Go.Lib

def Fsm.ren:Go.Shelf.Ren:=⟨fun | 283=>166 | n=>n,fun | 3=>3 | 4=>4 | 9=>9 | n=>n,fun  | n=>n⟩
theorem Fsm.lays:Go.Proofs.Lays.n283 Tryz.prog Fsm.ren:={
 mixed:=by kernel_rfl
 f283:=Tryz.func166.trans (congrArg some (by kernel_rfl))
 t3:=Tryz.underlying3
 a3:=Tryz.isAgg3
 z3:=Tryz.sizeOf3
 v3:=Tryz.zeroValue3
 t4:=Tryz.underlying4
 a4:=Tryz.isAgg4
 z4:=Tryz.sizeOf4
 v4:=Tryz.zeroValue4
 t9:=Tryz.underlying9
 a9:=Tryz.isAgg9
 z9:=Tryz.sizeOf9
 v9:=Tryz.zeroValue9 }
def Fnd.ren:Go.Shelf.Ren:=⟨fun | 129=>178 | 284=>167 | 317=>177 | 318=>179 | n=>n,fun | 0=>0 | 3=>3 | 4=>4 | 5=>5 | 9=>9 | 46=>184 | 53=>136 | 212=>261 | n=>n,fun | 17=>1 | n=>n⟩
theorem Fnd.lays:Go.Proofs.LaysM.n284 Tryz.prog Fnd.ren:={
 mixed:=by kernel_rfl
 f129:=Tryz.func178.trans (congrArg some (by kernel_rfl))
 f284:=Tryz.func167.trans (congrArg some (by kernel_rfl))
 f317:=Tryz.func177.trans (congrArg some (by kernel_rfl))
 f318:=Tryz.func179.trans (congrArg some (by kernel_rfl))
 t0:=Tryz.underlying0
 a0:=Tryz.isAgg0
 z0:=Tryz.sizeOf0
 v0:=Tryz.zeroValue0
 t3:=Tryz.underlying3
 a3:=Tryz.isAgg3
 z3:=Tryz.sizeOf3
 v3:=Tryz.zeroValue3
 t4:=Tryz.underlying4
 a4:=Tryz.isAgg4
 z4:=Tryz.sizeOf4
 v4:=Tryz.zeroValue4
 t5:=Tryz.underlying5
 a5:=Tryz.isAgg5
 z5:=Tryz.sizeOf5
 v5:=Tryz.zeroValue5
 t9:=Tryz.underlying9
 a9:=Tryz.isAgg9
 z9:=Tryz.sizeOf9
 v9:=Tryz.zeroValue9
 t46:=Tryz.underlying184
 a46:=Tryz.isAgg184
 z46:=Tryz.sizeOf184
 v46:=Tryz.zeroValue184
 t53:=Tryz.underlying136
 a53:=Tryz.isAgg136
 z53:=Tryz.sizeOf136
 v53:=Tryz.zeroValue136
 t212:=Tryz.underlying261
 a212:=Tryz.isAgg261
 z212:=Tryz.sizeOf261
 v212:=Tryz.zeroValue261
 g17:=by kernel_rfl
 i0:=by kernel_rfl
 i3:=by kernel_rfl
 i4:=by kernel_rfl
 i5:=by kernel_rfl
 i9:=by kernel_rfl
 i46:=by kernel_rfl
 i53:=by kernel_rfl
 i212:=by kernel_rfl
 m17:=by kernel_rfl }
def Ffb.ren:Go.Shelf.Ren:=⟨fun | 285=>168 | n=>n,fun | 0=>0 | 3=>3 | 4=>4 | 5=>5 | 9=>9 | 37=>58 | 51=>22 | 53=>136 | n=>n,fun  | n=>n⟩
theorem Ffb.lays:Go.Proofs.Lays.n285 Tryz.prog Ffb.ren:={
 mixed:=by kernel_rfl
 f285:=Tryz.func168.trans (congrArg some (by kernel_rfl))
 t0:=Tryz.underlying0
 a0:=Tryz.isAgg0
 z0:=Tryz.sizeOf0
 v0:=Tryz.zeroValue0
 t3:=Tryz.underlying3
 a3:=Tryz.isAgg3
 z3:=Tryz.sizeOf3
 v3:=Tryz.zeroValue3
 t4:=Tryz.underlying4
 a4:=Tryz.isAgg4
 z4:=Tryz.sizeOf4
 v4:=Tryz.zeroValue4
 t5:=Tryz.underlying5
 a5:=Tryz.isAgg5
 z5:=Tryz.sizeOf5
 v5:=Tryz.zeroValue5
 t9:=Tryz.underlying9
 a9:=Tryz.isAgg9
 z9:=Tryz.sizeOf9
 v9:=Tryz.zeroValue9
 t37:=Tryz.underlying58
 a37:=Tryz.isAgg58
 z37:=Tryz.sizeOf58
 v37:=Tryz.zeroValue58
 t51:=Tryz.underlying22
 a51:=Tryz.isAgg22
 z51:=Tryz.sizeOf22
 v51:=Tryz.zeroValue22
 t53:=Tryz.underlying136
 a53:=Tryz.isAgg136
 z53:=Tryz.sizeOf136
 v53:=Tryz.zeroValue136 }
def Pow10 (w:World):Prop:=Lib.TabIs Tryz.prog w "internal/strconv.uint64pow10" .u64 Lib.pow10Tab
theorem dec_dg:∀ u:Nat,(⟨(Lib.decDigits u).toArray⟩:ByteArray)=strOfNums (dgL u):=by
 intro u
 induction u using Nat.strongRecOn with
 | _ u ih =>
  by_cases h:u < 10
  ·rw [Lib.decDigits,dif_pos h,dgL_small (by omega)]
   have:∀ m:Fin 10,(⟨([UInt8.ofNat (48+m.val)]:List UInt8).toArray⟩:ByteArray)=strOfNums [48+(m.val:Int)]:=by decide
   exact this ⟨u,h⟩
  ·rw [Lib.decDigits,dif_neg h,dgL_big (by omega),strOfNums_append,← ih (u / 10) (by omega)]
   have:∀ m:Fin 10,(⟨([UInt8.ofNat (48+m.val)]:List UInt8).toArray⟩:ByteArray)=strOfNums [48+(m.val:Int)]:=by decide
   rw [← this ⟨u % 10,by omega⟩]
   apply ByteArray.ext
   simp
theorem small_any (i:Nat) (h:i < 100) (w:World):Calls Tryz.prog 166 #[.int .i64 i] w fun e w'=>e=.returned (.string (strOfNums (dgL i)))∧w'=w:=by
 have:=Any.internal_strconv_small Fsm.lays i h w
 rw [dec_dg] at this
 exact this
theorem numDigits_any (u:Nat) (h1:1≤u) (h2:u < 18446744073709551616) (w:World) (ht:Pow10 w):Calls Tryz.prog 167 #[.int .u64 u] w fun e w'=>e=.returned (.int .i64 (Lib.nDigits u))∧w'=w:=Any.internal_strconv_numDigits Fnd.lays u h1 h2 w ht
theorem putRow_below (w:World) (o:Obj) (dk:Array UInt8) (k:Nat):Below w.heap.size w ((putRow (fun (b:UInt8)=>Value.int .u8 (b.toNat:Int)) (w.alloc o) w.heap.size 0 dk).drewN k):=by
 refine bel_drewN ?_ k
 have h0:=(Below.refl _ w).alloc (Nat.le_refl _) o
 refine ⟨h0.os,h0.tape,h0.output,?_,fun i hi=>?_⟩
 ·simp [putRow,mapBlock]
 ·rw [← h0.block i hi]
  simp [putRow,mapBlock,Array.getElem?_modify]
  omega
set_option maxHeartbeats 6400000 in
set_option maxRecDepth 100000 in
theorem intFormatUint_any (u:Nat) (hu64:u < 18446744073709551616) (w:World) (ht:Pow10 w) :
  Calls Tryz.prog 152 #[.int .u64 u,.int .i64 10] w fun e w'=>e=.returned (.string (strOfNums (dgL u)))∧Below w.heap.size w w':=by
 by_cases hs:u < 100
 ·have hsm:=small_any u hs w
  have hlt:(u:Int) < 100:=by omega
  go_enter Tryz.func152,Tryz.ntmps152
  go_wp2_with fail
  refine hsm.mono ?_
  rintro e w' ⟨rfl,rfl⟩
  go_wp2_with fail
  go_ret
  exact ⟨rfl,Below.refl _ _⟩
 ·have hnd20:Lib.nDigits u≤20:=by have:=Lib.numDigits_eq u (by omega) hu64;split at this <;> omega
  have hge:decide ((u:Int) < 100)=false:=by simp;omega
  have hge2:decide (u < 100)=false:=by simp;omega
  have hn:=numDigits_any u (by omega) hu64 _ (Lib.tabIs_alloc ht (.cells Lib.zeros24 250))
  have hH0:=Lib.holds_zero0 w 250 (Lib.nDigits u) (by omega)
  have hfmt:=Any.internal_strconv_formatBase10 Ffb.lays w.heap.size 0 24 u (Array.replicate (Lib.nDigits u) 0) (w.alloc (.cells Lib.zeros24 250)) hH0 (by rw [Array.size_replicate];exact Lib.lt_pow_nDigits u) hu64 (by rw [Array.size_replicate];omega)
  rw [Array.size_replicate] at hfmt
  have HH0:=Lib.hid hH0
  have hal:Tryz.prog.arrayLen 250=24:=by kernel_rfl
  have hsl:∀ W,(Instr.sliceAt 250 (.pointer (some ⟨w.heap.size,0,none⟩)) none (some (.int .i64 (Lib.nDigits u:Int))) none).run Tryz.prog W=.ok (.slice (some ⟨w.heap.size,0,none⟩) (Lib.nDigits u) 24) W:=fun W=>by
   rw [run_sliceAt_array_h W 250 ⟨w.heap.size,0,none⟩ (by kernel_rfl) .i64 (Lib.nDigits u:Int) (by omega) (by rw [hal];omega)]
   go_simp
  clear hH0 hal hs
  go_enter Tryz.func152,Tryz.ntmps152
  go_wp2_with fail
  refine hn.mono ?_
  rintro e w' ⟨rfl,rfl⟩
  clear hn ht
  go_wp2_with fail
  refine hfmt.mono ?_
  rintro e w' ⟨rfl,k,v',dk,rfl,hF⟩
  have hcv:(convert 58 9 (.slice (some ⟨w.heap.size,0,none⟩) (Lib.nDigits u) 24)).run Tryz.prog ((putRow (fun (b:UInt8)=>Value.int .u8 (b.toNat:Int)) (w.alloc (.cells Lib.zeros24 250)) w.heap.size 0 dk).drewN k)=.ok (.string ⟨(Lib.decDigits u).toArray⟩) ((putRow (fun (b:UInt8)=>Value.int .u8 (b.toNat:Int)) (w.alloc (.cells Lib.zeros24 250)) w.heap.size 0 dk).drewN k):=by
   have h:=run_convert_bytes_back (P:=Tryz.prog) ((putRow (fun (b:UInt8)=>Value.int .u8 (b.toNat:Int)) (w.alloc (.cells Lib.zeros24 250)) w.heap.size 0 dk).drewN k) 58 9 5 ⟨w.heap.size,0,none⟩ 24 (Lib.decDigits u) Tryz.underlying58 Tryz.underlying5 Tryz.underlying9 (fun j hj=>by
    rw [Lib.row_is_numeral hF j hj,Lib.add_plain,World.cell?_drewN]
    exact cell?_putRow (fun (b:UInt8)=>Value.int .u8 (b.toNat:Int)) _ w.heap.size 0 _ dk HH0.out (by rw [hF.size,Array.size_replicate]) j (by rw [hF.size];rw [Lib.decDigits_length] at hj;exact hj))
   rw [Lib.decDigits_length] at h
   exact h
  have HB:=Lib.hid (putRow_below w (.cells Lib.zeros24 250) dk k)
  rw [dec_dg] at hcv
  generalize (putRow (fun (b:UInt8)=>Value.int .u8 (b.toNat:Int)) (w.alloc (.cells Lib.zeros24 250)) w.heap.size 0 dk).drewN k=W9 at *
  clear hfmt HH0
  go_wp2_with fail
  go_ret
  exact ⟨rfl,HB.out⟩
theorem formatUint_any (u:Nat) (hu64:u < 18446744073709551616) (w:World) (ht:Pow10 w) :
  Calls Tryz.prog 124 #[.int .u64 u,.int .i64 10] w fun e w'=>e=.returned (.string (strOfNums (dgL u)))∧Below w.heap.size w w':=by
 have hC:=intFormatUint_any u hu64 w ht
 go_enter Tryz.func124,Tryz.ntmps124
 go_wp2_with fail
 refine hC.mono ?_
 rintro e w' ⟨rfl,hb⟩
 go_wp2_with fail
 go_ret
 exact ⟨rfl,hb⟩
end Go.Proofs.YtddkapkkjhomkabGreatDoor
namespace Go.Proofs.YtddkapkkjhomkabGreatDoor
open Go.RowKit

def tokV (x:TokT):Value:=.agg #[.int .u8 x.1,.string x.2.1,.int .i64 x.2.2]
def tokC (x:TokT):List Value:=[.int .u8 x.1,.string x.2.1,.int .i64 x.2.2]
def ToksV (w:World) (a:Option Addr) (l:List TokT):Prop :=
 ∀ j,j < l.length→∃ b off,a=some ⟨b,off,none⟩∧b < w.heap.size∧w.cell? ⟨b,off+j * 3,none⟩=some (.int .u8 (nthT l j).1)∧w.cell? ⟨b,off+j * 3+1,none⟩=some (.string (nthT l j).2.1)∧w.cell? ⟨b,off+j * 3+2,none⟩=some (.int .i64 (nthT l j).2.2)
def TokIn (x:TokT):Prop:=0≤x.1∧x.1 < 256∧x.2.1.size≤140737488351232∧-9223372036854775808≤x.2.2∧x.2.2 < 9223372036854775808
def ToksIn (l:List TokT):Prop:=∀ j,j < l.length→TokIn (nthT l j)
theorem toksV_nil {w:World} {a:Option Addr}:ToksV w a []:=fun j hj=>by simp at hj
theorem ToksV.below {w w':World} {a:Option Addr} {l:List TokT} (h:ToksV w a l) (hb:Below w.heap.size w w'):ToksV w' a l:=by
 intro j hj
 obtain ⟨b,off,e,hlt,h1,h2,h3⟩:=h j hj
 exact ⟨b,off,e,Nat.lt_of_lt_of_le hlt hb.size,(hb.cell (p:=⟨b,off+j * 3,none⟩) hlt).trans h1,(hb.cell (p:=⟨b,off+j * 3+1,none⟩) hlt).trans h2,(hb.cell (p:=⟨b,off+j * 3+2,none⟩) hlt).trans h3⟩
theorem nthT_lt (l:List TokT) (j:Nat) (h:j < l.length):nthT l j=l[j]:=by simp [nthT,List.getD,h]
theorem flatT_at (l:List TokT) (j:Nat) (h:j < l.length):(l.flatMap tokC)[j * 3]?=some (.int .u8 (nthT l j).1)∧(l.flatMap tokC)[j * 3+1]?=some (.string (nthT l j).2.1)∧(l.flatMap tokC)[j * 3+2]?=some (.int .i64 (nthT l j).2.2):=by
 induction l generalizing j with
 | nil=>simp at h
 | cons x l ih =>
  cases j with
  | zero=>simp [tokC,nthT]
  | succ j =>
   have:=ih j (by simpa using h)
   rw [show (j+1) * 3=3+j * 3 by omega]
   have e:∀ i,(List.flatMap tokC (x :: l))[3+i]?=(l.flatMap tokC)[i]?:=fun i=>by
    rw [List.flatMap_cons,List.getElem?_append_right (by simp [tokC])]
    congr 1;simp [tokC]
   rw [e,show 3+j * 3+1=3+(j * 3+1) by omega,e,show 3+j * 3+2=3+(j * 3+2) by omega,e]
   have e2:nthT (x :: l) (j+1)=nthT l j:=by simp [nthT,List.getD]
   rw [e2];exact this
theorem ToksV.ofRow {w:World} {B e g n cap:Nat} {l:List TokT} (h:w.ownsRow B e 3 (.slice (some ⟨g,0,none⟩) n cap) n (l.flatMap tokC)) (hl:l.length=n):ToksV w (some ⟨g,0,none⟩) l:=by
 intro j hj
 have hc:=h.cells (g:=g) rfl
 obtain ⟨h0,h1,h2⟩:=flatT_at l j hj
 have c0:=hc _ _ h0
 have c1:=hc _ _ h1
 have c2:=hc _ _ h2
 rw [Addr.add_lit,Nat.zero_add] at c0 c1 c2
 refine ⟨g,0,rfl,World.block_lt_of_cell? _ _ c0,?_,?_,?_⟩
 ·rw [Nat.zero_add];exact c0
 ·rw [Nat.zero_add];exact c1
 ·rw [Nat.zero_add];exact c2
theorem cut_within {m:Int} {l:List Int} (h:Within m l) (a b:Nat):Within m (cutL l a b):=fun z hz=>h z (List.mem_of_mem_take (List.mem_of_mem_drop hz))
theorem cut_length (l:List Int) (a b:Nat) (h:b≤l.length):(cutL l a b).length=b - a:=by
 unfold cutL;rw [List.length_drop,List.length_take];omega
theorem cut_nth (l:List Int) (a b i:Nat) (h:a+i < b):nth (cutL l a b) i=nth l (a+i):=by
 unfold cutL nth
 simp [List.getD,List.getElem?_drop,List.getElem?_take,h]
theorem run_in {l:List Int} {p i:Nat} (h:p≤i) (hi:i < runE l p):runB (nth l i)=true:=by
 have key:∀ (m:List Int) (j:Nat),j < (m.takeWhile runB).length→runB (nth m j)=true:=by
  intro m
  induction m with
  | nil=>intro j hj;simp at hj
  | cons c m ih =>
   intro j hj
   by_cases hc:runB c=true
   ·rw [List.takeWhile_cons_of_pos hc] at hj
    cases j with
    | zero=>exact hc
    | succ j =>
     have:=ih j (by simpa using hj)
     simpa [nth,List.getD] using this
   ·rw [List.takeWhile_cons_of_neg hc] at hj;simp at hj
 unfold runE at hi
 have:=key (l.drop p) (i - p) (by omega)
 rw [nth_dropX,show p+(i - p)=i by omega] at this
 exact this
theorem part_byte {l:List Int} (hw:Within 256 l) {p n:Nat} {b:Int} (h:partP l p=some (b,n)):0≤b∧b < 256:=by
 have hn:∀ k,0≤nth l k∧nth l k < 256:=fun k=>by
  rcases Nat.lt_or_ge k l.length with h' | h'
  ·exact hw.at h'
  ·rw [nth_over l k h'];omega
 unfold partP at h
 split at h
 ·split at h
  ·simp at h;have:=hn (p+1);omega
  ·split at h
   ·rename_i h1
    simp at h
    have a:=dv_lo (nth l (p+2));have b:=(dv_hex (nth l (p+2))).2 h1.2.1
    have c:=dv_lo (nth l (p+3));have d:=(dv_hex (nth l (p+3))).2 h1.2.2
    omega
   ·cases h
 ·split at h
  ·simp at h;have:=hn p;omega
  ·cases h
theorem quot_bytes {l:List Int} (hw:Within 256 l) {p q:Nat} {b:List Int} (h:quotP l p=some (b,q)):Within 256 b∧b.length+p+1≤q:=by
 have key:∀ (f p q:Nat) (b:List Int),quotF f l p=some (b,q)→Within 256 b∧b.length+p+1≤q:=by
  intro f
  induction f with
  | zero=>intro p q b h;cases h
  | succ f ih =>
   intro p q b h
   rw [quotF_succ] at h
   split at h
   ·simp at h
    obtain ⟨rfl,rfl⟩:=h
    exact ⟨fun z hz=>by simp at hz,by simp⟩
   ·cases e:partP l p with
    | none=>rw [e] at h;cases h
    | some bn =>
     obtain ⟨b',n⟩:=bn
     rw [e] at h
     simp only [Option.map_eq_some_iff] at h
     obtain ⟨⟨bs,q'⟩,h1,h2⟩:=h
     simp only [Prod.mk.injEq] at h2
     obtain ⟨rfl,rfl⟩:=h2
     have h3:=ih _ _ _ h1
     have h4:=part_byte hw e
     have h5:=partP_some e
     exact ⟨within_cons h4.1 h4.2 h3.1,by simp only [List.length_cons];omega⟩
 exact key _ p q b h
theorem tok_good {l:List Int} (hw:Within 256 l) {p q:Nat} {k:Int} {t:List Int} (hp:p < l.length) (h:tokP l p=.inr (k,t,q)):tokOk k t=true∧Within 256 t∧t.length+p≤q∧0≤k∧k < 256:=by
 have hq:=tokP_end hp h
 unfold tokP at h
 split at h
 ·rename_i hc
  simp only [Sum.inr.injEq,Prod.mk.injEq] at h
  obtain ⟨rfl,rfl,rfl⟩:=h
  refine ⟨?_,cut_within hw _ _,by rw [cut_length _ _ _ hq.2];omega,by decide,by decide⟩
  have hl:=cut_length l p (runE l p) hq.2
  show wordB _=true
  rw [word_all (fun e=>by rw [e] at hl;simp at hl;omega) (fun i hi=>?_),cut_nth _ _ _ _ (by omega)]
  ·exact hc
  ·rw [hl] at hi
   rw [cut_nth l p (runE l p) i (by omega)]
   exact run_in (p:=p) (by omega) (by omega)
 ·split at h
  ·split at h
   ·rename_i hc
    simp only [Sum.inr.injEq,Prod.mk.injEq] at h
    obtain ⟨rfl,rfl,rfl⟩:=h
    exact ⟨hc,cut_within hw _ _,by rw [cut_length _ _ _ hq.2];omega,by decide,by decide⟩
   ·cases h
  ·split at h
   ·split at h
    ·rename_i hc
     simp only [Sum.inr.injEq,Prod.mk.injEq] at h
     obtain ⟨rfl,rfl,rfl⟩:=h
     exact ⟨hc,cut_within hw _ _,by rw [cut_length _ _ _ hq.2];omega,by decide,by decide⟩
    ·cases h
   ·split at h
    ·split at h
     ·rename_i e
      have:=quot_bytes hw e
      simp only [Sum.inr.injEq,Prod.mk.injEq] at h
      obtain ⟨rfl,rfl,rfl⟩:=h
      exact ⟨rfl,this.1,by omega,by decide,by decide⟩
     ·cases h
    ·split at h
     ·simp only [Sum.inr.injEq,Prod.mk.injEq] at h
      obtain ⟨rfl,rfl,rfl⟩:=h
      exact ⟨rfl,within_one (by decide) (by decide),by simp;omega,by decide,by decide⟩
     ·cases h
theorem tok_err {l:List Int} {p:Nat} {e:Int} (h:tokP l p=.inl e):e=60 ∨ e=61 ∨ e=62:=by
 unfold tokP at h
 repeat' (split at h)
 all_goals simp at h
 all_goals omega
theorem toks_good {l:List Int} (hw:Within 256 l) (p:Nat):wOk (toksP l p).1=true∧bulkT (toksP l p).1≤l.length - p∧(toksP l p).1.length≤l.length - p∧(∀ t ∈ (toksP l p).1,0≤t.1∧t.1 < 256∧t.2.1.size≤l.length∧0≤t.2.2∧t.2.2 < l.length) ∧
  ((toksP l p).2.1=0 ∨ ((toksP l p).2.1=60 ∨ (toksP l p).2.1=61 ∨ (toksP l p).2.1=62)∧0≤(toksP l p).2.2∧(toksP l p).2.2 < l.length):=by
 have key:∀ f p,wOk (toksF f l p).1=true∧bulkT (toksF f l p).1≤l.length - p∧(toksF f l p).1.length≤l.length - p∧(∀ t ∈ (toksF f l p).1,0≤t.1∧t.1 < 256∧t.2.1.size≤l.length∧0≤t.2.2∧t.2.2 < l.length) ∧
  ((toksF f l p).2.1=0 ∨ ((toksF f l p).2.1=60 ∨ (toksF f l p).2.1=61 ∨ (toksF f l p).2.1=62)∧0≤(toksF f l p).2.2∧(toksF f l p).2.2 < l.length):=by
  intro f
  induction f with
  | zero=>intro p;exact ⟨rfl,by simp [toksF,bulkT],by simp [toksF],fun t ht=>by simp [toksF] at ht,.inl rfl⟩
  | succ f ih =>
   intro p
   rw [toksF_succ]
   split
   ·rename_i hc
    split
    ·have:=ih (p+1)
     exact ⟨this.1,by omega,by omega,this.2.2.2.1,this.2.2.2.2⟩
    ·cases e:tokP l p with
     | inl er =>
      have:=tok_err e
      exact ⟨rfl,by simp [bulkT],by simp,fun t ht=>by simp at ht,.inr ⟨this,by simp;omega⟩⟩
     | inr r =>
      obtain ⟨k,t,q⟩:=r
      have hq:=tokP_end hc.1 e
      obtain ⟨g1,g2,g3,g4,g5⟩:=tok_good hw hc.1 e
      obtain ⟨i1,i2,i3,i4,i5⟩:=ih q
      simp only
      unfold consR
      split
      ·rename_i h0
       have hsz:(strOfNums t).size=t.length:=strOfNums_size t
       refine ⟨?_,?_,?_,?_,.inl rfl⟩
       ·simp only [wOk,List.all_cons,Bool.and_eq_true]
        refine ⟨by rw [strI_of g2];exact g1,i1⟩
       ·simp only [bulkT,List.map_cons,List.sum_cons] at i2 ⊢
        rw [hsz];omega
       ·simp only [List.length_cons];omega
       ·intro x hx
        rcases List.mem_cons.1 hx with rfl | hx
        ·exact ⟨g4,g5,by simp only [hsz];omega,by simp,by simp;omega⟩
        ·exact i4 x hx
      ·exact ⟨i1,by omega,by omega,i4,i5⟩
   ·exact ⟨rfl,by simp [bulkT],by simp,fun t ht=>by simp at ht,.inl rfl⟩
 exact key _ p
theorem toksIn_of {l:List TokT} {n:Nat} (hn:n≤140737488351232) (h:∀ t ∈ l,0≤t.1∧t.1 < 256∧t.2.1.size≤n∧0≤t.2.2∧t.2.2 < n):ToksIn l:=by
 intro j hj
 rw [nthT_lt l j hj]
 have:=h _ (List.getElem_mem hj)
 exact ⟨this.1,this.2.1,by omega,by omega,by omega⟩
/-! ### tokens that are written anew -/

theorem placed_len (l:List TokT):∀ p,(placed p l).length=l.length:=by
 induction l with
 | nil=>intro p;rfl
 | cons t r ih=>intro p;simp [placed,ih]
def placeAt (l:List TokT) (k:Nat):Nat:=(wAll (l.take k)).length
theorem placed_nth (l:List TokT):∀ p k,k < l.length→nthT (placed p l) k=((nthT l k).1,(nthT l k).2.1,((p+placeAt l k:Nat):Int)):=by
 induction l with
 | nil=>intro p k h;simp at h
 | cons t r ih =>
  intro p k h
  cases k with
  | zero=>simp [placed,nthT,placeAt,wAll]
  | succ k =>
   have:=ih (p+(tokS t.1 (strI t.2.1)).length+1) k (by simpa using h)
   have e1:nthT (placed p (t :: r)) (k+1)=nthT (placed (p+(tokS t.1 (strI t.2.1)).length+1) r) k:=by simp [placed,nthT,List.getD]
   have e2:nthT (t :: r) (k+1)=nthT r k:=by simp [nthT,List.getD]
   have e3:placeAt (t :: r) (k+1)=(tokS t.1 (strI t.2.1)).length+1+placeAt r k:=by simp [placeAt,wAll];omega
   rw [e1,e2,e3,this]
   congr 3;omega
theorem wOut_within (l:List TokT):Within 256 (wOut l):=by
 unfold wOut;split
 ·exact within_dropX (wAll_within l) 1
 ·exact fun z hz=>by simp at hz
theorem wOut_len (l:List TokT):(wOut l).length≤4 * bulkT l+3 * l.length:=by
 have:=wAll_len l
 unfold wOut;split
 ·rw [List.length_drop];omega
 ·simp
theorem alike_placed {l:List TokT} {k:Nat} (h:k < l.length):(nthT (placed 0 l) k).1=(nthT l k).1∧(nthT (placed 0 l) k).2.1=(nthT l k).2.1:=by
 rw [placed_nth l 0 k h];exact ⟨rfl,rfl⟩
/-! ### a note behind a line -/

/-! ### a quoted text alone -/

theorem quote_print (t:List Int) (hw:Within 256 t):∀ z ∈ quoteL t,32≤z∧z≤126:=by
 intro z hz
 simp only [quoteL,List.mem_cons,List.mem_append,List.mem_flatMap,List.not_mem_nil,or_false] at hz
 rcases hz with rfl | ⟨c,hc,hz⟩ | rfl
 ·omega
 ·have hcb:=hw c hc
  unfold escL at hz
  split at hz
  ·simp at hz;omega
  ·split at hz
   ·rename_i hp
    simp only [printB,decide_eq_true_eq] at hp
    simp at hz;omega
   ·simp only [List.mem_cons,List.not_mem_nil,or_false] at hz
    have hd:∀ n:Int,0≤n→n < 16→32≤hexD n∧hexD n≤126:=fun n a b=>by unfold hexD;split <;> omega
    rcases hz with rfl | rfl | rfl | rfl
    ·omega
    ·omega
    ·exact hd _ (by omega) (by omega)
    ·exact hd _ (by omega) (by omega)
 ·omega
def moduleS:ByteArray:=⟨#[109,111,100,117,108,101]⟩
def numP (t:TokT):Int:=if t.1≠3 then 70 else numErr (strI t.2.1)
def headP (l:List TokT) (len:Int):Int × Int × Int × Int :=
 if l.length < 1 then (0,0,72,len)
 else if ¬ ((nthT l 0).1=1∧(nthT l 0).2.1=moduleS) then (0,0,70,(nthT l 0).2.2)
 else if l.length < 2 then (0,0,72,len)
 else if numP (nthT l 1)≠0 then (0,0,numP (nthT l 1),(nthT l 1).2.2)
 else if l.length < 3 then (0,0,72,len)
 else if numP (nthT l 2)≠0 then (0,0,numP (nthT l 2),(nthT l 2).2.2)
 else if numV (strI (nthT l 2).2.1) < 1 ∨ 65536 < numV (strI (nthT l 2).2.1) then (0,0,24,(nthT l 2).2.2)
 else if 3 < l.length then (0,0,70,(nthT l 3).2.2)
 else (numV (strI (nthT l 1).2.1),numV (strI (nthT l 2).2.1),0,0)
theorem numV_ok {l:List Int} (h:numB l=true):numErr l=0∧numOut l=numV l∧0≤numV l∧numV l < 4294967296:=by
 have:=num_bounds h
 refine ⟨?_,?_,this.1,this.2⟩
 ·unfold numErr;rw [h];rfl
 ·unfold numOut;rw [h];rfl
theorem numErr_zero {l:List Int} (h:numErr l=0):numB l=true:=by
 unfold numErr at h;split at h
 ·assumption
 ·omega
theorem numP_num {t:TokT} (h:t.1=3):numP t=numErr (strI t.2.1):=by unfold numP;rw [if_neg (by simp [h])]
end Go.Proofs.YtddkapkkjhomkabGreatDoor
