/-
  Texts in one: MathI, MathT, MathN, WordsByteAt, WordsJoin, SlicesClone, FrameSmall, Math2, MathR, MathC, MathB, MathRL, FrameMeasure, MathRW, FrameWrite, CodeFronts.
-/
import Derived.Test.YtoebhgpciinkgaaGreatDoorB04
namespace Go.Proofs.YtoebhgpciinkgaaGreatDoor
open Go.RowKit
set_option linter.unusedVariables false
set_option linter.unusedSimpArgs false
def nulS (s:ByteArray):Bool:=s.data.toList.any (·==0)
theorem nulS_false {s:ByteArray}:nulS s=false↔NoNul s:=by
 unfold nulS NoNul
 rw [List.any_eq_false]
 constructor
 ·intro h k hk
  rw [nth_strI s k hk]
  intro e
  have h1:s[k].toNat=0:=by omega
  have h2:s.data.toList[k]'(by rw [size_list];exact hk)=0:=UInt8.toNat_inj.1 h1
  exact h _ (List.getElem_mem (by rw [size_list];exact hk)) (by simp [h2])
 ·intro h x hx hx0
  obtain⟨k,hk,rfl⟩:=List.mem_iff_getElem.1 hx
  have hk':k<s.size:=by rw [← size_list];exact hk
  apply h k hk'
  rw [nth_strI s k hk']
  have e:s[k]=s.data.toList[k]:=rfl
  rw [e,eq_of_beq hx0]
  rfl
theorem nulS_true {s:ByteArray} (h:nulS s=true):∃ k,k<s.size∧nth (strI s) k=0:=by
 apply Classical.byContradiction
 intro hn
 have:NoNul s:=fun k hk e=>hn ⟨k,hk,e⟩
 rw [← nulS_false] at this
 rw [this] at h
 cases h
theorem size_zero {s:ByteArray} (h:s.size=0):s=⟨#[]⟩:=by
 have:s.data=#[]:=Array.eq_empty_of_size_eq_zero h
 cases s;simp_all
def wrongA (c:Int) (x:ArgT) (b:Int):Int:=if mayStandB c x=false then 42 else if x.1=3 then (if nulS x.2.2 then 13 else 0) else faultW c x.2.1 b
def wrongL (f:Frm) (b:Int):Nat→List ArgT→Int
 | _,[]=>0
 | k,x :: l=>if wrongA (letterI f k) x b=0 then wrongL f b (k+1) l else wrongA (letterI f k) x b
def wordsA (x:ArgT):List Int:=if x.1=3 then textW x.2.2 else [x.2.1]
theorem wordsA_len (x:ArgT):(wordsA x).length=if x.1=3 then x.2.2.size / 4+1 else 1:=by
 unfold wordsA
 split
 ·exact textW_len _
 ·rfl
def wordsL (l:List ArgT):List Int:=l.flatMap wordsA
def headW (f:Frm) (t r:Int):List Int:=(if f.2.1 then [t] else [])++(if f.2.2.1 then [r] else [])
def rawL (f:Frm) (x:InstT):List Int:=headW f x.2.1 x.2.2.1++wordsL x.2.2.2
def faultI (f:Frm) (x:InstT) (b:Int):Int :=
 if idE f.2.1 x.2.1 b 40≠0 then idE f.2.1 x.2.1 b 40
 else if idE f.2.2.1 x.2.2.1 b 41≠0 then idE f.2.2.1 x.2.2.1 b 41
 else if wrongL f b 0 x.2.2.2≠0 then wrongL f b 0 x.2.2.2
 else if wholeN f x.2.2.2.length=false then 42
 else if 65535<1+(rawL f x).length then 25 else 0
def rawE (x:InstT) (b:Int):Int:=if (lookF refT x.1).2 then faultI (lookF refT x.1).1 x b else 30
def rawWs (x:InstT) (b:Int):List Int:=if rawE x b=0 then rawL (lookF refT x.1).1 x else []
theorem wrongL_zero {f:Frm} {b:Int}:∀ {l:List ArgT} {k:Nat},wrongL f b k l=0→∀ j,j<l.length→wrongA (letterI f ((k+j:Nat):Int)) (nthA l j) b=0
 | [],_,_,j,hj=>by simp at hj
 | x :: l,k,h,j,hj=>by
  rw [wrongL] at h
  by_cases h0:wrongA (letterI f k) x b=0
  ·rw [if_pos h0] at h
   cases j with
   | zero=>exact h0
   | succ j =>
    have:=wrongL_zero h j (by simpa using hj)
    rw [show k+(j+1)=k+1+j by omega]
    exact this
  ·rw [if_neg h0] at h;exact absurd h h0
theorem wrongL_first {f:Frm} {b:Int}:∀ {l:List ArgT} {k j:Nat},j<l.length→(∀ i,i<j→wrongA (letterI f ((k+i:Nat):Int)) (nthA l i) b=0)→wrongA (letterI f ((k+j:Nat):Int)) (nthA l j) b≠0→wrongL f b k l=wrongA (letterI f ((k+j:Nat):Int)) (nthA l j) b
 | [],_,j,hj,_,_=>by simp at hj
 | x :: l,k,0,_,_,h=>by
  rw [wrongL,if_neg (show ¬ wrongA (letterI f k) x b=0 from h)];rfl
 | x :: l,k,j+1,hj,h0,h=>by
  have h1:wrongA (letterI f k) x b=0:=h0 0 (by omega)
  rw [wrongL,if_pos h1]
  have e:=wrongL_first (f:=f) (b:=b) (l:=l) (k:=k+1) (j:=j) (by simpa using hj) (fun i hi=>by have:=h0 (i+1) (by omega);rw [show k+(i+1)=k+1+i by omega] at this;exact this) (by rw [show k+(j+1)=k+1+j by omega] at h;exact h)
  rw [e,show k+(j+1)=k+1+j by omega];rfl
theorem wrongL_none {f:Frm} {b:Int}:∀ {l:List ArgT} {k:Nat},(∀ i,i<l.length→wrongA (letterI f ((k+i:Nat):Int)) (nthA l i) b=0)→wrongL f b k l=0
 | [],_,_=>rfl
 | x :: l,k,h=>by
  have h1:wrongA (letterI f k) x b=0:=h 0 (by simp)
  rw [wrongL,if_pos h1]
  exact wrongL_none fun i hi=>by have:=h (i+1) (by simpa using hi);rw [show k+(i+1)=k+1+i by omega] at this;exact this
theorem wrongA_kind {c:Int} {x:ArgT} {b:Int} (h:wrongA c x b=0):c≠0∧x.1=kindI c:=by
 unfold wrongA at h
 split at h
 ·cases h
 ·rename_i hm
  simp [mayStandB] at hm
  exact⟨hm.1,hm.2.1⟩
theorem fits_whole {f:Frm} {l:List ArgT} (h:∀ i,i<l.length→letterI f (i:Int)≠0∧(nthA l i).1=kindI (letterI f (i:Int))):(fitsI true f (kindsL l)).2=wholeN f l.length:=by
 have hl:(kindsL l).length=l.length:=by simp [kindsL]
 have hb:∀ j,j<l.length→badK f (kindsL l) j=false:=fun j hj=>by
  obtain⟨h1,h2⟩:=h j hj
  simp [badK,h1,kindsL_nth l j hj,h2]
 unfold fitsI
 rw [if_neg (by simp),hl,range_not _ hb]
 have e:(if wholeB f l.length=true then ((0:Int),true) else ((l.length:Int),false)).2=wholeB f l.length:=by split <;> simp_all
 simp only [e]
 unfold wholeB wholeN
 rw [Bool.eq_iff_iff]
 by_cases h1:(l.length:Int)<f.2.2.2.1.size
 ·rw [if_pos h1]
  simp;constructor
  ·omega
  ·intro h2;omega
 ·rw [if_neg h1]
  by_cases h2:f.2.2.2.2.1.size=0
  ·rw [if_pos h2]
   have h3:¬ f.2.2.2.1.size<l.length:=fun h3=>rest_of_letters (f:=f) (zs:=kindsL l) (fun j hj=>hb j (by rw [← hl];exact hj)) (by rw [hl];exact h3) h2
   simp;omega
  ·rw [if_neg h2]
   simp
   constructor
   ·rintro (h3 | ⟨_,h3⟩)
    ·rw [show (l.length:Int) - f.2.2.2.1.size=0 by omega];simp
    ·exact h3
   ·intro h3
    by_cases h4:(l.length:Int) - f.2.2.2.1.size=0
    ·exact .inl h4
    ·exact .inr ⟨by omega,h3⟩
def noText (f:Frm):Bool:=f.2.2.2.2.1.data.toList.all (fun x=>x != 115)
theorem refT_noText:refT.all (fun p=>noText p.2 && shortF p.2)=true:=by decide +kernel
theorem look_noText (n:Int):noText (lookF refT n).1=true∧shortF (lookF refT n).1=true:=by
 by_cases h:(lookF refT n).2=true
 ·have:=(List.all_eq_true.1 refT_noText) _ (lookF_true h)
  simpa using this
 ·rw [(lookF_false (by simpa using h)).1];exact⟨rfl,rfl⟩
theorem text_fixed {f:Frm} (hf:noText f=true) {k:Nat} (h:kindI (letterI f (k:Int))=3):k<f.2.2.2.1.size:=by
 apply Classical.byContradiction
 intro hn
 have hk:kindI 0≠3:=by decide
 unfold letterI at h
 rw [if_neg (by omega),if_neg (by omega)] at h
 split at h
 ·rename_i hm
  generalize hj:(((k:Int) - f.2.2.2.1.size) % f.2.2.2.2.1.size).toNat=j at h
  have hlt:j<f.2.2.2.2.1.size:=by
   unfold mayB at hm
   by_cases h0:f.2.2.2.2.1.size=0
   ·rw [if_pos h0] at hm;cases hm
   ·have:=Int.emod_lt_of_pos ((k:Int) - f.2.2.2.1.size) (show (0:Int)<f.2.2.2.2.1.size by omega)
    have:=Int.emod_nonneg ((k:Int) - f.2.2.2.1.size) (show (f.2.2.2.2.1.size:Int)≠0 by omega)
    omega
  have h1:sgn f.2.2.2.2.1 j=115:=by
   unfold kindI at h
   split at h
   ·cases h
   ·split at h
    ·cases h
    ·split at h
     ·assumption
     ·split at h <;> cases h
  have hl:j<f.2.2.2.2.1.data.toList.length:=by rw [size_list];exact hlt
  have h2:=(List.all_eq_true.1 hf) (f.2.2.2.2.1.data.toList[j]) (List.getElem_mem hl)
  simp only [bne_iff_ne,ne_eq] at h2
  apply h2
  have h3:(f.2.2.2.2.1.data.toList[j]).toNat=115:=by
   unfold sgn at h1
   rw [List.getD,List.getElem?_eq_getElem hl] at h1
   simp only [Option.getD_some] at h1
   omega
  exact UInt8.toNat_inj.1 h3
 ·exact hk h
theorem wordsL_take (l:List ArgT) (k:Nat) (h:k<l.length):wordsL (l.take (k+1))=wordsL (l.take k)++wordsA (nthA l k):=by
 unfold wordsL
 rw [List.take_add_one,List.getElem?_eq_getElem h,nthA_lt _ _ h,Option.toList_some,List.flatMap_append]
 simp


set_option maxRecDepth 10000


theorem Clone.info:(Tryz.prog.info? 22).map (fun i=>(i.zero,i.size,i.bytes))=some (some (.int .u32 0),1,4):=by kernel_rfl
theorem clone_nil (w:World) :
  Calls Tryz.prog 44 #[.slice none 0 0] w fun e w'=>e=.returned (.slice none 0 0)∧w=w':=by
 have hn:=fun w=>Lib.run_eql_slice_nil (P:=Tryz.prog) w 26 22 none 0 0 0 0 Tryz.underlying26
 go_enter Tryz.func44,Tryz.ntmps44
 go_wp2
 go_ret
 exact⟨rfl,rfl⟩
set_option maxHeartbeats 400000 in
theorem clone_some (x:Addr) (n cap:Nat) (zs:List Int) (w:World) (hv:View .u32 w (some x) zs) (hl:zs.length=n) (hn:4 * n≤140737488351232) :
  Calls Tryz.prog 44 #[.slice (some x) n cap] w fun e w'=>∃ g cx,e=.returned (.slice (some ⟨g,0,none⟩) n cx) ∧
   w'.ownsRow w.heap.size 22 1 (.slice (some ⟨g,0,none⟩) n cx) n (zs.map (Value.int .u32))∧Below w.heap.size w w':=by
 obtain⟨i0,hi,hz0,hz1,hz2⟩:=info_parts Clone.info
 have hnn:=fun w=>Lib.run_eql_slice_nil (P:=Tryz.prog) w 26 22 (some x) n cap 0 0 Tryz.underlying26
 simp only [Option.isNone_some] at hnn
 have hbs:∀ w,(Instr.buildSlice 26 0 #[]).run Tryz.prog w=.ok (.slice (some ⟨w.heap.size,0,none⟩) 0 0) (w.alloc (.cells #[] 22)):=fun w=>by kernel_rfl
 have hown0:(w.alloc (.cells #[] 22)).ownsRow w.heap.size 22 1 (.slice (some ⟨w.heap.size,0,none⟩) 0 0) 0 []:=World.ownsRow_lit w #[] 0 (Nat.le_refl _) (by unfold maxLen;omega) rfl
 have hnews:∀ j u,(zs.map (Value.int .u32))[j]?=some u→(w.alloc (.cells #[] 22)).cell? (x.add j)=some u:=by
  intro j u hj
  rw [List.getElem?_map] at hj
  have hjl:j<zs.length:=by
   rcases Nat.lt_or_ge j zs.length with h | h
   ·exact h
   ·rw [List.getElem?_eq_none h] at hj;simp at hj
  obtain⟨b,off,e,hb,hc⟩:=hv j hjl
  simp at e
  subst e
  rw [Addr.add_lit,World.cell?_alloc_past _ _ _ hb,hc,← hj,List.getElem?_eq_getElem hjl]
  simp [nth,List.getD,hjl]
 have HL:Hid (zs.length=n):=hl
 clear hl hv
 go_enter Tryz.func44,Tryz.ntmps44
 go_wp2_with (at_builtin;refine wpList_append_own _ rfl (.tmp 5) (.tmp 6) 26 rfl w.heap.size 22 i0 (.int .u32 0) 1 4 Tryz.underlying26 hi hz0 hz1 hz2 rfl (by decide) _ _ _ rfl hown0 x n cap (zs.map (Value.int .u32)) rfl (by rw [List.length_map,HL.out];omega) hnews (ints_oneCell .u32 zs) (by unfold maxLen;omega) (by omega) (by simp) ?_)
 intro v' w1 hown1 hgrow1 hnil1
 have hb1:Below w.heap.size w w1:=((Below.refl _ w).alloc (Nat.le_refl _) _).grown hgrow1 (by simp) (fun k hk=>by simp [Value.ownBlock] at hk;omega)
 have hex:∃ g cx,v'=.slice (some ⟨g,0,none⟩) n cx:=by
  rcases hown1.2 with ⟨h1,_⟩ | ⟨g,cx,cur,h1,_⟩
  ·exact absurd h1 hnil1
  ·exact⟨g,cx,h1⟩
 obtain⟨g,cx,hv'⟩:=hex
 rw [hv'] at hown1 ⊢
 clear hnil1 hgrow1 hnews hown0
 go_wp2
 go_ret
 exact⟨g,cx,rfl,hown1,hb1⟩
theorem mayBeBound_any (x : Int) (w : World) (h0 : 0 ≤ x) (h1 : x < 4294967296) :
    Calls Tryz.prog 165 #[.int .u32 x] w fun e w' => e = .returned (.bool (!(decide (x = 0) || decide (65536 < x)))) ∧ w = w' := by
  go_enter Tryz.func165, Tryz.ntmps165
  go_wp2
  · go_ret
    refine ⟨?_, rfl⟩
    have hx : 1 ≤ x := by assumption
    show Ending.returned (.bool (decide (x ≤ 65536))) = _
    congr 2
    by_cases h : x ≤ 65536
    · simp [h, show ¬ x = 0 by omega]
    · simp [h]; omega
  · go_ret
    refine ⟨?_, rfl⟩
    have hx : ¬ 1 ≤ x := by first | assumption | (have : x < 1 := by assumption
                                                  omega)
    obtain rfl : x = 0 := by omega
    rfl
theorem wordsOf_any (op:Int) (a:Option Addr) (n cap:Nat) (w:World) (hn:n≤140737488351232) :
  Calls Tryz.prog 173 #[.agg #[.int .u16 op,.slice a n cap]] w fun e w'=>e=.returned (.int .i64 ((n:Int)+1))∧w.alloc (.cells #[.int .u16 op,.slice a n cap] 203)=w':=by
 go_enter Tryz.func173,Tryz.ntmps173
 go_wp2
 go_ret
 exact⟨ret_int (by omega),rfl⟩
theorem firstWord_any (op:Int) (a:Option Addr) (n cap:Nat) (w:World) (hn:n<65535) (ho:0≤op) (ho2:op<65536) :
  Calls Tryz.prog 167 #[.agg #[.int .u16 op,.slice a n cap]] w fun e w'=>e=.returned (.int .u32 (((n:Int)+1) * 65536+op))∧Below w.heap.size w w':=by
 have hW:=fun w=>wordsOf_any op a n cap w (by omega)
 go_enter Tryz.func167,Tryz.ntmps167
 go_wp2_with fail
 go_region_with (go_at_call 173;refine (hW _).mono ?_;rintro e w' ⟨rfl,rfl⟩)
 all_goals go_wp2
 all_goals go_ret
 all_goals refine⟨?_,(((Below.refl _ _).alloc (Nat.le_refl _) _).alloc (by simp) _).drew⟩
 all_goals
  show Ending.returned (.int .u32 (bits .or .u32 (IntKind.u32.wrap (IntKind.u32.wrap ((n:Int)+1) * 65536)) (IntKind.u32.wrap op)))=_
  apply ret_int
  rw [show IntKind.u32.wrap ((n:Int)+1)=(n:Int)+1 by rw [IntKind.wrap_u32'];omega,show IntKind.u32.wrap (((n:Int)+1) * 65536)=((n:Int)+1) * 65536 by rw [IntKind.wrap_u32'];omega,show IntKind.u32.wrap op=op by rw [IntKind.wrap_u32'];omega]
  exact or_high ((n:Int)+1) op 16 (by omega) ho (by omega) (by omega)


def shapeF (b:Int):Nat→Nat→List InstT→Int×Nat
 | _,_,[]=>(0,0)
 | k,c,x :: l=>if rawE x b≠0 then (rawE x b,k) else if 1048576<c+1+(rawWs x b).length then (4,k) else shapeF b (k+1) (c+1+(rawWs x b).length) l
def shapeE (b:Int) (l:List InstT):Int×Nat:=if b=0∨65536<b then (24,0) else shapeF b 0 5 l
def rawsL (b:Int) (l:List InstT):List (Int×List Int):=l.map fun x=>(x.1,rawWs x b)
def rawsR (b:Int) (l:List InstT):List (Int×List Int):=if (shapeE b l).1=0 then rawsL b l else []
theorem rawsL_len (b:Int) (l:List InstT):(rawsL b l).length=l.length:=by simp [rawsL]
theorem nthR_raws (b:Int) (l:List InstT) (k:Nat) (h:k<l.length):nthR (rawsL b l) k=((nthI l k).1,rawWs (nthI l k) b):=by
 rw [nthI_lt _ _ h];simp [nthR,rawsL,List.getD,h]
theorem rawsL_take (b:Int) (l:List InstT) (k:Nat) (h:k<l.length):rawsL b (l.take (k+1))=rawsL b (l.take k)++[((nthI l k).1,rawWs (nthI l k) b)]:=by
 unfold rawsL
 rw [List.take_add_one,List.getElem?_eq_getElem h,nthI_lt _ _ h,List.map_append];rfl
theorem dropI (l:List InstT) (k:Nat) (h:k<l.length):l.drop k=nthI l k :: l.drop (k+1):=by
 rw [nthI_lt _ _ h];exact List.drop_eq_getElem_cons h
theorem shape_end (b:Int) (l:List InstT) (k c:Nat) (h:l.length≤k):shapeF b k c (l.drop k)=(0,0):=by
 rw [List.drop_eq_nil_of_le h];rfl
theorem shape_step (b:Int) (l:List InstT) (k:Nat) (h:k<l.length):shapeF b k (sizeTo (rawsL b l) k) (l.drop k)=if rawE (nthI l k) b≠0 then (rawE (nthI l k) b,k) else if 1048576<sizeTo (rawsL b l) (k+1) then (4,k) else shapeF b (k+1) (sizeTo (rawsL b l) (k+1)) (l.drop (k+1)):=by
 rw [dropI l k h,shapeF,sizeTo_succ (rawsL b l) k (by rw [rawsL_len];exact h),nthR_raws b l k h]
theorem rawWs_ok {x:InstT} {b:Int} (h:rawE x b=0):(lookF refT x.1).2=true∧faultI (lookF refT x.1).1 x b=0∧rawWs x b=rawL (lookF refT x.1).1 x:=by
 have h1:=h
 unfold rawE at h1
 by_cases h2:(lookF refT x.1).2=true
 ·rw [if_pos h2] at h1
  exact⟨h2,h1,by unfold rawWs;rw [if_pos h]⟩
 ·rw [if_neg h2] at h1;cases h1
theorem faultI_zero {f:Frm} {x:InstT} {b:Int} (h:faultI f x b=0):idE f.2.1 x.2.1 b 40=0∧idE f.2.2.1 x.2.2.1 b 41=0∧wrongL f b 0 x.2.2.2=0∧wholeN f x.2.2.2.length=true∧1+(rawL f x).length≤65535:=by
 unfold faultI at h
 by_cases h1:idE f.2.1 x.2.1 b 40=0
 ·rw [if_neg (by simp [h1])] at h
  by_cases h2:idE f.2.2.1 x.2.2.1 b 41=0
  ·rw [if_neg (by simp [h2])] at h
   by_cases h3:wrongL f b 0 x.2.2.2=0
   ·rw [if_neg (by simp [h3])] at h
    by_cases h4:wholeN f x.2.2.2.length=true
    ·rw [if_neg (by simp [h4])] at h
     by_cases h5:65535<1+(rawL f x).length
     ·rw [if_pos h5] at h;cases h
     ·exact⟨h1,h2,h3,h4,by omega⟩
    ·rw [if_pos (by simpa using h4)] at h;cases h
   ·rw [if_pos h3] at h;exact absurd h h3
  ·rw [if_pos h2] at h;exact absurd h h2
 ·rw [if_pos h1] at h;exact absurd h h1
theorem rawWs_len (x:InstT) (b:Int):(rawWs x b).length<65535:=by
 by_cases h:rawE x b=0
 ·obtain⟨_,h2,h3⟩:=rawWs_ok h
  have:=(faultI_zero h2).2.2.2.2
  rw [h3];omega
 ·rw [rawWs,if_neg h];simp
theorem fault_shapeF (b:Int) (l:List InstT):∀ d k,l.length - k=d→(shapeF b k (sizeTo (rawsL b l) k) (l.drop k)).1=0→fault (rawsL b l) k=(0,0)
 | 0,k,hd,_=>fault_end _ _ (by rw [rawsL_len];omega)
 | d+1,k,hd,h=>by
  have hk:k<l.length:=by omega
  rw [shape_step b l k hk] at h
  rw [fault_step _ _ (by rw [rawsL_len];exact hk),nthR_raws b l k hk]
  have hs:=rawWs_len (nthI l k) b
  rw [if_neg (by simp only;omega)]
  by_cases h1:rawE (nthI l k) b≠0
  ·rw [if_pos h1] at h;exact absurd h h1
  ·rw [if_neg h1] at h
   by_cases h2:1048576<sizeTo (rawsL b l) (k+1)
   ·rw [if_pos h2] at h;cases h
   ·rw [if_neg h2] at h ⊢
    exact fault_shapeF b l d (k+1) (by omega) h
theorem fault_shape {b:Int} {l:List InstT} (h:(shapeE b l).1=0):fault (rawsL b l) 0=(0,0):=by
 unfold shapeE at h
 by_cases h1:b=0∨65536<b
 ·rw [if_pos h1] at h;cases h
 ·rw [if_neg h1] at h
  exact fault_shapeF b l _ 0 rfl h
theorem shape_bound {b:Int} {l:List InstT} (h:(shapeE b l).1=0):¬ b=0∧¬ 65536<b:=by
 unfold shapeE at h
 by_cases h1:b=0∨65536<b
 ·rw [if_pos h1] at h;cases h
 ·exact⟨fun h=>h1 (.inl h),fun h=>h1 (.inr h)⟩
theorem shape_each {b:Int} {l:List InstT} (h:(shapeE b l).1=0) (k:Nat) (hk:k<l.length):rawE (nthI l k) b=0:=by
 have key:∀ (l:List InstT) (i c k:Nat),(shapeF b i c l).1=0→k<l.length→rawE (nthI l k) b=0:=by
  intro l
  induction l with
  | nil=>intro i c k _ hk;simp at hk
  | cons x l ih =>
   intro i c k h hk
   rw [shapeF] at h
   by_cases h1:rawE x b≠0
   ·rw [if_pos h1] at h;exact absurd h h1
   ·rw [if_neg h1] at h
    cases k with
    | zero=>exact Classical.not_not.1 h1
    | succ k =>
     split at h
     ·cases h
     ·exact ih _ _ k h (by simpa using hk)
 unfold shapeE at h
 by_cases h1:b=0∨65536<b
 ·rw [if_pos h1] at h;cases h
 ·rw [if_neg h1] at h
  exact key l 0 5 k h hk
theorem sizeTo_ge (rs:List (Int×List Int)):∀ k,k≤rs.length→5+k≤sizeTo rs k
 | 0,_=>by rw [sizeTo_zero];omega
 | k+1,h=>by rw [sizeTo_succ rs k (by omega)];have:=sizeTo_ge rs k (by omega);omega
theorem shape_few {b:Int} {l:List InstT} (h:(shapeE b l).1=0):l.length≤1048576∧sizeTo (rawsL b l) l.length≤1048576:=by
 have h1:=fault_none (rawsL b l) (by rw [fault_shape h]) l.length (by rw [rawsL_len];exact Nat.le_refl _)
 have:=sizeTo_ge (rawsL b l) l.length (by rw [rawsL_len];exact Nat.le_refl _)
 omega
/-! ### a text's words -/

/-! ### one argument -/

/-! ### all arguments -/

/-! ### an instruction -/

theorem idE_zero {must:Bool} {n b e:Int} (he:e≠0) (h:idE must n b e=0):(must=true→noneB n b=false)∧(must=false→n=0):=by
 unfold idE at h
 cases must with
 | true =>
  refine⟨fun _=>?_,(fun h=>by cases h)⟩
  by_cases h0:n=0
  ·rw [if_pos (by simp [h0])] at h;exact absurd h he
  ·rw [if_neg (by simp [h0])] at h
   by_cases h1:b≤n
   ·rw [if_pos (by simp [h1])] at h;cases h
   ·unfold noneB;simp [h0,h1]
 | false =>
  refine⟨(fun h=>by cases h),fun _=>?_⟩
  by_cases h0:n=0
  ·exact h0
  ·rw [if_pos (by simp [h0])] at h;exact absurd h he

theorem fault_any (rs:List (Int×List Int)):fault rs 0=(0,0)∨(fault rs 0).1≠0:=by
 have key:∀ f k,faultF rs f k=(0,0)∨(faultF rs f k).1≠0:=by
  intro f
  induction f with
  | zero=>intro k;exact .inl rfl
  | succ f ih =>
   intro k
   rw [faultF]
   split
   ·split
    ·exact .inr (by simp)
    ·split
     ·exact .inr (by simp)
     ·exact ih (k+1)
   ·exact .inl rfl
 exact key _ _
theorem spot_set {w:World} {g T:Nat} {a b:Value} (h:w.heap[g]?=some (.cells #[a,b] T (0,0))) (u0 u1:Value) :
  ((w.setCell ⟨g,0,none⟩ u0).setCell ⟨g,1,none⟩ u1).cell? ⟨g,0,none⟩=some u0∧((w.setCell ⟨g,0,none⟩ u0).setCell ⟨g,1,none⟩ u1).cell? ⟨g,1,none⟩=some u1:=by
 have hfin:((w.setCell ⟨g,0,none⟩ u0).setCell ⟨g,1,none⟩ u1).heap[g]?=some (.cells #[u0,u1] T (0,0)):=by
  simp only [World.setCell,Array.getElem?_modify,h];simp
 obtain⟨z0,z1,_⟩:=cell_of_two hfin
 exact⟨z0,z1⟩
theorem cell_past {w:World} {g j:Nat} {o:Obj} {v:Value} (h:w.cell? ⟨g,j,none⟩=some v):(w.alloc o).cell? ⟨g,j,none⟩=some v:=by
 rw [World.cell?_alloc_past _ _ _ (World.block_lt_of_cell? _ _ h)];exact h
set_option maxRecDepth 100000 in
set_option maxHeartbeats 2000000 in
theorem measure_any (a:Option Addr) (n cap:Nat) (rs:List (Int×List Int)) (w:World) (ha:RawsV w a rs) (hok:RawsOk rs) (hl:rs.length=n) (hn:32 * n≤140737488351232) :
  Calls Tryz.prog 166 #[.slice a n cap] w fun e w'=>e=.returned (.tuple #[.int .i64 (sizeOut rs),.agg #[.int .i64 (fault rs 0).1,.int .i64 (fault rs 0).2]])∧Below w.heap.size w w':=by
 have HL:Hid (rs.length=n):=hl
 clear hl
 go_enter Tryz.func166,Tryz.ntmps166
 go_wp2
 go_loopw [4,9] (fun s i wr=>∃ k:Nat,k≤n∧i=.int .i64 k∧s=.int .i64 (sizeTo rs k)∧sizeTo rs k≤1048576∧fault rs 0=fault rs k∧wr.heap[w.heap.size]?=some (.cells #[.int .i64 0,.int .i64 0] 30 (0,0))∧Below w.heap.size w wr) (fun _ i _=>n - (intOf i).toNat)
 case atStart=>exact⟨0,Nat.zero_le _,rfl,rfl,by rw [sizeTo_zero];omega,rfl,heap_alloc_new w _,(Below.refl _ _).alloc (Nat.le_refl _) _⟩
 case round =>
  obtain⟨k,hk,rfl,rfl,hsz,hfe,hbox,hnx⟩:=hrel
  have HF:Hid (fault rs 0=fault rs k):=hfe
  clear hfe
  have hlt0:w.heap.size<wr.heap.size:=(Array.getElem?_eq_some_iff.1 hbox).1
  by_cases hlt:k<n
  ·obtain⟨b,off,aj,cj,nj,rfl,hbs,p1,p2,p3,_,_⟩:=ha k (by rw [HL.out];exact hlt)
   obtain⟨_,_,_,h4⟩:=hok k (by rw [HL.out];exact hlt)
   rw [p3] at h4
   have HS:Hid (sizeTo rs (k+1)=sizeTo rs k+1+(nthR rs k).2.length):=sizeTo_succ rs k (by rw [HL.out];exact hlt)
   have HT:=fault_step rs k (by rw [HL.out];exact hlt)
   rw [p3] at HT HS
   have HT':Hid (fault rs k=if 65535≤nj then (25,k) else if 1048576<sizeTo rs (k+1) then (4,k) else fault rs (k+1)):=HT
   have q1:=(hnx.cell (p:=⟨b,off+k * 2,none⟩) hbs).trans p1
   have q2:=(hnx.cell (p:=⟨b,off+k * 2+1,none⟩) hbs).trans p2
   generalize sizeTo rs k=s at hsz HS
   have hki:(k:Int)<(n:Int):=by omega
   have hk0:(0:Int)≤(k:Int):=by omega
   have hW:=fun op w=>wordsOf_any op aj nj cj w (by omega)
   generalize (nthR rs k).1=op at q1 p1
   clear HT ha p1 p2 p3 hok
   obtain⟨R1,hR1⟩:∃ o,o=Obj.cells #[.int .u16 op,.slice aj nj cj] 203 (0,0):=⟨_,rfl⟩
   have hbx1:((wr.alloc R1).alloc R1).heap[w.heap.size]?=some (.cells #[.int .i64 0,.int .i64 0] 30 (0,0)):=(Below.heap_alloc _ _ _ (by simp;omega)).trans ((Below.heap_alloc _ _ _ hlt0).trans hbox)
   obtain⟨c0,c1,f1⟩:=cell_of_two hbox
   have f0:wr.frozen? ⟨w.heap.size,0,none⟩=false:=by simp [World.frozen?,hbox]
   by_cases h1:65535≤nj
   ·have b1:decide ((65535:Int)<(nj:Int)+1)=true:=decide_eq_true (by omega)
    have HE:Hid (fault rs 0=(25,k)):=by show _=_;rw [HF.out,HT'.out,if_pos h1]
    have HO:Hid (sizeOut rs=0):=by show _=_;unfold sizeOut;rw [HE.out];rfl
    have hf0:=spot_set hbox (.int .i64 25) (.int .i64 k)
    have hf:=And.intro (cell_past (o:=R1) (cell_past (o:=R1) hf0.1)) (cell_past (o:=R1) (cell_past (o:=R1) hf0.2))
    have HZ:Hid (_∧_):=hf
    have HB:Hid (Below w.heap.size w ((((wr.setCell ⟨w.heap.size,0,none⟩ (.int .i64 25)).setCell ⟨w.heap.size,1,none⟩ (.int .i64 k)).alloc R1).alloc R1)):=(((hnx.setCell (by simp) _).setCell (by simp) _).alloc (by simp;omega) _).alloc (by simp;omega) _
    clear hf hf0 hbx1 hbox
    subst hR1
    go_wp2_with (go_at_call 173;refine (hW _ _).mono ?_;rintro e w' ⟨rfl,rfl⟩)
    exact bodyPost_ret (v:=.tuple #[.int .i64 0,.agg #[.int .i64 25,.int .i64 k]]) (by simp [results,Tryz.results166,go_sem,HZ.out.1,HZ.out.2]) rfl ⟨by rw [HE.out,HO.out],HB.out⟩
   ·have b1:decide ((65535:Int)<(nj:Int)+1)=false:=decide_eq_false (by omega)
    have hbx2:(((wr.alloc R1).alloc R1).alloc R1).heap[w.heap.size]?=some (.cells #[.int .i64 0,.int .i64 0] 30 (0,0)):=(Below.heap_alloc _ _ _ (by simp;omega)).trans hbx1
    have HB2:Hid (Below w.heap.size w (((wr.alloc R1).alloc R1).alloc R1)):=((hnx.alloc hnx.size _).alloc (by simp;omega) _).alloc (by simp;omega) _
    by_cases h2:1048576<s+1+nj
    ·have b2:decide ((1048576:Int)<(s:Int)+((nj:Int)+1))=true:=decide_eq_true (by omega)
     have HE:Hid (fault rs 0=(4,k)):=by show _=_;rw [HF.out,HT'.out,if_neg h1,if_pos (by rw [HS.out];exact h2)]
     have HO:Hid (sizeOut rs=0):=by show _=_;unfold sizeOut;rw [HE.out];rfl
     have hf:=spot_set hbx2 (.int .i64 4) (.int .i64 k)
     obtain⟨c0',c1',f1'⟩:=cell_of_two hbx2
     have f0':(((wr.alloc R1).alloc R1).alloc R1).frozen? ⟨w.heap.size,0,none⟩=false:=by simp only [World.frozen?,hbx2];rfl
     have HZ:Hid (_∧_):=hf
     have HB:Hid (Below w.heap.size w (((((wr.alloc R1).alloc R1).alloc R1).setCell ⟨w.heap.size,0,none⟩ (.int .i64 4)).setCell ⟨w.heap.size,1,none⟩ (.int .i64 k))):=(HB2.out.setCell (by simp) _).setCell (by simp) _
     clear hf hbx1 hbx2 hbox
     subst hR1
     go_wp2_with (go_at_call 173;refine (hW _ _).mono ?_;rintro e w' ⟨rfl,rfl⟩)
     exact bodyPost_ret (v:=.tuple #[.int .i64 0,.agg #[.int .i64 4,.int .i64 k]]) (by simp [results,Tryz.results166,go_sem,HZ.out.1,HZ.out.2]) rfl ⟨by rw [HE.out,HO.out],HB.out⟩
    ·have b2:decide ((1048576:Int)<(s:Int)+((nj:Int)+1))=false:=decide_eq_false (by omega)
     have HE:Hid (fault rs 0=fault rs (k+1)):=by show _=_;rw [HF.out,HT'.out,if_neg h1,if_neg (by rw [HS.out];exact h2)]
     have HX:Hid _:=hbx2
     clear hbx1 hbx2 hbox
     subst hR1
     go_wp2_with (go_at_call 173;refine (hW _ _).mono ?_;rintro e w' ⟨rfl,rfl⟩)
     go_roundw
     case rel=>exact⟨k+1,by omega,by go_num,by rw [HS.out];go_num,by rw [HS.out];omega,HE.out,HX.out,HB2.out⟩
     case measure=>simp [intOf];omega
  ·obtain rfl:k=n:=by omega
   have HE:Hid (fault rs 0=(0,0)):=by show _=_;rw [HF.out];exact fault_end rs k (by rw [HL.out];omega)
   have HO:Hid (sizeOut rs=sizeTo rs k):=by show _=_;unfold sizeOut;rw [HE.out,if_pos rfl,HL.out]
   have hf:=spot_set hbox (.int .i64 0) (.int .i64 0)
   obtain⟨c0,c1,f1⟩:=cell_of_two hbox
   have f0:wr.frozen? ⟨w.heap.size,0,none⟩=false:=by simp [World.frozen?,hbox]
   have HZ:Hid (_∧_):=hf
   have HB:Hid (Below w.heap.size w ((wr.setCell ⟨w.heap.size,0,none⟩ (.int .i64 0)).setCell ⟨w.heap.size,1,none⟩ (.int .i64 0))):=(hnx.setCell (by simp) _).setCell (by simp) _
   clear hf hbox ha hok
   go_wp2
   exact bodyPost_ret (v:=.tuple #[.int .i64 (sizeTo rs k),.agg #[.int .i64 0,.int .i64 0]]) (by simp [results,Tryz.results166,go_sem,HZ.out.1,HZ.out.2]) rfl ⟨by rw [HE.out,HO.out];rfl,HB.out⟩

theorem write_bound (gen bound:Int) (a:Option Addr) (n cap:Nat) (w:World) (hb0:0≤bound) (hb1:bound<4294967296) (hb:bound=0∨65536<bound) :
  Calls Tryz.prog 154 #[.agg #[.int .u32 gen,.int .u32 bound],.slice a n cap] w fun e w'=>e=.returned (.tuple #[.slice none 0 0,.agg #[.int .i64 24,.int .i64 0]])∧Below w.heap.size w w':=by
 have hM:=fun w=>mayBeBound_any bound w hb0 hb1
 have e1:(!(decide (bound=0) || decide (65536<bound)))=false:=by rcases hb with h1 | h1 <;> simp [h1]
 rw [e1] at hM
 clear hb e1
 go_enter Tryz.func154,Tryz.ntmps154
 go_wp2_with (go_at_call 165;refine (hM _).mono ?_;rintro e w' ⟨rfl,rfl⟩)
 exact bodyPost_ret (v:=.tuple #[.slice none 0 0,.agg #[.int .i64 24,.int .i64 0]]) (by simp [results,Tryz.results154,go_sem]) rfl ⟨rfl,((Below.refl _ _).alloc (Nat.le_refl _) _).alloc (by simp) _⟩
theorem bound_ok {bound:Int} (hb1:¬ bound=0) (hb2:¬ 65536<bound):(!(decide (bound=0) || decide (65536<bound)))=true:=by simp [hb1];omega
set_option maxRecDepth 100000 in
set_option maxHeartbeats 4000000 in
theorem write_fault (gen bound:Int) (a:Option Addr) (n cap:Nat) (rs:List (Int×List Int)) (w:World) (hb0:0≤bound) (hb1:¬ bound=0) (hb2:¬ 65536<bound) (ha:RawsV w a rs) (hok:RawsOk rs) (hl:rs.length=n) (hn:32 * n≤140737488351232) (hz:¬ (fault rs 0).1=0) :
  Calls Tryz.prog 154 #[.agg #[.int .u32 gen,.int .u32 bound],.slice a n cap] w fun e w'=>e=.returned (.tuple #[.slice none 0 0,.agg #[.int .i64 (fault rs 0).1,.int .i64 (fault rs 0).2]])∧Below w.heap.size w w':=by
 have hF:=fun wx (hb:Below w.heap.size w wx)=>measure_any a n cap rs wx (ha.below hb) hok hl hn
 have hM:=fun w=>mayBeBound_any bound w hb0 (by omega)
 rw [bound_ok hb1 hb2] at hM
 have hzb:((fault rs 0).1==0)=false:=by simpa using hz
 clear hz
 generalize (fault rs 0).1=er at hF hzb ⊢
 generalize (fault rs 0).2=at_ at hF ⊢
 generalize sizeOut rs=so at hF
 clear hl hb1 hb2
 go_enter Tryz.func154,Tryz.ntmps154
 go_wp2_with (go_at_call 165;refine (hM _).mono ?_;rintro e w' ⟨rfl,rfl⟩)
 refine (hF _ (((Below.refl _ w).alloc (Nat.le_refl _) (.cells #[.int .u32 gen,.int .u32 bound] 200)).alloc (by simp) (.cells #[.int .i64 0,.int .i64 0] 30))).mono ?_
 rintro e w1 ⟨rfl,hbF⟩
 have hres1:w1.heap[w.heap.size+1]?=some (.cells #[.int .i64 0,.int .i64 0] 30 (0,0)):=by
  rw [hbF.block _ (by simp)]
  have:=heap_alloc_new (w.alloc (.cells #[.int .u32 gen,.int .u32 bound] 200)) (.cells #[.int .i64 0,.int .i64 0] 30)
  simpa using this
 have s1:w.heap.size+2≤w1.heap.size:=by have:=hbF.size;simp at this;omega
 have hbw1:Below w.heap.size w w1:=(((Below.refl _ w).alloc (Nat.le_refl _) _).alloc (by simp) _).trans (hbF.mono (by simp;omega))
 have hres2:=(Below.heap_alloc w1 (.cells #[.int .i64 er,.int .i64 at_] 30) _ (by omega)).trans hres1
 have hbw2:=hbw1.alloc (by omega) (.cells #[.int .i64 er,.int .i64 at_] 30)
 obtain⟨c0,c1,f1⟩:=cell_of_two hres2
 have f0:(w1.alloc (.cells #[.int .i64 er,.int .i64 at_] 30)).frozen? ⟨w.heap.size+1,0,none⟩=false:=by simp [World.frozen?,hres2]
 have hz:=spot_set hres2 (.int .i64 er) (.int .i64 at_)
 have HZ:Hid (_∧_):=hz
 have HB:Hid _:=hbw2
 clear hz hres1 hres2 hbw1 hbF hF hbw2 hM
 go_wp2
 go_region
 all_goals
  go_wp2
  exact bodyPost_ret (v:=.tuple #[.slice none 0 0,.agg #[.int .i64 er,.int .i64 at_]]) (by simp [results,Tryz.results154,go_sem,HZ.out.1,HZ.out.2]) rfl ⟨rfl,by first | exact ((HB.out.setCell (by simp) _).setCell (by simp) _).drew | exact ((HB.out.drew.setCell (by simp) _).setCell (by simp) _) | exact ((HB.out.setCell (by simp) _).setCell (by simp) _)⟩
set_option maxRecDepth 100000 in
set_option maxHeartbeats 4000000 in
theorem write_ok (gen bound:Int) (a:Option Addr) (n cap:Nat) (rs:List (Int×List Int)) (w:World) (hb0:0≤bound) (hb1:¬ bound=0) (hb2:¬ 65536<bound) (ha:RawsV w a rs) (hok:RawsOk rs) (hl:rs.length=n) (hn:32 * n≤140737488351232) (hz:fault rs 0=(0,0)) :
  Calls Tryz.prog 154 #[.agg #[.int .u32 gen,.int .u32 bound],.slice a n cap] w fun e w'=>∃ ax cx m,e=.returned (.tuple #[.slice ax m cx,.agg #[.int .i64 0,.int .i64 0]])∧(writeTo gen bound rs n).length=m ∧
   w'.ownsRow w.heap.size 22 1 (.slice ax m cx) m ((writeTo gen bound rs n).map (Value.int .u32))∧Below w.heap.size w w':=by
 obtain⟨i0,hi,hz0,hz1,hz2⟩:=info_parts RefWrite.info
 have HL:Hid (rs.length=n):=hl
 have HN:Hid (∀ k,k≤n→sizeTo rs k≤1048576∧∀ j,j<k→(nthR rs j).2.length<65535):=by
  have:=fault_none rs (by rw [hz])
  rw [hl] at this
  exact this
 have HWL:Hid (∀ k,k≤n→(writeTo gen bound rs k).length=sizeTo rs k):=fun k hk=>writeTo_len gen bound rs k (by omega)
 have HWS:Hid (∀ k,k<n→writeTo gen bound rs (k+1)=writeTo gen bound rs k++rawW (nthR rs k)):=fun k hk=>writeTo_succ gen bound rs k (by omega)
 have hF:=fun wx (hb:Below w.heap.size w wx)=>measure_any a n cap rs wx (ha.below hb) hok hl hn
 have hM:=fun w=>mayBeBound_any bound w hb0 (by omega)
 rw [bound_ok hb1 hb2] at hM
 have hso:sizeOut rs=(sizeTo rs n:Int):=by unfold sizeOut;rw [hz,if_pos rfl,hl]
 rw [hz,hso] at hF
 have hsn:=(HN.out n (Nat.le_refl _)).1
 generalize hsn':sizeTo rs n=sn at hsn hF
 clear hl hz hb1 hb2 hso
 go_enter Tryz.func154,Tryz.ntmps154
 go_wp2_with (go_at_call 165;refine (hM _).mono ?_;rintro e w' ⟨rfl,rfl⟩)
 refine (hF _ (((Below.refl _ w).alloc (Nat.le_refl _) (.cells #[.int .u32 gen,.int .u32 bound] 200)).alloc (by simp) (.cells #[.int .i64 0,.int .i64 0] 30))).mono ?_
 rintro e w1 ⟨rfl,hbF⟩
 have hres1:w1.heap[w.heap.size+1]?=some (.cells #[.int .i64 0,.int .i64 0] 30 (0,0)):=by
  rw [hbF.block _ (by simp)]
  have:=heap_alloc_new (w.alloc (.cells #[.int .u32 gen,.int .u32 bound] 200)) (.cells #[.int .i64 0,.int .i64 0] 30)
  simpa using this
 have hbox1:w1.heap[w.heap.size]?=some (.cells #[.int .u32 gen,.int .u32 bound] 200 (0,0)):=by
  rw [hbF.block _ (by simp;omega),Below.heap_alloc _ _ _ (by simp)]
  exact heap_alloc_new w _
 have s1:w.heap.size+2≤w1.heap.size:=by have:=hbF.size;simp at this;omega
 have hbw1:Below w.heap.size w w1:=(((Below.refl _ w).alloc (Nat.le_refl _) _).alloc (by simp) _).trans (hbF.mono (by simp;omega))
 clear hF hbF hM
 go_wp2_with (at_make;refine wpList_make_own _ rfl _ _ 26 rfl (w.heap.size+2) 22 i0 (.int .u32 0) 1 Tryz.underlying26 hi hz0 hz1 _ _ _ sn rfl rfl (by omega) (by rw [hz2];omega) (by unfold maxLen;omega) (by simp;omega) ?_)
 intro w2 hown2 hgrow2
 have s2:=hgrow2.size
 simp only [World.size_alloc] at hown2 s2
 have hres2:w2.heap[w.heap.size+1]?=some (.cells #[.int .i64 0,.int .i64 0] 30 (0,0)):=(hgrow2.block _ (by simp;omega) (by simp)).trans ((Below.heap_alloc w1 _ _ (by omega)).trans hres1)
 have hbox2:=(hgrow2.block w.heap.size (by simp;omega) (by simp)).trans ((Below.heap_alloc w1 _ _ (by omega)).trans hbox1)
 have hbw2:Below w.heap.size w w2:=(hbw1.alloc (by omega) _).grown hgrow2 (by simp;omega) (fun k hk=>by cases hk)
 obtain⟨c0,c1,_⟩:=cell_of_two hbox2
 clear hgrow2 hres1 hbox1 hbox2 hbw1
 generalize w1.heap.size=G at *
 go_wp2_with (at_builtin;refine wpList_append_lies _ rfl (.tmp 27) (.tmp 32) 26 rfl (w.heap.size+2) 22 i0 (.int .u32 0) 1 4 Tryz.underlying26 hi hz0 hz1 hz2 rfl (by omega) (.slice (some ⟨G+1,0,none⟩) 0 sn) 0 [] rfl (hown2.alloc _) ⟨w2.heap.size,0,none⟩ 5 5 [.int .u32 119734787,.int .u32 65536,.int .u32 gen,.int .u32 bound,.int .u32 0] rfl rfl (World.news_of_block (cs:=#[.int .u32 119734787,.int .u32 65536,.int .u32 gen,.int .u32 bound,.int .u32 0]) (t:=22) (fr:=(0,0)) (heap_alloc_new w2 _)) (by simp [Value.oneCell']) (by omega) (by unfold maxLen;omega) (by omega) (by simp;omega) (w2.heap.size+1) (by simp) ?_)
 intro g3 cap3 w3 hown3 hgrow3 hat3 hlt3
 have hres3:=(hgrow3.block (w.heap.size+1) (by simp;omega) (fun e=>by simp [Value.ownBlock] at e;omega)).trans ((Below.heap_alloc w2 _ _ (by omega)).trans hres2)
 have hbw3:Below w.heap.size w w3:=(hbw2.alloc (by omega) _).grown hgrow3 (by simp;omega) (fun k hk=>by simp [Value.ownBlock] at hk;omega)
 clear hgrow3 hat3 hown2 hres2 hbw2 hlt3 c0 c1
 go_wp2
 go_loopw [8,36] (fun v i wr=>∃ (k:Nat),k≤n∧i=.int .i64 k∧wr.ownsRow (w.heap.size+2) 22 1 v (sizeTo rs k) ((writeTo gen bound rs k).map (Value.int .u32)) ∧
   wr.heap[w.heap.size+1]?=some (.cells #[.int .i64 0,.int .i64 0] 30 (0,0))∧Below w.heap.size w wr)
  (fun _ i _=>n - (intOf i).toNat)
 case atStart=>exact⟨0,Nat.zero_le _,rfl,by simpa [writeTo,sizeTo] using hown3,hres3,hbw3⟩
 case round =>
  obtain⟨k,hk,rfl,hown,hres,hnx⟩:=hrel
  obtain⟨ax,cx,rfl⟩:=own_shape hown
  clear hown3 hres3 hbw3
  have hsz:=hnx.size
  have hlt1:w.heap.size+1<wr.heap.size:=(Array.getElem?_eq_some_iff.1 hres).1
  have hob:∀ j,Value.ownBlock (.slice ax (sizeTo rs k) cx)=some j→w.heap.size+2≤j∧j<wr.heap.size:=fun j hj=>by
   rcases hown.2 with ⟨h1,_⟩ | ⟨g,c,cur,h1,h2,h3,_⟩
   ·rw [h1] at hj;simp [Value.ownBlock] at hj
   ·rw [h1] at hj;simp [Value.ownBlock] at hj;subst hj;exact⟨h2,(Array.getElem?_eq_some_iff.1 h3).1⟩
  by_cases hlt:k<n
  ·obtain⟨b,off,aj,cj,nj,rfl,hbs,p1,p2,p3,p4,_⟩:=ha k (by rw [HL.out];exact hlt)
   obtain⟨o1,o2,_,_⟩:=hok k (by rw [HL.out];exact hlt)
   have HS:Hid (sizeTo rs (k+1)=sizeTo rs k+1+nj):=by show _=_;rw [sizeTo_succ rs k (by rw [HL.out];exact hlt),p3]
   have h1:=(HN.out k hk).1
   have h2:=(HN.out (k+1) hlt).1
   have h3:=(HN.out (k+1) hlt).2 k (by omega)
   rw [HS.out] at h2
   rw [p3] at h3
   have HWK:Hid (writeTo gen bound rs (k+1)=writeTo gen bound rs k++((((nj:Int)+1) * 65536+(nthR rs k).1) :: (nthR rs k).2)):=by
    show _=_;rw [HWS.out k hlt,rawW,p3]
   have HP3:Hid ((nthR rs k).2.length=nj):=p3
   have q1:=(hnx.cell (p:=⟨b,off+k * 2,none⟩) hbs).trans p1
   have q2:=(hnx.cell (p:=⟨b,off+k * 2+1,none⟩) hbs).trans p2
   have hki:(k:Int)<(n:Int):=by omega
   have hk0:(0:Int)≤(k:Int):=by omega
   have hW:=fun wx=>firstWord_any (nthR rs k).1 aj nj cj wx h3 o1 o2
   clear p1 p2 p3 hok ha
   generalize hs:sizeTo rs k=s at *
   generalize writeTo gen bound rs k=ws at *
   generalize (nthR rs k).1=op at *
   generalize (nthR rs k).2=ms at *
   go_wp2_with fail
   refine (hW _).mono ?_
   rintro e w4 ⟨rfl,hb4⟩
   have s4:=hb4.size
   simp only [World.size_alloc] at s4
   have hown4:=own_below (hown.alloc (.cells #[.int .u16 op,.slice aj nj cj] 203)) hb4
   have hr4:=(hb4.block wr.heap.size (by simp)).trans (heap_alloc_new wr (.cells #[.int .u16 op,.slice aj nj cj] 203))
   have hres4:=(hb4.block (w.heap.size+1) (by simp;omega)).trans ((Below.heap_alloc wr _ _ hlt1).trans hres)
   have hbw4:Below w.heap.size w w4:=(hnx.alloc hsz _).trans (hb4.mono (by simp;omega))
   clear hb4 hW q1 q2 hown hres hnx
   go_wp2_with (at_builtin;refine wpList_append_lies _ rfl (.tmp 40) (.tmp 43) 26 rfl (w.heap.size+2) 22 i0 (.int .u32 0) 1 4 Tryz.underlying26 hi hz0 hz1 hz2 rfl (by omega) (.slice ax s cx) s _ rfl (hown4.alloc _) ⟨w4.heap.size,0,none⟩ 1 1 [.int .u32 (((nj:Int)+1) * 65536+op)] rfl rfl (World.news_of_block (cs:=#[.int .u32 (((nj:Int)+1) * 65536+op)]) (t:=22) (fr:=(0,0)) (heap_alloc_new w4 _)) (by simp [Value.oneCell']) (by omega) (by unfold maxLen;omega) (by omega) (by simp;omega) (w4.heap.size+1) (by simp) ?_)
   intro g5 cap5 w5 hown5 hgrow5 hat5 hlt5
   have hr5:=(hgrow5.block wr.heap.size (by simp;omega) (fun e=>by have:=(hob _ e.symm).2;omega)).trans ((Below.heap_alloc w4 _ _ (by omega)).trans hr4)
   have hres5:=(hgrow5.block (w.heap.size+1) (by simp;omega) (fun e=>by have:=(hob _ e.symm).1;omega)).trans ((Below.heap_alloc w4 _ _ (by omega)).trans hres4)
   have hbw5:Below w.heap.size w w5:=(hbw4.alloc (by omega) _).grown hgrow5 (by simp;omega) (fun k hk=>(by have:=(hob k hk).1;omega))
   have s5:=hgrow5.size
   simp only [World.size_alloc] at s5
   obtain⟨d0,d1,_⟩:=cell_of_two hr5
   have hg5:w.heap.size+2≤g5:=by
    rcases hat5 with h | h
    ·exact (hob _ h).1
    ·omega
   clear hgrow5 hat5 hown4 hr4 hres4 hbw4 hob hr5
   have hown6:w5.ownsRow (w.heap.size+2) 22 1 (.slice (some ⟨g5,0,none⟩) (s+1) cap5) (s+1) ((ws++[((nj:Int)+1) * 65536+op]).map (Value.int .u32)):=by simpa using hown5
   clear hown5
   by_cases hnj:nj=0
   ·subst hnj
    have hms:ms=[]:=List.eq_nil_of_length_eq_zero HP3.out
    subst hms
    have hcap:s+1≤cap5:=by
     rcases hown6.2 with ⟨h,_⟩ | ⟨g,c',cur,h,_,_,h4,_⟩
     ·simp at h
     ·cases h;exact h4
    go_wp2_with (at_builtin;refine append_run _ rfl (.tmp 45) (.tmp 47) 26 rfl (.slice (some ⟨g5,0,none⟩) (s+1) cap5) (.slice aj 0 cj) _ _ rfl rfl (fun ty=>run_append_nothing _ _ ty 22 i0 Tryz.underlying26 hi (some ⟨g5,0,none⟩) (s+1) cap5 hcap aj cj) ?_)
    go_wp2
    go_roundw
    case rel=>exact⟨k+1,by omega,by go_num,by rw [HWK.out,HS.out];simpa using hown6,hres5,hbw5⟩
    case measure=>simp [intOf];omega
   ·obtain⟨b6,off6,rfl,_,_⟩:=p4 0 (by rw [HP3.out];omega)
    have hv5:=p4.below hbw5
    have hnews:∀ j u,(ms.map (Value.int .u32))[j]?=some u→w5.cell? ((⟨b6,off6,none⟩:Addr).add j)=some u:=by
     intro j u hj
     rw [List.getElem?_map] at hj
     have hjl:j<ms.length:=by
      rcases Nat.lt_or_ge j ms.length with h | h
      ·exact h
      ·rw [List.getElem?_eq_none h] at hj;simp at hj
     obtain⟨b',off',e',_,hc'⟩:=hv5 j hjl
     simp at e'
     obtain⟨rfl,rfl⟩:=e'
     rw [Addr.add_lit,hc',← hj,List.getElem?_eq_getElem hjl]
     simp [nth,List.getD,hjl]
    clear p4 hv5
    go_wp2_with (at_builtin;refine wpList_append_lies _ rfl (.tmp 45) (.tmp 47) 26 rfl (w.heap.size+2) 22 i0 (.int .u32 0) 1 4 Tryz.underlying26 hi hz0 hz1 hz2 rfl (by omega) (.slice (some ⟨g5,0,none⟩) (s+1) cap5) (s+1) _ rfl hown6 ⟨b6,off6,none⟩ nj cj (ms.map (Value.int .u32)) rfl (by rw [List.length_map,HP3.out];omega) hnews (ints_oneCell .u32 ms) (by omega) (by unfold maxLen;omega) (by omega) (by omega) w5.heap.size rfl ?_)
    intro g7 cap7 w7 hown7 hgrow7 hat7 hlt7
    have hres7:=(hgrow7.block (w.heap.size+1) (by omega) (fun e=>by simp [Value.ownBlock] at e;omega)).trans hres5
    have hbw7:Below w.heap.size w w7:=hbw5.grown hgrow7 hbw5.size (fun k hk=>by simp [Value.ownBlock] at hk;omega)
    clear hgrow7 hat7 hown6 hres5 hbw5 hnews d0 d1
    go_wp2
    go_roundw
    case rel=>exact⟨k+1,by omega,by go_num,by rw [HWK.out,HS.out];simpa using hown7,hres7,hbw7⟩
    case measure=>simp [intOf];omega
  ·obtain rfl:k=n:=by omega
   obtain⟨c0,c1,f1⟩:=cell_of_two hres
   have f0:wr.frozen? ⟨w.heap.size+1,0,none⟩=false:=by simp [World.frozen?,hres]
   have hz:=spot_set hres (.int .i64 0) (.int .i64 0)
   have HZ:Hid (_∧_):=hz
   clear hz hres ha hok hob
   go_wp2
   refine bodyPost_ret (v:=.tuple #[.slice ax (sizeTo rs k) cx,.agg #[.int .i64 0,.int .i64 0]]) (by simp [results,Tryz.results154,go_sem,HZ.out.1,HZ.out.2]) rfl ⟨ax,cx,_,rfl,HWL.out k hk,?_,?_⟩
   ·exact own_base (ownsRow_setCell_below (ownsRow_setCell_below hown (by simp) _) (by simp) _) (by omega)
   ·exact (hnx.setCell (by simp) _).setCell (by simp) _
theorem writeC:WriteC 154:=by
 intro gen bound a n cap rs w _ _ hb0 hb3 ha hok hl hn _
 by_cases h1:bound=0∨65536<bound
 ·have e1:writeE bound rs=(24,0):=by unfold writeE;rw [if_pos h1]
  refine (write_bound gen bound a n cap w hb0 hb3 h1).mono ?_
  rintro e w' ⟨rfl,hb⟩
  refine⟨hb,none,0,0,?_,?_,?_⟩
  ·simp [e1]
  ·simp [writeL,e1]
  ·simp only [writeL,e1];exact World.ownsRow_nil _ _ _ _
 ·have e1:writeE bound rs=fault rs 0:=by unfold writeE;rw [if_neg h1]
  have h2:¬ bound=0:=fun h=>h1 (.inl h)
  have h3:¬ 65536<bound:=fun h=>h1 (.inr h)
  rcases fault_any rs with hz | hz
  ·refine (write_ok gen bound a n cap rs w hb0 h2 h3 ha hok hl hn hz).mono ?_
   rintro e w' ⟨ax,cx,m,rfl,h4,h5,hb⟩
   have e2:writeL gen bound rs=writeTo gen bound rs n:=by unfold writeL;rw [e1,hz,if_pos rfl,hl]
   refine⟨hb,ax,cx,m,?_,?_,?_⟩
   ·rw [e1,hz];rfl
   ·rw [e2];exact h4
   ·rw [e2];exact h5
  ·refine (write_fault gen bound a n cap rs w hb0 h2 h3 ha hok hl hn hz).mono ?_
   rintro e w' ⟨rfl,hb⟩
   have e2:writeL gen bound rs=[]:=by unfold writeL;rw [e1,if_neg hz]
   refine⟨hb,none,0,0,?_,?_,?_⟩
   ·rw [e1]
   ·rw [e2];rfl
   ·rw [e2];exact World.ownsRow_nil _ _ _ _
theorem headOf_any (g b:Int) (a:Option Addr) (n c:Nat) (w:World) :
  Calls Tryz.prog 155 #[modV g b a n c] w fun e w'=>e=.returned (.agg #[.int .u32 g,.int .u32 b])∧Below w.heap.size w w':=by
 unfold modV
 go_enter Tryz.func155,Tryz.ntmps155
 go_wp2
 refine bodyPost_ret (v:=.agg #[.int .u32 g,.int .u32 b]) ?_ rfl ⟨rfl,?_⟩
 ·simp [results,Tryz.results155,go_sem]
 ·exact two_boxes w _ _
end Go.Proofs.YtoebhgpciinkgaaGreatDoor
