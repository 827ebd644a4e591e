/-
  Texts in one: MathY, MathH, GrammarFormTexts, Ref03Letter, Ref03All, Ref03Named, MathA, MathA2, MathWt, PrintSmall, Slots, PrintArgument, PrintAdd, PrintTokenstt.
-/
import Derived.Test.YtonhnflilfjkbaaGreatDoorB15
namespace Go.Proofs.YtonhnflilfjkbaaGreatDoor
open Go.RowKit
set_option linter.unusedSimpArgs false
set_option linter.unusedVariables false
/-! ### tokens that are written anew -/

theorem wOut_within (l:List TokT):Within 256 (wOut l):=by
 unfold wOut;split
 ·exact within_dropX (wAll_within l) 1
 ·exact fun z hz=>by simp at hz
theorem wOut_len (l:List TokT):(wOut l).length≤4 * bulkT l+3 * l.length:=by
 have:=wAll_len l
 unfold wOut;split
 ·rw [List.length_drop];omega
 ·simp
/-! ### a note behind a line -/

/-! ### a quoted text alone -/

theorem quote_print (t:List Int) (hw:Within 256 t):∀ z∈quoteL t,32≤z∧z≤126:=by
 intro z hz
 simp only [quoteL,List.mem_cons,List.mem_append,List.mem_flatMap,List.not_mem_nil,or_false] at hz
 rcases hz with rfl | ⟨c,hc,hz⟩ | rfl
 ·omega
 ·have hcb:=hw c hc
  unfold escL at hz
  split at hz
  ·simp at hz;omega
  ·split at hz
   ·rename_i hp
    simp only [printB,decide_eq_true_eq] at hp
    simp at hz;omega
   ·simp only [List.mem_cons,List.not_mem_nil,or_false] at hz
    have hd:∀ n:Int,0≤n→n<16→32≤hexD n∧hexD n≤126:=fun n a b=>by unfold hexD;split <;> omega
    rcases hz with rfl | rfl | rfl | rfl
    ·omega
    ·omega
    ·exact hd _ (by omega) (by omega)
    ·exact hd _ (by omega) (by omega)
 ·omega

end Go.Proofs.YtonhnflilfjkbaaGreatDoor
namespace Go.Proofs.YtonhnflilfjkbaaGreatDoor
open Go.RowKit Go.Shelf Go.Lib
set_option maxRecDepth 10000
attribute [local go_sem] Oper.semAt_some
set_option linter.unusedVariables false
set_option linter.unusedSimpArgs false

def opsTo:Nat→List Nat
 | 0=>[]
 | k+1=>if (ftxt k).size=0 then opsTo k else opsTo k++[k]
def opsL:List Nat:=opsTo 256
end Go.Proofs.YtonhnflilfjkbaaGreatDoor
namespace Go.Proofs.YtonhnflilfjkbaaGreatDoor
open Go.RowKit
set_option maxRecDepth 10000
set_option linter.unusedVariables false
set_option linter.unusedSimpArgs false
theorem ofV_look (n:Int):∃ m,ofV n=formV m (lookF refT n).1:=by
 unfold ofV
 cases h:(lookF refT n).2
 ·rw [(lookF_false h).1];exact⟨0,rfl⟩
 ·exact⟨n,rfl⟩
theorem letterI_none (i:Int):letterI noFrm i=0:=by
 unfold letterI
 split
 ·rfl
 ·split
  ·rename_i h1 h2
   have:(noFrm.2.2.2.1.size:Int)=0:=rfl
   omega
  ·have:mayB noFrm (i - noFrm.2.2.2.1.size)=false:=rfl
   rw [this];rfl
set_option maxRecDepth 10000 in
set_option maxHeartbeats 2000000 in
theorem refLetter_any (n i:Int) (w:World) (h1:i<9223372036854775808) :
  Calls Tryz.prog 46 #[.int .u16 n,.int .i64 i] w fun e w'=>e=.returned (.int .u8 (letterI (lookF refT n).1 i))∧Below w.heap.size w w':=by
 have hR:=fun w=>refOf_any n w
 obtain⟨m,hm⟩:=ofV_look n
 rw [hm] at hR
 clear hm
 have hs:=look_short n
 have HN:Hid ((lookF refT n).2=false→(lookF refT n).1=noFrm):=fun h=>by rw [(lookF_false h).1]
 generalize (lookF refT n).1=f at *
 generalize (lookF refT n).2=is at *
 have HL:Hid (∃ x,x=letterI f i):=⟨_,rfl⟩
 have hs2:=hs
 simp only [shortF,Bool.and_eq_true,decide_eq_true_eq] at hs
 obtain⟨⟨⟨s1,s2⟩,s3⟩,s4⟩:=hs
 obtain⟨nm,t,r,fx,rs,mo,pa⟩:=f
 simp only at s1 s2 s3 s4
 clear hs2 HL
 cases is
 ·have HE:Hid (letterI (nm,t,r,fx,rs,mo,pa) i=0):=by show _=_;rw [HN.out rfl];exact letterI_none i
  clear HN
  unfold formV at hR
  go_enter Tryz.func46,Tryz.ntmps46
  go_wp2_with fail
  refine (hR _).mono ?_
  rintro e w1 ⟨rfl,hb⟩
  clear hR
  go_wp2
  go_ret
  exact⟨by rw [HE.out];rfl,hb.alloc hb.size _⟩
 ·clear HN
  by_cases hi:i<0
  ·have HE:Hid (letterI (nm,t,r,fx,rs,mo,pa) i=0):=by show _=_;unfold letterI;rw [if_pos hi]
   unfold formV at hR
   go_enter Tryz.func46,Tryz.ntmps46
   go_wp2_with fail
   refine (hR _).mono ?_
   rintro e w1 ⟨rfl,hb⟩
   clear hR
   go_wp2
   go_ret
   exact⟨by rw [HE.out];rfl,hb.alloc hb.size _⟩
  ·have hid:decide (i<0)=false:=by simpa using hi
   obtain⟨k,rfl⟩:=Int.eq_ofNat_of_zero_le (show 0≤i by omega)
   by_cases hx:(k:Int)<fx.size
   ·have HE:Hid (letterI (nm,t,r,fx,rs,mo,pa) k=sgn fx k):=by show _=_;unfold letterI;rw [if_neg hi,if_pos hx,Int.toNat_natCast]
    have hk:k<fx.size:=by omega
    have hsg:=sgn_at fx k hk
    unfold formV at hR
    go_enter Tryz.func46,Tryz.ntmps46
    go_wp2_with fail
    refine (hR _).mono ?_
    rintro e w1 ⟨rfl,hb⟩
    clear hR
    go_wp2
    go_ret
    exact⟨by rw [HE.out];rfl,hb.alloc hb.size _⟩
   ·by_cases hr:rs.size=0
    ·have HE:Hid (letterI (nm,t,r,fx,rs,mo,pa) k=0):=by show _=_;unfold letterI;rw [if_neg hi,if_neg hx];simp [mayB,hr]
     have hrz:(((rs.size:Nat):Int)==0)=true:=by simp [hr]
     have hxd:¬ k<fx.size:=by omega
     clear hr hx hi h1 s3 s4 s1 s2
     unfold formV at hR
     go_enter Tryz.func46,Tryz.ntmps46
     go_wp2_with fail
     refine (hR _).mono ?_
     rintro e w1 ⟨rfl,hb⟩
     clear hR
     go_wp2
     go_ret
     exact⟨by rw [HE.out];rfl,hb.alloc hb.size _⟩
    ·have hrz:(((rs.size:Nat):Int)==0)=false:=by simp [hr]
     have hr0:(0:Int)<(rs.size:Int):=by omega
     have hz:¬ (rs.size:Int)=0:=by omega
     obtain⟨b,hb⟩:∃ b:Nat,(k:Int) - (fx.size:Int)=b:=⟨k - fx.size,by omega⟩
     have hw1:IntKind.i64.wrap ((k:Int) - (fx.size:Int))=b:=by rw [hb];exact wrapI _ (by omega) (by omega)
     have hbl:(b:Int)<9223372036854775808:=by omega
     have ht:Int.tdiv (b:Int) (rs.size:Int)=(b:Int) / (rs.size:Int):=Int.tdiv_eq_ediv_of_nonneg (by omega)
     have hq0:0≤(b:Int) / (rs.size:Int):=Int.ediv_nonneg (by omega) (by omega)
     have hq1:(b:Int) / (rs.size:Int)≤b:=Int.ediv_le_self _ (by omega)
     have hw:IntKind.i64.wrap ((b:Int) / (rs.size:Int))=(b:Int) / (rs.size:Int):=wrapI _ (by omega) (by omega)
     have HM:Hid (mayB (nm,t,r,fx,rs,mo,pa) b=if mo=0 then true else decide ((b:Int) / (rs.size:Int)<mo)):=by show _=_;simp [mayB,hr]
     have tm:Int.tmod (b:Int) (rs.size:Int)=(b:Int) % (rs.size:Int):=Int.tmod_eq_emod_of_nonneg (by omega)
     have m0:0≤(b:Int) % (rs.size:Int):=Int.emod_nonneg _ hz
     have m1:(b:Int) % (rs.size:Int)<(rs.size:Int):=Int.emod_lt_of_pos _ hr0
     have hw2:IntKind.i64.wrap ((b:Int) % (rs.size:Int))=(b:Int) % (rs.size:Int):=wrapI _ (by omega) (by omega)
     have HE:Hid (letterI (nm,t,r,fx,rs,mo,pa) k=if mayB (nm,t,r,fx,rs,mo,pa) b then sgn rs ((b:Int) % (rs.size:Int)).toNat else 0):=by show _=_;unfold letterI;rw [if_neg hi,if_neg hx];simp only [hb]
     by_cases hc:mo > 0∧(b:Int) / (rs.size:Int) ≥ mo
     ·have HF:Hid (letterI (nm,t,r,fx,rs,mo,pa) k=0):=by show _=_;rw [HE.out,HM.out,if_neg (show ¬ mo=0 by omega),decide_eq_false (by omega)];rfl
      clear HE HM tm m0 m1 hw2 hb
      have hxd:¬ k<fx.size:=by omega
      obtain⟨hc1,hc2⟩:=hc
      clear hx hi hr h1 hbl s1 s2 hq1
      have g1:decide (mo > 0)=true:=by simpa using hc1
      have g2:decide (mo≤(b:Int) / (rs.size:Int))=true:=by simpa using hc2
      unfold formV at hR
      go_enter Tryz.func46,Tryz.ntmps46
      go_wp2_with fail
      refine (hR _).mono ?_
      rintro e w1 ⟨rfl,hb⟩
      clear hR
      go_wp2
      go_quiet (fail)
      go_wp2
      go_ret
      exact⟨by rw [HF.out];rfl,bel_drewN (hb.alloc hb.size _) _⟩
     ·have hmb:mayB (nm,t,r,fx,rs,mo,pa) b=true:=by
       rw [HM.out]
       split
       ·rfl
       ·exact decide_eq_true (by omega)
      obtain⟨j,hj⟩:=Int.eq_ofNat_of_zero_le m0
      have HF:Hid (letterI (nm,t,r,fx,rs,mo,pa) k=sgn rs j):=by show _=_;rw [HE.out,hmb,if_pos rfl,hj];rfl
      rw [hj] at tm hw2
      have hjl:j<rs.size:=by omega
      have hsg:=sgn_at rs j hjl
      have hxd:¬ k<fx.size:=by omega
      clear HE HM hmb hb hj m0 m1
      by_cases g1:mo > 0
      ·have g2:decide (mo≤(b:Int) / (rs.size:Int))=false:=decide_eq_false (by omega)
       have g1':decide (mo > 0)=true:=decide_eq_true g1
       clear hx hi hr h1 hbl s1 s2 hq1 hc g1
       unfold formV at hR
       go_enter Tryz.func46,Tryz.ntmps46
       go_wp2_with fail
       refine (hR _).mono ?_
       rintro e w1 ⟨rfl,hb⟩
       clear hR
       go_wp2
       go_quiet (fail)
       go_wp2
       go_quiet (fail)
       go_wp2
       go_ret
       exact⟨by rw [HF.out];rfl,bel_drewN (bel_drewN (hb.alloc hb.size _) _) _⟩
      ·have g1':decide (mo > 0)=false:=decide_eq_false g1
       clear hx hi hr h1 hbl s1 s2 hq1 hc g1 s3 s4
       unfold formV at hR
       go_enter Tryz.func46,Tryz.ntmps46
       go_wp2_with fail
       refine (hR _).mono ?_
       rintro e w1 ⟨rfl,hb⟩
       clear hR
       go_wp2
       go_quiet (fail)
       go_wp2
       go_quiet (fail)
       go_wp2
       go_ret
       exact⟨by rw [HF.out];rfl,bel_drewN (bel_drewN (hb.alloc hb.size _) _) _⟩

def opF (k:Nat):Frm:=(lookF refT k).1
def namP (s:ByteArray) (k:Nat):Bool:=(opF k).1.toList==s.toList

theorem kindI_most (c:Int):0≤kindI c∧kindI c≤4:=by unfold kindI;repeat' split <;> omega
def letOk (f:Frm):Bool:=f.2.2.2.1.data.toList.all (fun x=>decide (kindI (x.toNat:Int)≠0)) && f.2.2.2.2.1.data.toList.all (fun x=>decide (kindI (x.toNat:Int)≠0))
theorem refT_letOk:refT.all (fun p=>letOk p.2)=true:=by decide +kernel
theorem look_letOk (n:Int):letOk (lookF refT n).1=true:=by
 by_cases h:(lookF refT n).2=true
 ·exact List.all_eq_true.1 refT_letOk _ (lookF_true h)
 ·have:lookF refT n=(noFrm,false):=(lookF_false (by simpa using h)).1
  rw [this];rfl
theorem sgn_known {s:ByteArray} (h:s.data.toList.all (fun x=>decide (kindI (x.toNat:Int)≠0))=true) (k:Nat):sgn s k=0∨kindI (sgn s k)≠0:=by
 unfold sgn
 by_cases hk:k<s.data.toList.length
 ·right
  have e:s.data.toList.getD k 0=s.data.toList[k]:=by rw [List.getD,List.getElem?_eq_getElem hk];rfl
  have:=List.all_eq_true.1 h _ (List.getElem_mem hk)
  rw [e];simpa using this
 ·left
  have e:s.data.toList.getD k 0=0:=by simp only [List.getD];rw [List.getElem?_eq_none (by omega)];rfl
  rw [e];rfl
theorem letter_known (n i:Int):letterI (lookF refT n).1 i=0∨kindI (letterI (lookF refT n).1 i)≠0:=by
 have h:=look_letOk n
 simp only [letOk,Bool.and_eq_true] at h
 unfold letterI
 split
 ·exact .inl rfl
 ·split
  ·exact sgn_known h.1 _
  ·split
   ·exact sgn_known h.2 _
   ·exact .inl rfl
/-! ### names lead back -/

def nameRow (p:Int×Frm):Bool:=decide (opsL.find? (namP p.2.1)=some p.1.toNat) && decide (0≤p.1) && decide (opF p.1.toNat=p.2) && decide (p.2.1.size≤1000) && wordB (strI p.2.1)
theorem nameRows:refT.all nameRow=true:=by decide +kernel
theorem look_memW:∀ {l:List (Int×Frm)} {n:Int},(lookF l n).2=true→(n,(lookF l n).1)∈l
 | [],n,h=>by simp [lookF] at h
 | (k,s) :: l,n,h=>by
  rw [lookF] at h ⊢
  by_cases e:n=k
  ·rw [if_pos e];subst e;simp
  ·rw [if_neg e] at h ⊢;exact List.mem_cons_of_mem _ (look_memW h)
theorem name_op {n:Int} (h:(lookF refT n).2=true):∃ o:Nat,n=(o:Int)∧opsL.find? (namP (lookF refT n).1.1)=some o∧opF o=(lookF refT n).1∧(lookF refT n).1.1.size≤1000∧wordB (strI (lookF refT n).1.1)=true:=by
 have hr:=List.all_eq_true.1 nameRows _ (look_memW h)
 simp only [nameRow,Bool.and_eq_true,decide_eq_true_eq] at hr
 obtain⟨⟨⟨⟨r1,r2⟩,r3⟩,r4⟩,r5⟩:=hr
 exact⟨n.toNat,by omega,r1,r3,r4,r5⟩
def enumRow (x:Int×Int×ByteArray):Bool:=decide (enumN x.1 x.2.2=x.2.1) && enumNB x.1 x.2.2 && wordB (strI x.2.2) && decide (x.2.2.size≤1000)
theorem enumRows:namesT.all enumRow=true:=by decide +kernel
theorem name_enum {c n:Int} (h:enumB c n=true):enumN c (enumS c n)=n∧enumNB c (enumS c n)=true∧wordB (strI (enumS c n))=true∧(enumS c n).size≤1000:=by
 unfold enumB at h
 obtain⟨x,hx⟩:=Option.isSome_iff_exists.1 h
 have e:enumS c n=x.2.2:=by unfold enumS;rw [hx]
 have hr:=List.all_eq_true.1 enumRows x (List.mem_of_find?_eq_some hx)
 have hp:=List.find?_some hx
 simp only [isNum,Bool.and_eq_true,beq_iff_eq] at hp
 simp only [enumRow,Bool.and_eq_true,decide_eq_true_eq] at hr
 rw [e,← hp.1,← hp.2]
 exact⟨hr.1.1.1,hr.1.1.2,hr.1.2,hr.2⟩
/-! ### tokens of an instruction -/

def argTk (c:Int) (x:ArgT):TokT:=if x.1=1 then (2,dgS x.2.1,0) else if x.1=2 then (3,dgS x.2.1,0) else if x.1=3 then (4,x.2.2,0) else (1,enumS c x.2.1,0)
def argTks (f:Frm) (l:List ArgT):List TokT:=(List.range l.length).map fun (k:Nat)=>argTk (letterI f k) (nthA l k)
def eqS:ByteArray:=⟨#[61]⟩
def preTk (f:Frm) (x:InstT):List TokT:=(if f.2.2.1 then [(2,dgS x.2.2.1,0),(5,eqS,0)] else [])++([(1,f.1,0)]++(if f.2.1 then [(2,dgS x.2.1,0)] else []))
def tksI (x:InstT):List TokT:=preTk (lookF refT x.1).1 x++argTks (lookF refT x.1).1 x.2.2.2
theorem argTks_len (f:Frm) (l:List ArgT):(argTks f l).length=l.length:=by simp [argTks]
theorem argTks_nth (f:Frm) (l:List ArgT) (k:Nat) (h:k<l.length):nthT (argTks f l) k=argTk (letterI f k) (nthA l k):=by simp [argTks,nthT,List.getD,h]
theorem Pow10.below {w w':World} (h:Pow10 w) (hb:Below w.heap.size w w'):Pow10 w':=by
 unfold Pow10 Lib.TabIs World.var? at *
 cases hg:Tryz.prog.globalNamed "internal/strconv.uint64pow10" with
 | none=>simp [hg] at h
 | some g =>
  simp only [hg,Option.bind_some] at h ⊢
  have hlt:g<w.heap.size:=by
   rcases Nat.lt_or_ge g w.heap.size with h' | h'
   ·exact h'
   ·rw [Array.getElem?_eq_none h'] at h;simp at h
  rw [hb.block g hlt]
  exact h
theorem printDigits_any (n:Int) (w:World) (h0:0≤n) (h1:n<4294967296) (ht:Pow10 w):Calls Tryz.prog 73 #[.int .u32 n] w fun e w'=>e=.returned (.string (dgS n))∧Below w.heap.size w w':=by
 obtain⟨u,rfl⟩:=Int.eq_ofNat_of_zero_le h0
 have hF:=formatUint_any u (by omega) w ht
 have hw:IntKind.u64.wrap (u:Int)=(u:Int):=by rw [IntKind.wrap_u64];omega
 go_enter Tryz.func73,Tryz.ntmps73
 go_wp2_with fail
 refine hF.mono ?_
 rintro e w' ⟨rfl,hb⟩
 go_wp2_with fail
 go_ret
 exact⟨rfl,hb⟩
theorem printWord_any (s:ByteArray) (w:World):Calls Tryz.prog 38 #[.string s] w fun e w'=>e=.returned (tokV (1,s,0))∧Below w.heap.size w w':=by
 go_enter Tryz.func38,Tryz.ntmps38
 go_wp2
 refine bodyPost_ret (v:=.agg #[.int .u8 1,.string s,.int .i64 0]) ?_ rfl ⟨rfl,?_⟩
 ·simp [results,Tryz.results38,go_sem]
 ·exact (Below.refl _ w).alloc (Nat.le_refl _) _
theorem printText_any (s:ByteArray) (w:World):Calls Tryz.prog 91 #[.string s] w fun e w'=>e=.returned (tokV (4,s,0))∧Below w.heap.size w w':=by
 go_enter Tryz.func91,Tryz.ntmps91
 go_wp2
 refine bodyPost_ret (v:=.agg #[.int .u8 4,.string s,.int .i64 0]) ?_ rfl ⟨rfl,?_⟩
 ·simp [results,Tryz.results91,go_sem]
 ·exact (Below.refl _ w).alloc (Nat.le_refl _) _
theorem printEqual_any (w:World):Calls Tryz.prog 55 #[] w fun e w'=>e=.returned (tokV (5,eqS,0))∧Below w.heap.size w w':=by
 go_enter Tryz.func55,Tryz.ntmps55
 go_wp2
 refine bodyPost_ret (v:=.agg #[.int .u8 5,.string eqS,.int .i64 0]) ?_ rfl ⟨rfl,?_⟩
 ·simp [results,Tryz.results55,go_sem];rfl
 ·exact (Below.refl _ w).alloc (Nat.le_refl _) _
theorem printId_any (n:Int) (w:World) (h0:0≤n) (h1:n<4294967296) (ht:Pow10 w):Calls Tryz.prog 54 #[.int .u32 n] w fun e w'=>e=.returned (tokV (2,dgS n,0))∧Below w.heap.size w w':=by
 have hb0:Below w.heap.size w (w.alloc (.cells #[.int .u8 0,.string ⟨#[]⟩,.int .i64 0] 81)):=(Below.refl _ w).alloc (Nat.le_refl _) _
 have hF:=printDigits_any n _ h0 h1 (ht.below hb0)
 have hk:=heap_alloc_new w (.cells #[.int .u8 0,.string ⟨#[]⟩,.int .i64 0] 81)
 go_enter Tryz.func54,Tryz.ntmps54
 go_wp2_with fail
 generalize w.alloc (.cells #[.int .u8 0,.string ⟨#[]⟩,.int .i64 0] 81)=W at *
 refine hF.mono ?_
 rintro e w' ⟨rfl,hb⟩
 have HB:=Lib.hid (hb0.trans (hb.mono hb0.size))
 have hk2:=(hb.block w.heap.size (Array.getElem?_eq_some_iff.1 hk).1).trans hk
 have c0:=(one_block hk2).1 0
 have c1:=(one_block hk2).1 1
 have c2:=(one_block hk2).1 2
 have f:=(one_block hk2).2
 have f0:=f 0
 have f1:=f 1
 have f2:=f 2
 clear hF hb hb0 hk hk2 f
 go_wp2_with fail
 refine bodyPost_ret (v:=.agg #[.int .u8 2,.string (dgS n),.int .i64 0]) ?_ rfl ⟨rfl,?_⟩
 ·simp [results,Tryz.results54,go_sem,c0,c1,c2,f0,f1,f2]
 ·exact ((HB.out.setCell (by simp) _).setCell (by simp) _).setCell (by simp) _
theorem printNumber_any (n:Int) (w:World) (h0:0≤n) (h1:n<4294967296) (ht:Pow10 w):Calls Tryz.prog 39 #[.int .u32 n] w fun e w'=>e=.returned (tokV (3,dgS n,0))∧Below w.heap.size w w':=by
 have hb0:Below w.heap.size w (w.alloc (.cells #[.int .u8 0,.string ⟨#[]⟩,.int .i64 0] 81)):=(Below.refl _ w).alloc (Nat.le_refl _) _
 have hF:=printDigits_any n _ h0 h1 (ht.below hb0)
 have hk:=heap_alloc_new w (.cells #[.int .u8 0,.string ⟨#[]⟩,.int .i64 0] 81)
 go_enter Tryz.func39,Tryz.ntmps39
 go_wp2_with fail
 generalize w.alloc (.cells #[.int .u8 0,.string ⟨#[]⟩,.int .i64 0] 81)=W at *
 refine hF.mono ?_
 rintro e w' ⟨rfl,hb⟩
 have HB:=Lib.hid (hb0.trans (hb.mono hb0.size))
 have hk2:=(hb.block w.heap.size (Array.getElem?_eq_some_iff.1 hk).1).trans hk
 have c0:=(one_block hk2).1 0
 have c1:=(one_block hk2).1 1
 have c2:=(one_block hk2).1 2
 have f:=(one_block hk2).2
 have f0:=f 0
 have f1:=f 1
 have f2:=f 2
 clear hF hb hb0 hk hk2 f
 go_wp2_with fail
 refine bodyPost_ret (v:=.agg #[.int .u8 3,.string (dgS n),.int .i64 0]) ?_ rfl ⟨rfl,?_⟩
 ·simp [results,Tryz.results39,go_sem,c0,c1,c2,f0,f1,f2]
 ·exact ((HB.out.setCell (by simp) _).setCell (by simp) _).setCell (by simp) _
end Go.Proofs.YtonhnflilfjkbaaGreatDoor
namespace Go.Proofs.YtonhnflilfjkbaaGreatDoor
open Go
theorem hide {p:Prop} (h:p):Go.RowKit.Hid p:=h
def slot (t:Array Value) (i:Nat):Value:=t.getD i undef
def onNormal (K:Act→World→Prop):Exit→Act→World→Prop
 | .normal,a,w=>K a w
 | _,_,_=>False
theorem onNormal_normal (K:Act→World→Prop) (a:Act) (w:World):onNormal K .normal a w=K a w:=rfl
theorem wp_norm {P:Program} {c:Code} {Q:Exit→Act→World→Prop} {a:Act} {w:World} (h:c.wp P (onNormal (Q .normal)) a w):c.wp P Q a w :=
 wp_mono h fun e a w h=>by
  cases e with
  | normal=>exact h
  | _=>exact False.elim h
end Go.Proofs.YtonhnflilfjkbaaGreatDoor
namespace Go.Proofs.YtonhnflilfjkbaaGreatDoor
open Go.RowKit
set_option maxRecDepth 10000
set_option linter.unusedVariables false
set_option linter.unusedSimpArgs false
set_option maxHeartbeats 4000000 in
theorem printArgument_any (c:Int) (y:ArgT) (w:World) (hok:ArgOk y) (ht:Pow10 w):Calls Tryz.prog 56 #[.int .u8 c,argV y] w fun e w'=>e=.returned (tokV (argTk c y))∧Below w.heap.size w w':=by
 obtain⟨y0,y1,y2⟩:=y
 obtain⟨o1,o2,o3,o4,o5⟩:=hok
 simp only at o1 o2 o3 o4 o5
 unfold argV
 simp only
 have hb0:Below w.heap.size w ((w.alloc (.cells #[.int .u8 y0,.int .u32 y1,.string y2] 61)).alloc (.cells #[.int .u8 0,.string ⟨#[]⟩,.int .i64 0] 81)):=((Below.refl _ w).alloc (Nat.le_refl _) _).alloc (by simp) _
 have hI:=printId_any y1 _ o3 o4 (ht.below hb0)
 have hN:=printNumber_any y1 _ o3 o4 (ht.below hb0)
 have hT:=fun wx=>printText_any y2 wx
 have hE:=fun wx=>enum_any c y1 wx
 have hW:=fun wx=>printWord_any (enumS c y1) wx
 have hkR:=heap_alloc_new (w.alloc (.cells #[.int .u8 y0,.int .u32 y1,.string y2] 61)) (.cells #[.int .u8 0,.string ⟨#[]⟩,.int .i64 0] 81)
 have hkA:((w.alloc (.cells #[.int .u8 y0,.int .u32 y1,.string y2] 61)).alloc (.cells #[.int .u8 0,.string ⟨#[]⟩,.int .i64 0] 81)).heap[w.heap.size]?=some (.cells #[.int .u8 y0,.int .u32 y1,.string y2] 61 (0,0)):=by rw [Below.heap_alloc _ _ _ (by simp)];exact heap_alloc_new _ _
 have hkR':((w.alloc (.cells #[.int .u8 y0,.int .u32 y1,.string y2] 61)).alloc (.cells #[.int .u8 0,.string ⟨#[]⟩,.int .i64 0] 81)).heap[w.heap.size+1]?=some (.cells #[.int .u8 0,.string ⟨#[]⟩,.int .i64 0] 81 (0,0)):=by simpa using hkR
 have HB0:=hide hb0
 have HA:=hide hkA
 have HR:=hide hkR'
 clear hkR hkA hkR' hb0 ht
 by_cases h1:y0=1
 ·subst h1
  have e1:argTk c (1,y1,y2)=(2,(dgS y1),0):=by simp [argTk]
  rw [e1]
  clear hN hT hE hW
  go_enter Tryz.func56,Tryz.ntmps56
  go_wp2_with fail
  generalize (w.alloc (.cells #[.int .u8 1,.int .u32 y1,.string y2] 61)).alloc (.cells #[.int .u8 0,.string ⟨#[]⟩,.int .i64 0] 81)=W at *
  refine (hI).mono ?_
  rintro e w' ⟨rfl,hb⟩
  have HB:=hide (HB0.out.trans (hb.mono HB0.out.size))
  have hk2:=(hb.block (w.heap.size+1) (Array.getElem?_eq_some_iff.1 HR.out).1).trans HR.out
  have c0:=(one_block hk2).1 0
  have c1:=(one_block hk2).1 1
  have c2:=(one_block hk2).1 2
  have f:=(one_block hk2).2
  have f0:=f 0
  have f1:=f 1
  have f2:=f 2
  clear hb hk2 f
  unfold tokV
  go_wp2_with fail
  refine bodyPost_ret (v:=.agg #[.int .u8 2,.string (dgS y1),.int .i64 0]) ?_ rfl ⟨rfl,?_⟩
  ·simp [results,Tryz.results56,go_sem,c0,c1,c2,f0,f1,f2]
  ·exact ((HB.out.setCell (by simp) _).setCell (by simp) _).setCell (by simp) _
 by_cases h2:y0=2
 ·subst h2
  have e1:argTk c (2,y1,y2)=(3,(dgS y1),0):=by simp [argTk]
  rw [e1]
  clear hI hT hE hW h1
  go_enter Tryz.func56,Tryz.ntmps56
  go_wp2_with fail
  generalize (w.alloc (.cells #[.int .u8 2,.int .u32 y1,.string y2] 61)).alloc (.cells #[.int .u8 0,.string ⟨#[]⟩,.int .i64 0] 81)=W at *
  refine (hN).mono ?_
  rintro e w' ⟨rfl,hb⟩
  have HB:=hide (HB0.out.trans (hb.mono HB0.out.size))
  have hk2:=(hb.block (w.heap.size+1) (Array.getElem?_eq_some_iff.1 HR.out).1).trans HR.out
  have c0:=(one_block hk2).1 0
  have c1:=(one_block hk2).1 1
  have c2:=(one_block hk2).1 2
  have f:=(one_block hk2).2
  have f0:=f 0
  have f1:=f 1
  have f2:=f 2
  clear hb hk2 f
  unfold tokV
  go_wp2_with fail
  refine bodyPost_ret (v:=.agg #[.int .u8 3,.string (dgS y1),.int .i64 0]) ?_ rfl ⟨rfl,?_⟩
  ·simp [results,Tryz.results56,go_sem,c0,c1,c2,f0,f1,f2]
  ·exact ((HB.out.setCell (by simp) _).setCell (by simp) _).setCell (by simp) _
 by_cases h3:y0=3
 ·subst h3
  have e1:argTk c (3,y1,y2)=(4,y2,0):=by simp [argTk]
  rw [e1]
  clear hI hN hE hW h1 h2
  go_enter Tryz.func56,Tryz.ntmps56
  go_wp2_with fail
  generalize (w.alloc (.cells #[.int .u8 3,.int .u32 y1,.string y2] 61)).alloc (.cells #[.int .u8 0,.string ⟨#[]⟩,.int .i64 0] 81)=W at *
  refine (hT _).mono ?_
  rintro e w' ⟨rfl,hb⟩
  have HB:=hide (HB0.out.trans (hb.mono HB0.out.size))
  have hk2:=(hb.block (w.heap.size+1) (Array.getElem?_eq_some_iff.1 HR.out).1).trans HR.out
  have c0:=(one_block hk2).1 0
  have c1:=(one_block hk2).1 1
  have c2:=(one_block hk2).1 2
  have f:=(one_block hk2).2
  have f0:=f 0
  have f1:=f 1
  have f2:=f 2
  clear hb hk2 f
  unfold tokV
  go_wp2_with fail
  refine bodyPost_ret (v:=.agg #[.int .u8 4,.string y2,.int .i64 0]) ?_ rfl ⟨rfl,?_⟩
  ·simp [results,Tryz.results56,go_sem,c0,c1,c2,f0,f1,f2]
  ·exact ((HB.out.setCell (by simp) _).setCell (by simp) _).setCell (by simp) _
 have e1:argTk c (y0,y1,y2)=(1,enumS c y1,0):=by simp [argTk,h1,h2,h3]
 rw [e1]
 have g1:(y0==1)=false:=by simpa using h1
 have g2:(y0==2)=false:=by simpa using h2
 have g3:(y0==3)=false:=by simpa using h3
 clear hI hN hT e1
 go_enter Tryz.func56,Tryz.ntmps56
 go_wp2_with fail
 generalize (w.alloc (.cells #[.int .u8 y0,.int .u32 y1,.string y2] 61)).alloc (.cells #[.int .u8 0,.string ⟨#[]⟩,.int .i64 0] 81)=W at *
 refine (hE _).mono ?_
 rintro e w2 ⟨rfl,hb2⟩
 go_wp2_with fail
 refine (hW _).mono ?_
 rintro e w' ⟨rfl,hb3⟩
 have hb:=hb2.trans (hb3.mono hb2.size)
 clear hb2 hb3
 have HB:=hide (HB0.out.trans (hb.mono HB0.out.size))
 have hk2:=(hb.block (w.heap.size+1) (Array.getElem?_eq_some_iff.1 HR.out).1).trans HR.out
 have c0:=(one_block hk2).1 0
 have c1:=(one_block hk2).1 1
 have c2:=(one_block hk2).1 2
 have f:=(one_block hk2).2
 have f0:=f 0
 have f1:=f 1
 have f2:=f 2
 clear hb hk2 f
 unfold tokV
 go_wp2_with fail
 refine bodyPost_ret (v:=.agg #[.int .u8 1,.string (enumS c y1),.int .i64 0]) ?_ rfl ⟨rfl,?_⟩
 ·simp [results,Tryz.results56,go_sem,c0,c1,c2,f0,f1,f2]
 ·exact ((HB.out.setCell (by simp) _).setCell (by simp) _).setCell (by simp) _
theorem Tok.info:(Tryz.prog.info? 81).map (fun i=>(i.zero,i.size,i.bytes))=some (some (.agg #[.int .u8 0,.string ⟨#[]⟩,.int .i64 0]),3,32):=by kernel_rfl
structure LisB (w : World) (LB lo : Nat) (v : Value) (l : List TokT) : Prop where
  box : w.heap[LB]? = some (.cells #[v] 58 (0, 0))
  low : LB < lo
  top : lo ≤ w.heap.size
  own : w.ownsRow lo 81 3 v l.length (l.flatMap tokC)
structure KeepT (LB lo : Nat) (w w' : World) : Prop where
  os : w'.os = w.os
  tape : w'.tape = w.tape
  output : w'.output = w.output
  size : w.heap.size ≤ w'.heap.size
  block : ∀ b, b < lo → b ≠ LB → w'.heap[b]? = w.heap[b]?
theorem tokC_one (m:List TokT):∀ u∈m.flatMap tokC,u.oneCell'=true:=fun u hu=>by
 obtain⟨t,_,hu⟩:=List.mem_flatMap.1 hu
 simp only [tokC,List.mem_cons,List.not_mem_nil,or_false] at hu
 rcases hu with rfl | rfl | rfl <;> rfl
theorem tokC_len (m:List TokT):(m.flatMap tokC).length=m.length * 3:=by
 induction m with
 | nil=>rfl
 | cons t m ih=>simp [tokC] at ih ⊢;omega
set_option maxHeartbeats 4000000 in
theorem addTok_any (LB lo:Nat) (v:Value) (l m:List TokT) (ad:Addr) (k c:Nat) (w:World) (h:LisB w LB lo v l) (hm:m.length=k) (hk:0<k) (hc:∀ j u,(m.flatMap tokC)[j]?=some u→w.cell? (ad.add j)=some u) (hb:l.length+k≤1099511627776) :
  Calls Tryz.prog 53 #[.slice (some ad) k c,.pointer (some ⟨LB,0,none⟩)] w fun e w'=>e=.returned (.tuple #[])∧(∃ v',LisB w' LB lo v' (l++m))∧KeepT LB lo w w'∧(∀ b,b≠LB→b<w.heap.size→v.ownBlock≠some b→w'.heap[b]?=w.heap[b]?):=by
 obtain⟨i0,hi,hz0,hz1,hz2⟩:=info_parts Tok.info
 have c0:=(one_block h.box).1 0
 have f0:=(one_block h.box).2 0
 have HH:=hide h
 have HC:=hide hc
 have HM:=hide hm
 clear h hc hm
 have N4:l.length+k≤maxLen:=by unfold maxLen;omega
 have N5:(l.length+k) * 32≤140737488355328:=by omega
 go_enter Tryz.func53,Tryz.ntmps53
 go_wp2_with (at_builtin;refine wpList_append_lies _ rfl (.tmp 3) (.tmp 4) 58 rfl lo 81 i0 (.agg #[.int .u8 0,.string ⟨#[]⟩,.int .i64 0]) 3 32 Tryz.underlying58 hi hz0 hz1 hz2 rfl (by decide) v l.length (l.flatMap tokC) rfl HH.out.own ad k c (m.flatMap tokC) rfl (by rw [tokC_len,HM.out]) HC.out (tokC_one m) hk N4 N5 HH.out.top _ rfl ?_)
 intro g6 cap6 w6 hown6 hgr6 hat6 hlt6
 have hbk:∀ b,b<lo→w6.heap[b]?=w.heap[b]?:=fun b hb=>hgr6.block b (by have:=HH.out.top;omega) (fun e=>by have:=(HH.out.own.lt b e.symm).1;omega)
 have hbx:=(hbk LB HH.out.low).trans HH.out.box
 have d0:=(one_block hbx).1 0
 have d1:=(one_block hbx).2 0
 have HK6:Hid (KeepT LB lo w (w6.setCell ⟨LB,0,none⟩ (.slice (some ⟨g6,0,none⟩) (l.length+k) cap6))):=⟨hgr6.os,hgr6.tape,hgr6.output,by simpa [World.setCell] using hgr6.size,fun b hb hne=>by rw [← hbk b hb];simp [World.setCell,Array.getElem?_modify];intro e;exact absurd e.symm hne⟩
 have HL6:Hid (LisB (w6.setCell ⟨LB,0,none⟩ (.slice (some ⟨g6,0,none⟩) (l.length+k) cap6)) LB lo (.slice (some ⟨g6,0,none⟩) (l.length+k) cap6) (l++m)):=by
  refine⟨by simp [World.setCell,Array.getElem?_modify,hbx],HH.out.low,?_,?_⟩
  ·have:=hgr6.size;have:=HH.out.top;simp [World.setCell];omega
  ·rw [List.length_append,HM.out,List.flatMap_append]
   exact ownsRow_setCell_below hown6 HH.out.low _
 have HF6:Hid (∀ b,b≠LB→b<w.heap.size→v.ownBlock≠some b→(w6.setCell ⟨LB,0,none⟩ (.slice (some ⟨g6,0,none⟩) (l.length+k) cap6)).heap[b]?=w.heap[b]?):=fun b hne hb hn=>by
  rw [← hgr6.block b hb (fun e=>hn e.symm)]
  simp [World.setCell,Array.getElem?_modify];intro e;exact absurd e.symm hne
 clear hown6 hgr6 hat6 hlt6 hbk hbx HC c0 f0
 go_wp2
 go_end0
 exact⟨rfl,⟨_,HL6.out⟩,HK6.out,HF6.out⟩
theorem LisB.below {w w':World} {LB lo:Nat} {v:Value} {l:List TokT} (h:LisB w LB lo v l) (hb:Below w.heap.size w w'):LisB w' LB lo v l :=
 ⟨(hb.block _ (Array.getElem?_eq_some_iff.1 h.box).1).trans h.box,h.low,Nat.le_trans h.top hb.size,own_below h.own hb⟩
structure ItB (w W : World) (xo xt xr : Int) (ax : Option Addr) (n cx F : Nat) (f : Frm) (LB lo : Nat) (v : Value) (l : List TokT) : Prop where
  ibox : W.heap[w.heap.size]? = some (.cells #[.int .u16 xo, .int .u32 xt, .int .u32 xr, .slice ax n cx] 38 (0, 0))
  fbox : W.heap[F]? = some (.cells (frmCells xo f) 66 (0, 0))
  lis : LisB W LB lo v l
  bel : Below w.heap.size w W
  low : w.heap.size < LB ∧ F < LB
theorem ItB.below {w W W':World} {xo xt xr:Int} {ax:Option Addr} {n cx F:Nat} {f:Frm} {LB lo:Nat} {v:Value} {l:List TokT} (h:ItB w W xo xt xr ax n cx F f LB lo v l) (hb:Below W.heap.size W W'):ItB w W' xo xt xr ax n cx F f LB lo v l :=
 ⟨(hb.block _ (Array.getElem?_eq_some_iff.1 h.ibox).1).trans h.ibox,(hb.block _ (Array.getElem?_eq_some_iff.1 h.fbox).1).trans h.fbox,h.lis.below hb,h.bel.trans (hb.mono h.bel.size),h.low⟩
theorem ItB.keep {w W W':World} {xo xt xr:Int} {ax:Option Addr} {n cx F:Nat} {f:Frm} {LB lo:Nat} {v v':Value} {l l':List TokT} (h:ItB w W xo xt xr ax n cx F f LB lo v l) (hk:KeepT LB lo W W') (hl:LisB W' LB lo v' l'):ItB w W' xo xt xr ax n cx F f LB lo v' l':=by
 have h1:=h.low.1
 have h2:=h.low.2
 have h3:=h.lis.low
 exact⟨(hk.block _ (by omega) (by omega)).trans h.ibox,(hk.block _ (by omega) (by omega)).trans h.fbox,hl,⟨hk.os.trans h.bel.os,hk.tape.trans h.bel.tape,hk.output.trans h.bel.output,Nat.le_trans h.bel.size hk.size,fun i hi=>(hk.block i (by omega) (by omega)).trans (h.bel.block i hi)⟩,h.low⟩
theorem newToks_cells (w:World) (m:List TokT) (T:Nat):∀ j u,(m.flatMap tokC)[j]?=some u→(w.alloc (.cells (m.flatMap tokC).toArray T)).cell? ((⟨w.heap.size,0,none⟩:Addr).add j)=some u:=fun j u h=>by
 have hb:=heap_alloc_new w (.cells (m.flatMap tokC).toArray T)
 rw [Addr.add_lit,(one_block hb).1]
 simpa using h
theorem argTks_snoc (f:Frm) (l:List ArgT) (k:Nat) (h:k<l.length):(argTks f l).take (k+1)=(argTks f l).take k++[argTk (letterI f k) (nthA l k)]:=by
 rw [List.take_succ_eq_append_getElem (by rw [argTks_len];exact h)]
 congr 2
 rw [← argTks_nth f l k h]
 simp [nthT,List.getD,argTks_len,h]
theorem flat_tok:∀ (l:List TokT) (k j:Nat),k<l.length→j<3→(l.flatMap tokC)[k * 3+j]?=(tokC (nthT l k))[j]?
 | [],k,j,h,_=>by simp at h
 | x :: l,0,j,_,hj=>by
  rw [List.flatMap_cons,Nat.zero_mul,Nat.zero_add,List.getElem?_append_left (by simp [tokC];omega)];rfl
 | x :: l,k+1,j,h,hj=>by
  have ih:=flat_tok l k j (by simpa using h) hj
  rw [List.flatMap_cons,List.getElem?_append_right (by simp [tokC];omega)]
  have:(k+1) * 3+j - (tokC x).length=k * 3+j:=by simp [tokC];omega
  rw [this,ih];rfl
theorem toksV_own {w:World} {lo T n:Nat} {v:Value} {l:List TokT} (h:w.ownsRow lo T 3 v n (l.flatMap tokC)):∃ a m c,v=.slice a m c∧ToksV w a l∧l.length=m:=by
 have hl:l.length * 3=n * 3:=by rw [← tokC_len];exact h.1
 have hc:=fun g hg=>h.cells (g:=g) hg
 rcases h.2 with ⟨rfl,rfl⟩ | ⟨g,cap,cur,rfl,_,hg,_⟩
 ·exact⟨none,0,0,rfl,fun j hj=>by omega,by omega⟩
 ·refine⟨some ⟨g,0,none⟩,n,cap,rfl,fun j hj=>⟨g,0,rfl,(Array.getElem?_eq_some_iff.1 hg).1,?_,?_,?_⟩,by omega⟩
  ·have:=hc g rfl (j * 3) _ (flat_tok l j 0 hj (by decide))
   rw [Addr.add_lit] at this;exact this
  ·have:=hc g rfl (j * 3+1) _ (flat_tok l j 1 hj (by decide))
   rw [Addr.add_lit] at this;exact this
  ·have:=hc g rfl (j * 3+2) _ (flat_tok l j 2 hj (by decide))
   rw [Addr.add_lit] at this;exact this
theorem inBlock_thenP {l:Nat} {K:Act→World→Prop} {Q:Exit→Act→World→Prop} {a:Act} {w:World}:Exit.inBlock l (Exit.then K Q) .normal a w=K a w:=rfl
set_option maxHeartbeats 8000000 in
theorem printTokens_tt (x:InstT) (ax:Option Addr) (n cx:Nat) (w:World) (hv:ArgsV w ax x.2.2.2) (hl:x.2.2.2.length=n) (hn:n≤1000000000) (hx:InstOk x) (hk:(lookF refT x.1).2=true) (ht:Pow10 w) (hrs:(lookF refT x.1).1.2.2.1=true) (hty:(lookF refT x.1).1.2.1=true) :
  Calls Tryz.prog 29 #[.agg #[.int .u16 x.1,.int .u32 x.2.1,.int .u32 x.2.2.1,.slice ax n cx]] w fun e w'=>∃ a m c,e=.returned (.slice a m c)∧ToksV w' a (tksI x)∧(tksI x).length=m∧Below w.heap.size w w':=by
 have hOf:=fun wx=>of_any x.1 wx
 unfold ofV formV at hOf
 rw [hk,if_pos rfl] at hOf
 have HOf:=hide hOf
 have HX:=hide hx
 have HV:=hide hv
 have HT:=hide ht
 have HL:=hide hl
 have HTK:Hid (tksI x=preTk (lookF refT x.1).1 x++argTks (lookF refT x.1).1 x.2.2.2):=rfl
 generalize tksI x=RES at *
 clear hOf hx hv ht hk hl
 generalize hfe:(lookF refT x.1).1=f at *
 obtain⟨nm,ty,rs,fx,rp,mo,pa⟩:=f
 simp only at hrs hty HOf
 subst hrs hty
 obtain⟨xo,xt,xr,l⟩:=x
 simp only at HOf HX HV HL HTK hfe ⊢
 have HFE:=hide hfe
 clear hfe
 have hba:Below w.heap.size w (w.alloc (.cells #[.int .u16 xo,.int .u32 xt,.int .u32 xr,.slice ax n cx] 38)):=(Below.refl _ w).alloc (Nat.le_refl _) _
 have HM0:=hide (heap_alloc_new w (.cells #[.int .u16 xo,.int .u32 xt,.int .u32 xr,.slice ax n cx] 38))
 have HB0:=hide hba
 have hof:=HOf.out (w.alloc (.cells #[.int .u16 xo,.int .u32 xt,.int .u32 xr,.slice ax n cx] 38))
 clear hba HOf
 go_enter Tryz.func29,Tryz.ntmps29
 go_wp2_with fail
 generalize w.alloc (.cells #[.int .u16 xo,.int .u32 xt,.int .u32 xr,.slice ax n cx] 38)=W0 at *
 refine hof.mono ?_
 rintro e w1 ⟨rfl,hb1⟩
 have hba1:Below w1.heap.size w1 ((w1.alloc (.cells #[.int .u16 xo,.string nm,.bool true,.bool true,.string fx,.string rp,.int .i64 mo,.int .u8 pa] 66)).alloc (.cells #[.slice none 0 0] 58)):=((Below.refl _ w1).alloc (Nat.le_refl _) _).alloc (by simp) _
 have hb01:=hb1.trans (hba1.mono hb1.size)
 have hlt0:w.heap.size<w1.heap.size:=by have:=(Array.getElem?_eq_some_iff.1 HM0.out).1;have:=hb1.size;omega
 have HIT:Hid (ItB w ((w1.alloc (.cells #[.int .u16 xo,.string nm,.bool true,.bool true,.string fx,.string rp,.int .i64 mo,.int .u8 pa] 66)).alloc (.cells #[.slice none 0 0] 58)) xo xt xr ax n cx w1.heap.size (nm,true,true,fx,rp,mo,pa) (w1.heap.size+1) (w1.heap.size+2) (.slice none 0 0) []):=by
  refine⟨(hb01.block _ (Array.getElem?_eq_some_iff.1 HM0.out).1).trans HM0.out,?_,⟨?_,by omega,by simp,⟨rfl,.inl ⟨rfl,rfl⟩⟩⟩,HB0.out.trans (hb01.mono HB0.out.size),by omega,by omega⟩
  ·rw [Below.heap_alloc _ _ _ (by simp)];exact heap_alloc_new _ _
  ·have:=heap_alloc_new (w1.alloc (.cells #[.int .u16 xo,.string nm,.bool true,.bool true,.string fx,.string rp,.int .i64 mo,.int .u8 pa] 66)) (.cells #[.slice none 0 0] 58);simpa using this
 clear hof hb1 hba1 hb01 HM0 HB0
 have i1:=(one_block HIT.out.ibox).1 1
 have i2:=(one_block HIT.out.ibox).1 2
 have i3:=(one_block HIT.out.ibox).1 3
 have i0:=(one_block HIT.out.ibox).1 0
 go_wp2_with fail
 generalize (w1.alloc (.cells #[.int .u16 xo,.string nm,.bool true,.bool true,.string fx,.string rp,.int .i64 mo,.int .u8 pa] 66)).alloc (.cells #[.slice none 0 0] 58)=W1 at *
 clear i0 i1 i2 i3
 refine (printId_any xr W1 HX.out.2.2.2.2.1 HX.out.2.2.2.2.2.1 (HT.out.below HIT.out.bel)).mono ?_
 rintro e w2 ⟨rfl,hb⟩
 have HI2:=hide (HIT.out.below hb)
 clear hb HIT
 go_wp2_with fail
 refine (printEqual_any w2).mono ?_
 rintro e w3 ⟨rfl,hb⟩
 have HI3:=hide (HI2.out.below hb)
 clear hb HI2
 unfold tokV
 go_wp2_with fail
 have had:=addTok_any (w1.heap.size+1) (w1.heap.size+2) _ _ [(2,dgS xr,0),(5,eqS,0)] ⟨w3.heap.size,0,none⟩ 2 2 (w3.alloc (.cells ([(2,dgS xr,0),(5,eqS,0)].flatMap tokC).toArray 81)) (HI3.out.below ((Below.refl _ w3).alloc (Nat.le_refl _) _)).lis rfl (by decide) (newToks_cells w3 [(2,dgS xr,0),(5,eqS,0)] _) (by simp)
 have HA:=hide (HI3.out.below ((Below.refl _ w3).alloc (Nat.le_refl _) (.cells ([(2,dgS xr,0),(5,eqS,0)].flatMap tokC).toArray 81)))
 refine had.mono ?_
 rintro e w4 ⟨rfl,⟨v4,hl4⟩,hk4,_⟩
 have HI4:=hide (HA.out.keep hk4 hl4)
 clear had HA hl4 hk4 HI3
 have i1:=(one_block HI4.out.ibox).1 1
 have i2:=(one_block HI4.out.ibox).1 2
 have i3:=(one_block HI4.out.ibox).1 3
 have i0:=(one_block HI4.out.ibox).1 0
 obtain⟨q0,f1,f2,f3,q4,q5,q6,q7⟩:=frm_cells HI4.out.fbox
 clear q0 q4 q5 q6 q7
 go_wp2_with fail
 clear i0 i1 i2 i3 f1 f2 f3
 refine (printWord_any nm w4).mono ?_
 rintro e w5 ⟨rfl,hb⟩
 have HI5:=hide (HI4.out.below hb)
 clear hb HI4
 unfold tokV
 go_wp2_with fail
 have had:=addTok_any (w1.heap.size+1) (w1.heap.size+2) _ _ [(1,nm,0)] ⟨w5.heap.size,0,none⟩ 1 1 (w5.alloc (.cells ([(1,nm,0)].flatMap tokC).toArray 81)) (HI5.out.below ((Below.refl _ w5).alloc (Nat.le_refl _) _)).lis rfl (by decide) (newToks_cells w5 [(1,nm,0)] _) (by simp)
 have HA:=hide (HI5.out.below ((Below.refl _ w5).alloc (Nat.le_refl _) (.cells ([(1,nm,0)].flatMap tokC).toArray 81)))
 refine had.mono ?_
 rintro e w6 ⟨rfl,⟨v6,hl6⟩,hk6,_⟩
 have HI6:=hide (HA.out.keep hk6 hl6)
 clear had HA hl6 hk6 HI5
 have i1:=(one_block HI6.out.ibox).1 1
 have i2:=(one_block HI6.out.ibox).1 2
 have i3:=(one_block HI6.out.ibox).1 3
 have i0:=(one_block HI6.out.ibox).1 0
 obtain⟨q0,f1,f2,f3,q4,q5,q6,q7⟩:=frm_cells HI6.out.fbox
 clear q0 q4 q5 q6 q7
 go_wp2_with fail
 clear i0 i1 i2 i3 f1 f2 f3
 refine (printId_any xt w6 HX.out.2.2.1 HX.out.2.2.2.1 (HT.out.below HI6.out.bel)).mono ?_
 rintro e w7 ⟨rfl,hb⟩
 have HI7:=hide (HI6.out.below hb)
 clear hb HI6
 unfold tokV
 go_wp2_with fail
 have had:=addTok_any (w1.heap.size+1) (w1.heap.size+2) _ _ [(2,dgS xt,0)] ⟨w7.heap.size,0,none⟩ 1 1 (w7.alloc (.cells ([(2,dgS xt,0)].flatMap tokC).toArray 81)) (HI7.out.below ((Below.refl _ w7).alloc (Nat.le_refl _) _)).lis rfl (by decide) (newToks_cells w7 [(2,dgS xt,0)] _) (by simp)
 have HA:=hide (HI7.out.below ((Below.refl _ w7).alloc (Nat.le_refl _) (.cells ([(2,dgS xt,0)].flatMap tokC).toArray 81)))
 refine had.mono ?_
 rintro e w8 ⟨rfl,⟨v8,hl8⟩,hk8,_⟩
 have HI8:=hide (HA.out.keep hk8 hl8)
 clear had HA hl8 hk8 HI7
 have i1:=(one_block HI8.out.ibox).1 1
 have i2:=(one_block HI8.out.ibox).1 2
 have i3:=(one_block HI8.out.ibox).1 3
 have i0:=(one_block HI8.out.ibox).1 0
 obtain⟨q0,f1,f2,f3,q4,q5,q6,q7⟩:=frm_cells HI8.out.fbox
 clear q0 q4 q5 q6 q7
 go_wp2_with fail
 clear i0 i1 i2 i3 f1 f2 f3
 go_loopw [42] (fun i wr=>∃ (k:Nat) (v:Value),k≤n∧i=.int .i64 k∧ItB w wr xo xt xr ax n cx w1.heap.size (nm,true,true,fx,rp,mo,pa) (w1.heap.size+1) (w1.heap.size+2) v (preTk (nm,true,true,fx,rp,mo,pa) (xo,xt,xr,l)++(argTks (nm,true,true,fx,rp,mo,pa) l).take k)) (fun i _=>n - (intOf i).toNat)
 case atStart=>exact⟨0,_,Nat.zero_le _,rfl,by have:=HI8.out;simpa [preTk] using this⟩
 case round =>
  obtain⟨k,v,hk,rfl,hR⟩:=hrel
  clear HI8
  have HR:=hide hR
  have i0:=(one_block hR.ibox).1 0
  by_cases hlt:k<n
  ·have HLT:=hide hlt
   have hki:(k:Int)<(n:Int):=by omega
   have hk0:(0:Int)≤(k:Int):=by omega
   obtain⟨b,o,rfl,hbs,a0,a1,a2⟩:=(HV.out.below hR.bel) k (by rw [HL.out];exact hlt)
   have HFEW:Hid ((preTk (nm,true,true,fx,rp,mo,pa) (xo,xt,xr,l)++(argTks (nm,true,true,fx,rp,mo,pa) l).take k).length+1≤1099511627776):=by
    show _≤_
    rw [List.length_append,List.length_take,argTks_len]
    have:(preTk (nm,true,true,fx,rp,mo,pa) (xo,xt,xr,l)).length≤4:=by simp [preTk]
    have:=HL.out
    omega
   have hle:=hide fun wx=>grammarLetter_any xo ((k:Nat):Int) wx (by omega)
   rw [HFE.out] at hle
   have hyo:ArgOk (nthA l k):=HX.out.2.2.2.2.2.2.1 k (by have:=HL.out;simp only;omega)
   have har:=hide fun c wx (hp:Pow10 wx)=>printArgument_any c (nthA l k) wx hyo hp
   unfold argV at har
   have HTN:=hide (argTks_snoc (nm,true,true,fx,rp,mo,pa) l k (by rw [HL.out];exact hlt))
   generalize letterI (nm,true,true,fx,rp,mo,pa) (k:Int)=cc at *
   have hba:Below wr.heap.size wr (wr.alloc (.cells #[.int .u8 (nthA l k).1,.int .u32 (nthA l k).2.1,.string (nthA l k).2.2] 61)):=(Below.refl _ wr).alloc (Nat.le_refl _) _
   have HRA:=hide (hR.below hba)
   have HAB:=hide (heap_alloc_new wr (.cells #[.int .u8 (nthA l k).1,.int .u32 (nthA l k).2.1,.string (nthA l k).2.2] 61))
   generalize nthA l k=y at *
   obtain⟨y0,y1,y2⟩:=y
   simp only at a0 a1 a2 har HRA HAB
   obtain⟨t,hte⟩:∃ t,t=argTk cc (y0,y1,y2):=⟨_,rfl⟩
   rw [← hte] at HTN
   have har2:=hide (har.out cc)
   rw [← hte] at har2
   obtain⟨t0,t1,t2⟩:=t
   unfold tokV at har2
   simp only at har2
   clear hR hbs hba hyo har hte
   go_wp2_with fail
   generalize wr.alloc (.cells #[.int .u8 y0,.int .u32 y1,.string y2] 61)=WA at *
   generalize hAA:wr.heap.size=AA at *
   clear i0 a0 a1 a2
   have LC:Hid (∀ w',Below WA.heap.size WA w'→w'.cell? ⟨w.heap.size,0,none⟩=some (.int .u16 xo)∧w'.cell? ⟨AA,0,none⟩=some (.int .u8 y0)∧w'.cell? ⟨AA,1,none⟩=some (.int .u32 y1)∧w'.cell? ⟨AA,2,none⟩=some (.string y2)):=fun w' hC=>by
    have q:=(hC.block _ (Array.getElem?_eq_some_iff.1 HAB.out).1).trans HAB.out
    exact⟨(one_block (HRA.out.below hC).ibox).1 0,(one_block q).1 0,(one_block q).1 1,(one_block q).1 2⟩
   have hC0:Below WA.heap.size WA WA.drew:=below_drew WA
   have hmix:Tryz.prog.follows .mixedOrders=true:=by kernel_rfl
   refine (wpIn_wide (n:=0)).1 ?_
   refine wpIn_normal (wpIn_region_any hmix (wpAnyE_sound (C:=fun w'=>w'.cell? ⟨w.heap.size,0,none⟩=some (.int .u16 xo)∧w'.cell? ⟨AA,0,none⟩=some (.int .u8 y0)∧w'.cell? ⟨AA,1,none⟩=some (.int .u32 y1)∧w'.cell? ⟨AA,2,none⟩=some (.string y2)) (E:=fun i=>false) _ _ _ _ ?_))
   change wpAnyE _ _ _ _ _ _ _ _ _ _ _ (World.drew _)
   refine wpAnyE_takeD (i:=0) (some 47) (v:=.func (.func 53) #[] #[.pointer (some ⟨w1.heap.size+1,0,none⟩)]) (fun _=>trivial) (by kernel_rfl) rfl rfl (by kernel_rfl) (by kernel_rfl) (by kernel_rfl) (by kernel_rfl) (fun _ _ _ h=>by cases h.1) (LC.out _ hC0) (Or.inl ⟨by rfl,fun w' hC=>by obtain⟨e0,e1,e2,e3⟩:=hC;go_simp⟩) ?_
   simp only [Act.put,ap1,ap2,ap3]
   refine wpAnyE_takeD (i:=1) (some 48) (v:=.pointer (some ⟨w.heap.size,0,none⟩)) (fun _=>trivial) (by kernel_rfl) rfl rfl (by kernel_rfl) (by kernel_rfl) (by kernel_rfl) (by kernel_rfl) (fun _ _ _ h=>by cases h.1) (LC.out _ hC0) (Or.inl ⟨by rfl,fun w' hC=>by obtain⟨e0,e1,e2,e3⟩:=hC;go_simp⟩) ?_
   simp only [Act.put,ap1,ap2,ap3]
   refine wpAnyE_takeD (i:=2) (some 49) (v:=.int .u16 xo) (fun _=>trivial) (by kernel_rfl) rfl rfl (by kernel_rfl) (by kernel_rfl) (by kernel_rfl) (by kernel_rfl) (fun _ _ _ h=>by cases h.1) (LC.out _ hC0) (Or.inl ⟨by rfl,fun w' hC=>by obtain⟨e0,e1,e2,e3⟩:=hC;go_simp⟩) ?_
   simp only [Act.put,ap1,ap2,ap3]
   refine wpAnyE_takeD (i:=3) (some 50) (v:=.int .i64 (k:Int)) (fun _=>trivial) (by kernel_rfl) rfl rfl (by kernel_rfl) (by kernel_rfl) (by kernel_rfl) (by kernel_rfl) (fun _ _ _ h=>by cases h.1) (LC.out _ hC0) (Or.inl ⟨by rfl,fun w' hC=>by obtain⟨e0,e1,e2,e3⟩:=hC;go_simp⟩) ?_
   simp only [Act.put,ap1,ap2,ap3]
   refine wpAnyE_takeD (i:=5) (some 52) (v:=.agg #[.int .u8 y0,.int .u32 y1,.string y2]) (fun _=>trivial) (by kernel_rfl) rfl rfl (by kernel_rfl) (by kernel_rfl) (by kernel_rfl) (by kernel_rfl) (fun _ _ _ h=>by cases h.1) (LC.out _ hC0) (Or.inl ⟨by rfl,fun w' hC=>by obtain⟨e0,e1,e2,e3⟩:=hC;go_simp⟩) ?_
   simp only [Act.put,ap1,ap2,ap3]
   refine wpAnyE_ready (rs:=[4]) (by kernel_rfl) (by simp) ?_
   refine AllE.cons rfl (fun K hK=>?_) AllE.nil
   go_simp
   refine⟨trivial,rfl,(callsIn_wide.2 (hle.out WA.drew)).mono ?_⟩
   rintro e w5 ⟨rfl,hb5⟩
   dsimp only
   have hC5:Below WA.heap.size WA w5:=hC0.trans (show Below WA.heap.size WA.drew w5 from hb5)
   refine hK _ _ (.inr (LC.out _ hC5)) ?_
   clear hK K hb5
   refine wpAnyE_ready (rs:=[6]) (by kernel_rfl) (by simp) ?_
   refine AllE.cons rfl (fun K hK=>?_) AllE.nil
   go_simp
   refine⟨trivial,rfl,(callsIn_wide.2 (har2.out w5 (HT.out.below (HRA.out.below hC5).bel))).mono ?_⟩
   rintro e w6 ⟨rfl,hb6⟩
   dsimp only
   have hC6:Below WA.heap.size WA w6:=hC5.trans (hb6.mono hC5.size)
   refine hK _ _ (.inr (LC.out _ hC6)) ?_
   clear hK K hb6 hC5
   refine wpAnyE_ready (rs:=[7]) (by kernel_rfl) (by simp) ?_
   refine AllE.cons rfl (fun K hK=>?_) AllE.nil
   go_simp
   have hC7:Below WA.heap.size WA (w6.alloc (.cells #[.int .u8 t0,.string t1,.int .i64 t2] 81)):=hC6.alloc hC6.size _
   refine hK _ _ (.inr (LC.out _ hC7)) ?_
   clear hK K
   have had:=addTok_any (w1.heap.size+1) (w1.heap.size+2) _ _ [(t0,t1,t2)] ⟨w6.heap.size,0,none⟩ 1 1 (w6.alloc (.cells ([(t0,t1,t2)].flatMap tokC).toArray 81)) (HRA.out.below hC7).lis rfl (by decide) (newToks_cells w6 [(t0,t1,t2)] _) HFEW.out
   have HA:=hide (HRA.out.below hC7)
   refine wpAnyE_ready (rs:=[8]) (by kernel_rfl) (by simp) ?_
   refine AllE.cons rfl (fun K hK=>?_) AllE.nil
   go_simp
   refine⟨trivial,rfl,(callsIn_wide.2 had).mono ?_⟩
   rintro e w8 ⟨rfl,⟨v8,hl8⟩,hk8,hf8⟩
   dsimp only
   have HI8:=hide (HA.out.keep hk8 hl8)
   have hz:=HAB.out
   have hAw:AA<WA.heap.size:=(Array.getElem?_eq_some_iff.1 HAB.out).1
   have q8:w8.heap[AA]?=some (.cells #[.int .u8 y0,.int .u32 y1,.string y2] 61 (0,0)):=(hf8 AA (by have:=HR.out.lis.low;have:=HR.out.lis.top;omega) (Nat.lt_of_lt_of_le hAw hC7.size) (fun e=>by have:=(HR.out.lis.own.lt AA e).2;omega)).trans ((hC7.block AA hAw).trans HAB.out)
   refine hK _ _ (.inr ⟨(one_block HI8.out.ibox).1 0,(one_block q8).1 0,(one_block q8).1 1,(one_block q8).1 2⟩) ?_
   clear hK K had HA hl8 hk8 hf8 hz q8 hC7 hC6 hC0 HRA
   refine wpAnyE_done (by kernel_rfl) ⟨rfl,?_⟩ _
   rw [inBlock_thenP]
   have HE8:Hid (ItB w w8 xo xt xr (some ⟨b,o,none⟩) n cx w1.heap.size (nm,true,true,fx,rp,mo,pa) (w1.heap.size+1) (w1.heap.size+2) v8 (preTk (nm,true,true,fx,rp,mo,pa) (xo,xt,xr,l)++(argTks (nm,true,true,fx,rp,mo,pa) l).take (k+1))):=by
    show ItB _ _ _ _ _ _ _ _ _ _ _ _ _ _
    rw [HTN.out,← List.append_assoc];exact HI8.out
   clear HI8
   go_wp2_with fail
   go_roundw
   case rel=>exact⟨k+1,v8,by have:=HLT.out;omega,by go_num,HE8.out⟩
   case measure=>have:=HLT.out;simp [intOf];omega
  ·obtain rfl:k=n:=by omega
   have l0:=(one_block hR.lis.box).1 0
   obtain⟨aa,mm,cc,hvv,hTV,hlen⟩:=toksV_own hR.lis.own
   subst hvv
   have HB:=hide hR.bel
   have HTV:=hide hTV
   have HLE:=hide hlen
   clear hR i0 HR
   go_wp2_with fail
   go_ret
   refine⟨aa,mm,cc,rfl,?_,?_,HB.out⟩
   ·have h1:=HTV.out
    rw [List.take_of_length_le (by rw [argTks_len,HL.out];omega),← HTK.out] at h1
    exact h1
   ·have h1:=HLE.out
    rw [List.take_of_length_le (by rw [argTks_len,HL.out];omega),← HTK.out] at h1
    exact h1
end Go.Proofs.YtonhnflilfjkbaaGreatDoor
