/-
  Texts in one: GrammarTexts, GrammarReadForm, GrammarOf, GrammarLetter, Ref03Names, Ref03Kind, GrammarFits, Boxes, GrammarEnums.
-/
import Derived.Test.YtoebhgpciinkgaaGreatDoorB02
import Derived.WalkMore
import Derived.Lib.OthersKept
import Derived.Laws.AppendOwn
import Derived.RangeFuncCalls
import Derived.Shelf.Abstract
import Derived.Shelf.RegionOpen
import Derived.OwnWalkIn
import Derived.TacticsInMore
import Derived.LoopNIn
import Derived.LoopIn
namespace Go.Proofs.YtoebhgpciinkgaaGreatDoor
open Go.RowKit
set_option maxRecDepth 10000
theorem namingText_any (n:Int) (w:World):Calls Tryz.prog 179 #[.int .u16 n] w fun e w'=>e=.returned (.string (lookT namingT n))∧w=w' :=
 calls_textSwitch Tryz.func179 rfl rfl (by decide) rfl (by kernel_rfl) (by decide +kernel) n w
theorem makingText_any (n:Int) (w:World):Calls Tryz.prog 180 #[.int .u16 n] w fun e w'=>e=.returned (.string (lookT makingT n))∧w=w' :=
 calls_textSwitch Tryz.func180 rfl rfl (by decide) rfl (by kernel_rfl) (by decide +kernel) n w
theorem countingText_any (n:Int) (w:World):Calls Tryz.prog 181 #[.int .u16 n] w fun e w'=>e=.returned (.string (lookT countingT n))∧w=w' :=
 calls_textSwitch Tryz.func181 rfl rfl (by decide) rfl (by kernel_rfl) (by decide +kernel) n w
theorem comparingText_any (n:Int) (w:World):Calls Tryz.prog 182 #[.int .u16 n] w fun e w'=>e=.returned (.string (lookT comparingT n))∧w=w' :=
 calls_textSwitch Tryz.func182 rfl rfl (by decide) rfl (by kernel_rfl) (by decide +kernel) n w
theorem bitText_any (n:Int) (w:World):Calls Tryz.prog 183 #[.int .u16 n] w fun e w'=>e=.returned (.string (lookT bitT n))∧w=w' :=
 calls_textSwitch Tryz.func183 rfl rfl (by decide) rfl (by kernel_rfl) (by decide +kernel) n w
theorem flowText_any (n:Int) (w:World):Calls Tryz.prog 184 #[.int .u16 n] w fun e w'=>e=.returned (.string (lookT flowT n))∧w=w' :=
 calls_textSwitch Tryz.func184 rfl rfl (by decide) rfl (by kernel_rfl) (by decide +kernel) n w
theorem enumText_any (n:Int) (w:World):Calls Tryz.prog 128 #[.int .u8 n] w fun e w'=>e=.returned (.string (lookT enumT n))∧w=w' :=
 calls_textSwitch Tryz.func128 rfl rfl (by decide) rfl (by kernel_rfl) (by decide +kernel) n w
end Go.Proofs.YtoebhgpciinkgaaGreatDoor
namespace Go.Proofs.YtoebhgpciinkgaaGreatDoor
open Go.RowKit Go.Lib
set_option maxRecDepth 10000
set_option linter.unusedVariables false
set_option linter.unusedSimpArgs false
theorem set_at {w:World} {B T:Nat} {cs:Array Value} (h:w.heap[B]?=some (.cells cs T (0,0))) (i:Nat) (v:Value):(w.setCell ⟨B,i,none⟩ v).heap[B]?=some (.cells (cs.setIfInBounds i v) T (0,0)):=by
 simp only [World.setCell,Array.getElem?_modify,h];simp
theorem set_off (w:World) (B i:Nat) (v:Value) {k:Nat} (h:k≠B):(w.setCell ⟨B,i,none⟩ v).heap[k]?=w.heap[k]?:=Below.heap_setCell w ⟨B,i,none⟩ v k (by simpa using h)
theorem allocs2 (w:World) (a b:Obj):((w.alloc a).alloc b).heap[w.heap.size]?=some a∧((w.alloc a).alloc b).heap[w.heap.size+1]?=some b :=
 ⟨(Below.heap_alloc _ _ _ (by simp)).trans (heap_alloc_new w _),by have:=heap_alloc_new (w.alloc a) b;rw [World.size_alloc] at this;exact this⟩
theorem allocs3 (w:World) (a b c:Obj):(((w.alloc a).alloc b).alloc c).heap[w.heap.size]?=some a∧(((w.alloc a).alloc b).alloc c).heap[w.heap.size+1]?=some b∧(((w.alloc a).alloc b).alloc c).heap[w.heap.size+2]?=some c :=
 ⟨(Below.heap_alloc _ _ _ (by simp;omega)).trans (allocs2 w a b).1,(Below.heap_alloc _ _ _ (by simp)).trans (allocs2 w a b).2,by have:=heap_alloc_new ((w.alloc a).alloc b) c;rw [World.size_alloc,World.size_alloc] at this;exact this⟩
def RdI (w:World) (s:ByteArray) (n:Int) (k:Nat) (W:World):Prop :=
 Below w.heap.size w W∧W.heap[w.heap.size]?=some (.cells (frmCells 0 noFrm) 229 (0,0))∧W.heap[w.heap.size+1]?=some (.cells (frmCells n (rdTo s k).2.2) 229 (0,0))∧W.heap[w.heap.size+2]?=some (.stringIter s k)
def left (b m:Nat) (W:World):Nat:=match W.heap[b]? with | some (.stringIter _ k)=>m - k | _=>0
theorem left_at {b m:Nat} {W:World} {s:ByteArray} {k:Nat} (h:W.heap[b]?=some (.stringIter s k)):left b m W=m - k:=by unfold left;rw [h]
set_option maxRecDepth 10000 in
set_option maxHeartbeats 4000000 in
theorem readForm_any (n:Int) (s:ByteArray) (w:World) (hg:goodT s=true) (hs:s.size≤1000) :
  Calls Tryz.prog 170 #[.int .u16 n,.string s] w fun e w'=>e=.returned (formV n (rdF s))∧Below w.heap.size w w':=by
 have HG:Hid (goodT s=true):=hg
 clear hg
 go_enter Tryz.func170,Tryz.ntmps170
 go_wp2
 go_loopw [6,7] (fun c f W=>∃ k:Nat,k≤s.size∧c=.int .i64 (rdTo s k).1∧f=.int .i64 (rdTo s k).2.1∧RdI w s n k W) (fun _ _ W=>left (w.heap.size+2) s.size W)
 case atStart =>
  refine⟨0,Nat.zero_le _,rfl,rfl,(((Below.refl _ w).alloc (Nat.le_refl _) _).alloc (by simp) _).alloc (by simp;omega) _,?_,?_,?_⟩
  ·exact (allocs3 w _ _ _).1
  ·exact (allocs3 w _ _ _).2.1
  ·exact (allocs3 w _ _ _).2.2
 case round =>
  obtain⟨k,hk,rfl,rfl,hb,h4,h5,hit⟩:=hrel
  have hl0:left (w.heap.size+2) s.size wr=s.size - k:=left_at hit
  by_cases hlt:k<s.size
  ·have hok:=goodT_at HG.out hlt
   have HS:Hid (rdTo s (k+1)=rdStep s k (sgn s k) (rdTo s k)):=rfl
   have hsg:=sgn_at s k hlt
   generalize sgn s k=c at *
   generalize hrd:rdTo s k=x at *
   obtain⟨col,fr,nm,t,r,fx,rs,mo,pa⟩:=x
   simp only [rdOk,decide_eq_true_eq] at hok
   obtain⟨o1,o2,o3,o4,o5,o6,o7,o8,o9,o10⟩:=hok
   have hnx:=fun ty=>run_next_ascii_at (P:=Tryz.prog) _ _ s k ty hit hlt (by omega)
   rw [hsg] at hnx
   obtain⟨W1,hW1⟩:∃ X,X=wr.iterAt (w.heap.size+2) s (k+1):=⟨_,rfl⟩
   rw [← hW1] at hnx
   have hb1:Below w.heap.size w W1:=by rw [hW1];exact below_iterAt hb (by omega) _ _
   have i1:W1.heap[w.heap.size+2]?=some (.stringIter s (k+1)):=by rw [hW1];exact iterAt_heap _ _ _ _ _ hit
   have g4:W1.heap[w.heap.size]?=some (.cells (frmCells 0 noFrm) 229 (0,0)):=by rw [hW1,iterAt_other _ _ _ _ _ (by omega)];exact h4
   have g5:W1.heap[w.heap.size+1]?=some (.cells (frmCells n (nm,t,r,fx,rs,mo,pa)) 229 (0,0)):=by rw [hW1,iterAt_other _ _ _ _ _ (by omega)];exact h5
   clear hW1 h4 h5 hit hb hsg hrd
   obtain⟨hc,hf⟩:=one_block g5
   have HB:Hid (Below w.heap.size w W1):=hb1
   have H4:Hid (W1.heap[w.heap.size]?=some (.cells (frmCells 0 noFrm) 229 (0,0))):=g4
   have H5:Hid (W1.heap[w.heap.size+1]?=some (.cells (frmCells n (nm,t,r,fx,rs,mo,pa)) 229 (0,0))):=g5
   have HI:Hid (W1.heap[w.heap.size+2]?=some (.stringIter s (k+1))):=i1
   have HL:Hid (left (w.heap.size+2) s.size wr=s.size - k):=hl0
   clear g4 g5 i1 hb1 hl0
   by_cases h47:c=47
   ·subst h47
    have e1:rdTo s (k+1)=(col+1,(k:Int)+1,nm,t,r,fx,rs,mo,pa):=by rw [HS.out];simp [rdStep]
    have HE:Hid (rdTo s (k+1)=(col+1,(k:Int)+1,nm,t,r,fx,rs,mo,pa)):=e1
    clear e1 HS hc hf o9 o10
    go_wp2
    go_roundw
    case rel=>exact⟨k+1,by omega,by rw [HE.out],by rw [HE.out],HB.out,H4.out,by rw [HE.out];exact H5.out,HI.out⟩
    case measure=>rw [HL.out,left_at HI.out];omega
   ·have hne:(c==47)=false:=by simpa using h47
    have c1:=hc 1
    have c2:=hc 2
    have c3:=hc 3
    have c4:=hc 4
    have c5:=hc 5
    have c6:=hc 6
    have c7:=hc 7
    have f1:=hf 1
    have f2:=hf 2
    have f3:=hf 3
    have f4:=hf 4
    have f5:=hf 5
    have f6:=hf 6
    have f7:=hf 7
    clear hc hf
    unfold frmCells at c1 c2 c3 c4 c5 c6 c7
    rcases (show col=0∨col=1∨col=2∨col=3∨col=4∨col=5 by omega) with rfl | rfl | rfl | rfl | rfl | rfl
    ·have HE:Hid (rdTo s (k+1)=(0,fr,s.extract fr.toNat (k+1),t,r,fx,rs,mo,pa)):=by show _=_;rw [HS.out];simp [rdStep,h47]
     clear HS o9 o10
     go_wp2
     go_roundw
     case rel=>exact⟨k+1,by omega,by rw [HE.out],by rw [HE.out],HB.out.setCell (by simp) _,(set_off _ _ _ _ (by omega)).trans H4.out,by rw [HE.out];exact set_at H5.out 1 _,(set_off _ _ _ _ (by omega)).trans HI.out⟩
     case measure=>rw [HL.out,left_at ((set_off _ _ _ _ (by omega)).trans HI.out)];omega
    ·have HE:Hid (rdTo s (k+1)=(1,fr,nm,t || (c==116),r || (c==114),fx,rs,mo,pa)):=by show _=_;rw [HS.out];simp [rdStep,h47]
     clear HS o9 o10
     cases t <;> cases r
     all_goals
      go_wp2
      go_roundw
      case rel=>exact⟨k+1,by omega,by rw [HE.out],by rw [HE.out],(HB.out.setCell (by simp) _).setCell (by simp) _,(set_off _ _ _ _ (by omega)).trans ((set_off _ _ _ _ (by omega)).trans H4.out),by rw [HE.out];exact set_at (set_at H5.out 2 _) 3 _,(set_off _ _ _ _ (by omega)).trans ((set_off _ _ _ _ (by omega)).trans HI.out)⟩
      case measure=>rw [HL.out,left_at ((set_off _ _ _ _ (by omega)).trans ((set_off _ _ _ _ (by omega)).trans HI.out))];omega
    ·have HE:Hid (rdTo s (k+1)=(2,fr,nm,t,r,s.extract fr.toNat (k+1),rs,mo,pa)):=by show _=_;rw [HS.out];simp [rdStep,h47]
     clear HS o9 o10
     go_wp2
     go_roundw
     case rel=>exact⟨k+1,by omega,by rw [HE.out],by rw [HE.out],HB.out.setCell (by simp) _,(set_off _ _ _ _ (by omega)).trans H4.out,by rw [HE.out];exact set_at H5.out 4 _,(set_off _ _ _ _ (by omega)).trans HI.out⟩
     case measure=>rw [HL.out,left_at ((set_off _ _ _ _ (by omega)).trans HI.out)];omega
    ·have HE:Hid (rdTo s (k+1)=(3,fr,nm,t,r,fx,s.extract fr.toNat (k+1),mo,pa)):=by show _=_;rw [HS.out];simp [rdStep,h47]
     clear HS o9 o10
     go_wp2
     go_roundw
     case rel=>exact⟨k+1,by omega,by rw [HE.out],by rw [HE.out],HB.out.setCell (by simp) _,(set_off _ _ _ _ (by omega)).trans H4.out,by rw [HE.out];exact set_at H5.out 5 _,(set_off _ _ _ _ (by omega)).trans HI.out⟩
     case measure=>rw [HL.out,left_at ((set_off _ _ _ _ (by omega)).trans HI.out)];omega
    ·have HE:Hid (rdTo s (k+1)=(4,fr,nm,t,r,fx,rs,10 * mo+(c - 48),pa)):=by show _=_;rw [HS.out];simp [rdStep,h47]
     clear HS 
     have o11:=o9 rfl h47
     clear o9 o10
     go_wp2
     go_roundw
     case rel=>exact⟨k+1,by omega,by rw [HE.out],by rw [HE.out],HB.out.setCell (by simp) _,(set_off _ _ _ _ (by omega)).trans H4.out,by rw [HE.out];exact set_at H5.out 6 _,(set_off _ _ _ _ (by omega)).trans HI.out⟩
     case measure=>rw [HL.out,left_at ((set_off _ _ _ _ (by omega)).trans HI.out)];omega
    ·have HE:Hid (rdTo s (k+1)=(5,fr,nm,t,r,fx,rs,mo,c - 48)):=by show _=_;rw [HS.out];simp [rdStep,h47]
     clear HS 
     have o11:=o10 rfl h47
     clear o9 o10
     go_wp2
     go_roundw
     case rel=>exact⟨k+1,by omega,by rw [HE.out],by rw [HE.out],HB.out.setCell (by simp) _,(set_off _ _ _ _ (by omega)).trans H4.out,by rw [HE.out];exact set_at H5.out 7 _,(set_off _ _ _ _ (by omega)).trans HI.out⟩
     case measure=>rw [HL.out,left_at ((set_off _ _ _ _ (by omega)).trans HI.out)];omega
  ·have hnx:=fun ty=>run_next_end_at (P:=Tryz.prog) _ _ s k ty hit hlt
   obtain rfl:k=s.size:=by omega
   have HF:Hid (rdF s=(rdTo s s.size).2.2):=rfl
   generalize rdTo s s.size=x at *
   obtain⟨col,fr,nm,t,r,fx,rs,mo,pa⟩:=x
   obtain⟨hc,hf⟩:=one_block h5
   obtain⟨gc,gf⟩:=one_block h4
   have c0:=hc 0
   have c1:=hc 1
   have c2:=hc 2
   have c3:=hc 3
   have c4:=hc 4
   have c5:=hc 5
   have c6:=hc 6
   have c7:=hc 7
   have d0:=gc 0
   have d1:=gc 1
   have d2:=gc 2
   have d3:=gc 3
   have d4:=gc 4
   have d5:=gc 5
   have d6:=gc 6
   have d7:=gc 7
   unfold frmCells at c0 c1 c2 c3 c4 c5 c6 c7
   unfold frmCells noFrm at d0 d1 d2 d3 d4 d5 d6 d7
   have HB:Hid (Below w.heap.size w wr):=hb
   have H4:Hid (wr.heap[w.heap.size]?=some (.cells (frmCells 0 noFrm) 229 (0,0))):=h4
   clear hc gc h4 h5 hit hl0 hb
   go_wp2
   have hx:=eight_set H4.out (.int .u16 n) (.string nm) (.bool t) (.bool r) (.string fx) (.string rs) (.int .i64 mo) (.int .u8 pa)
   have hy:=eight_below wr w.heap.size (.int .u16 n) (.string nm) (.bool t) (.bool r) (.string fx) (.string rs) (.int .i64 mo) (.int .u8 pa)
   obtain⟨xc,xf⟩:=one_block hx
   have x0:=xc 0
   have x1:=xc 1
   have x2:=xc 2
   have x3:=xc 3
   have x4:=xc 4
   have x5:=xc 5
   have x6:=xc 6
   have x7:=xc 7
   clear hx xc d0 d1 d2 d3 d4 d5 d6 d7 c0 c1 c2 c3 c4 c5 c6 c7 gf hf xf
   generalize hZ:((((((((wr.setCell ⟨w.heap.size,0,none⟩ (.int .u16 n)).setCell ⟨w.heap.size,1,none⟩ (.string nm)).setCell ⟨w.heap.size,2,none⟩ (.bool t)).setCell ⟨w.heap.size,3,none⟩ (.bool r)).setCell ⟨w.heap.size,4,none⟩ (.string fx)).setCell ⟨w.heap.size,5,none⟩ (.string rs)).setCell ⟨w.heap.size,6,none⟩ (.int .i64 mo)).setCell ⟨w.heap.size,7,none⟩ (.int .u8 pa))=Z at *
   exact bodyPost_ret (v:=formV n (nm,t,r,fx,rs,mo,pa)) (by simp [results,Tryz.results170,go_sem,formV,x0,x1,x2,x3,x4,x5,x6,x7]) rfl ⟨by rw [HF.out],HB.out.trans hy⟩
end Go.Proofs.YtoebhgpciinkgaaGreatDoor
namespace Go.Proofs.YtoebhgpciinkgaaGreatDoor
open Go.RowKit
set_option maxRecDepth 10000
set_option linter.unusedVariables false
set_option linter.unusedSimpArgs false
theorem formText_any (n:Int) (w:World):Calls Tryz.prog 169 #[.int .u16 n] w fun e w'=>e=.returned (.string (ftxt n))∧w=w':=by
 by_cases h1:n<41
 ·have e:ftxt n=lookT namingT n:=by unfold ftxt;rw [if_pos h1]
  go_enter Tryz.func169,Tryz.ntmps169
  go_wp2_with (go_at_call 179;refine (namingText_any _ _).mono ?_;rintro e w' ⟨rfl,rfl⟩)
  go_ret
  exact⟨by rw [e];rfl,rfl⟩
 ·by_cases h2:n<124
  ·have e:ftxt n=lookT makingT n:=by unfold ftxt;rw [if_neg h1,if_pos h2]
   go_enter Tryz.func169,Tryz.ntmps169
   go_wp2_with (go_at_call 180;refine (makingText_any _ _).mono ?_;rintro e w' ⟨rfl,rfl⟩)
   go_ret
   exact⟨by rw [e];rfl,rfl⟩
  ·by_cases h3:n<164
   ·have e:ftxt n=lookT countingT n:=by unfold ftxt;rw [if_neg h1,if_neg h2,if_pos h3]
    go_enter Tryz.func169,Tryz.ntmps169
    go_wp2_with (go_at_call 181;refine (countingText_any _ _).mono ?_;rintro e w' ⟨rfl,rfl⟩)
    go_ret
    exact⟨by rw [e];rfl,rfl⟩
   ·by_cases h4:n<194
    ·have e:ftxt n=lookT comparingT n:=by unfold ftxt;rw [if_neg h1,if_neg h2,if_neg h3,if_pos h4]
     go_enter Tryz.func169,Tryz.ntmps169
     go_wp2_with (go_at_call 182;refine (comparingText_any _ _).mono ?_;rintro e w' ⟨rfl,rfl⟩)
     go_ret
     exact⟨by rw [e];rfl,rfl⟩
    ·by_cases h5:n<245
     ·have e:ftxt n=lookT bitT n:=by unfold ftxt;rw [if_neg h1,if_neg h2,if_neg h3,if_neg h4,if_pos h5]
      go_enter Tryz.func169,Tryz.ntmps169
      go_wp2_with (go_at_call 183;refine (bitText_any _ _).mono ?_;rintro e w' ⟨rfl,rfl⟩)
      go_ret
      exact⟨by rw [e];rfl,rfl⟩
     ·have e:ftxt n=lookT flowT n:=by unfold ftxt;rw [if_neg h1,if_neg h2,if_neg h3,if_neg h4,if_neg h5]
      go_enter Tryz.func169,Tryz.ntmps169
      go_wp2_with (go_at_call 184;refine (flowText_any _ _).mono ?_;rintro e w' ⟨rfl,rfl⟩)
      go_ret
      exact⟨by rw [e];rfl,rfl⟩
/-! ### the two tables are one -/

theorem lookF_true:∀ {l:List (Int×Frm)} {n:Int},(lookF l n).2=true→(n,(lookF l n).1)∈l
 | [],n,h=>by cases h
 | (k,s) :: l,n,h=>by
  rw [lookF] at h ⊢
  split at h
  ·rename_i e;subst e;rw [if_pos rfl];exact List.mem_cons_self
  ·rename_i e;rw [if_neg e];exact List.mem_cons_of_mem _ (lookF_true h)
theorem lookF_false:∀ {l:List (Int×Frm)} {n:Int},(lookF l n).2=false→lookF l n=(noFrm,false)∧∀ k s,(k,s)∈l→n≠k
 | [],n,h=>⟨rfl,fun _ _ hm=>by cases hm⟩
 | (k,s) :: l,n,h=>by
  rw [lookF] at h ⊢
  split at h
  ·cases h
  ·rename_i e
   rw [if_neg e]
   refine⟨(lookF_false h).1,fun k' s' hm=>?_⟩
   rcases List.mem_cons.1 hm with e' | hm
   ·cases e';exact e
   ·exact (lookF_false h).2 k' s' hm
def rowOk (p:Int×Frm):Bool:=goodT (ftxt p.1) && decide ((ftxt p.1).size≤1000) && decide ((ftxt p.1).size≠0) && decide (rdF (ftxt p.1)=p.2)
theorem rows_ok:refT.all rowOk=true:=by decide +kernel
def keyIn (t:List (Int×ByteArray)):Bool:=t.all fun p=>refT.any fun q=>decide (q.1=p.1)
theorem keys_in:(keyIn namingT && keyIn makingT && keyIn countingT && keyIn comparingT && keyIn bitT && keyIn flowT)=true:=by decide +kernel
theorem key_none {t:List (Int×ByteArray)} (h:keyIn t=true) {n:Int} (hn:∀ k s,(k,s)∈refT→n≠k):lookT t n=⟨#[]⟩:=lookT_none fun k s hm e=>by
 have:=List.all_eq_true.1 h (k,s) hm
 obtain⟨q,hq,e2⟩:=List.any_eq_true.1 this
 exact hn q.1 q.2 hq (by rw [e];exact (of_decide_eq_true e2).symm)
theorem ftxt_ok (n:Int):goodT (ftxt n)=true∧(ftxt n).size≤1000∧rdF (ftxt n)=(lookF refT n).1∧((lookF refT n).2=true→(ftxt n).size≠0)∧((lookF refT n).2=false→ftxt n=⟨#[]⟩):=by
 cases h:(lookF refT n).2
 ·obtain⟨h1,h2⟩:=lookF_false h
  have hk:=keys_in
  simp only [Bool.and_eq_true] at hk
  obtain⟨⟨⟨⟨⟨k1,k2⟩,k3⟩,k4⟩,k5⟩,k6⟩:=hk
  have e:ftxt n=⟨#[]⟩:=by
   unfold ftxt
   rw [key_none k1 h2,key_none k2 h2,key_none k3 h2,key_none k4 h2,key_none k5 h2,key_none k6 h2]
   simp
  rw [e,h1]
  exact⟨by decide +kernel,by decide,by decide +kernel,fun h=>(by cases h),fun _=>rfl⟩
 ·have hm:=lookF_true h
  have hr:=List.all_eq_true.1 rows_ok _ hm
  simp only [rowOk,Bool.and_eq_true,decide_eq_true_eq] at hr
  obtain⟨⟨⟨r1,r2⟩,r3⟩,r4⟩:=hr
  exact⟨r1,r2,r4,fun _=>r3,fun h=>by cases h⟩
theorem readForm_op (n:Int) (w:World):Calls Tryz.prog 170 #[.int .u16 n,.string (ftxt n)] w fun e w'=>e=.returned (formV n (lookF refT n).1)∧Below w.heap.size w w':=by
 obtain⟨h1,h2,h3,_,_⟩:=ftxt_ok n
 rw [← h3]
 exact readForm_any n (ftxt n) w h1 h2
theorem bytes_empty (s:ByteArray) (h:s.size≠0):(s.toList==([]:List UInt8))=false:=by
 rw [ByteArray.toList_eq]
 cases e:s.data.toList with
 | nil=>exfalso;apply h;show s.data.size=0;rw [← Array.length_toList,e];rfl
 | cons a l=>rfl
set_option maxHeartbeats 1000000 in
theorem of_any (n:Int) (w:World):Calls Tryz.prog 157 #[.int .u16 n] w fun e w'=>e=.returned (.tuple #[ofV n,.bool (lookF refT n).2])∧Below w.heap.size w w':=by
 obtain⟨_,_,_,h4,h5⟩:=ftxt_ok n
 cases h:(lookF refT n).2
 ·have e:=h5 h
  have hT:=fun w=>formText_any n w
  rw [e] at hT
  have HO:Hid (ofV n=formV 0 noFrm):=by show _=_;unfold ofV;rw [h];rfl
  clear h4 h5 e h
  go_enter Tryz.func157,Tryz.ntmps157
  go_wp2_with (go_at_call 169;refine (hT _).mono ?_;rintro e w' ⟨rfl,rfl⟩)
  rw [HO.out]
  exact bodyPost_ret (v:=.tuple #[formV 0 noFrm,.bool false]) (by simp [results,Tryz.results157,go_sem,formV,noFrm]) rfl ⟨rfl,(Below.refl _ _).alloc (Nat.le_refl _) _⟩
 ·have e:=bytes_empty _ (h4 h)
  have HO:Hid (ofV n=formV n (lookF refT n).1):=by show _=_;unfold ofV;rw [h];rfl
  have hT:=fun w=>formText_any n w
  have hR:=fun w=>readForm_op n w
  clear h4 h5 h
  generalize ftxt n=s at *
  generalize (lookF refT n).1=f at *
  go_enter Tryz.func157,Tryz.ntmps157
  go_wp2_with (go_at_call 169;refine (hT _).mono ?_;rintro e w' ⟨rfl,rfl⟩)
  refine (hR _).mono ?_
  rintro e w1 ⟨rfl,hb⟩
  have hB:=(hb.block w.heap.size (by simp)).trans (alloc_new w _ _)
  have hbw:Below w.heap.size w w1:=((Below.refl _ w).alloc (Nat.le_refl _) _).trans (hb.mono (by simp))
  have HB:Hid (w1.heap[w.heap.size]?=some (.cells (frmCells 0 noFrm) 163 (0,0))):=hB
  obtain⟨d0,d1,d2,d3,d4,d5,d6,d7,df⟩:=frm_cells (n:=0) (f:=noFrm) hB
  unfold noFrm at d1 d2 d3 d4 d5 d6 d7
  clear hB hb hT hR
  obtain⟨nm,t,r,fx,rs,mo,pa⟩:=f
  unfold formV
  go_wp2
  have hx:=eight_set HB.out (.int .u16 n) (.string nm) (.bool t) (.bool r) (.string fx) (.string rs) (.int .i64 mo) (.int .u8 pa)
  have hy:=eight_below w1 w.heap.size (.int .u16 n) (.string nm) (.bool t) (.bool r) (.string fx) (.string rs) (.int .i64 mo) (.int .u8 pa)
  obtain⟨x0,x1,x2,x3,x4,x5,x6,x7,xf⟩:=frm_cells (n:=n) (f:=(nm,t,r,fx,rs,mo,pa)) hx
  clear hx d0 d1 d2 d3 d4 d5 d6 d7 df xf
  generalize ((((((((w1.setCell ⟨w.heap.size,0,none⟩ (.int .u16 n)).setCell ⟨w.heap.size,1,none⟩ (.string nm)).setCell ⟨w.heap.size,2,none⟩ (.bool t)).setCell ⟨w.heap.size,3,none⟩ (.bool r)).setCell ⟨w.heap.size,4,none⟩ (.string fx)).setCell ⟨w.heap.size,5,none⟩ (.string rs)).setCell ⟨w.heap.size,6,none⟩ (.int .i64 mo)).setCell ⟨w.heap.size,7,none⟩ (.int .u8 pa))=Z at *
  exact bodyPost_ret (v:=.tuple #[formV n (nm,t,r,fx,rs,mo,pa),.bool true]) (by simp [results,Tryz.results157,go_sem,formV,x0,x1,x2,x3,x4,x5,x6,x7]) rfl ⟨by rw [HO.out],hbw.trans hy⟩
def shortF (f:Frm):Bool:=decide (f.2.2.2.1.size≤1000) && decide (f.2.2.2.2.1.size≤1000) && decide (0≤f.2.2.2.2.2.1) && decide (f.2.2.2.2.2.1≤1000)
def mayB (f:Frm) (b:Int):Bool:=if f.2.2.2.2.1.size=0 then false else if f.2.2.2.2.2.1=0 then true else decide (b / f.2.2.2.2.1.size<f.2.2.2.2.2.1)
def letterI (f:Frm) (i:Int):Int :=
 if i<0 then 0 else if i<f.2.2.2.1.size then sgn f.2.2.2.1 i.toNat else if mayB f (i - f.2.2.2.1.size) then sgn f.2.2.2.2.1 ((i - f.2.2.2.1.size) % f.2.2.2.2.1.size).toNat else 0
theorem noLetter_any (p:Value) (i:Int) (w:World):Calls Tryz.prog 197 #[p,.int .i64 i] w fun e w'=>e=.returned (.int .u8 0)∧w=w':=by
 go_enter Tryz.func197,Tryz.ntmps197
 go_wp2
 go_ret
 exact⟨rfl,rfl⟩
theorem fixedLetter_any (B:Nat) (n:Int) (f:Frm) (i:Int) (w:World) (h:w.heap[B]?=some (.cells (frmCells n f) 229 (0,0))) (h0:0≤i) (h1:i<f.2.2.2.1.size) (hs:f.2.2.2.1.size≤1000) :
  Calls Tryz.prog 198 #[.pointer (some ⟨B,0,none⟩),.int .i64 i] w fun e w'=>e=.returned (.int .u8 (sgn f.2.2.2.1 i.toNat))∧w=w':=by
 obtain⟨d0,d1,d2,d3,d4,d5,d6,d7,df⟩:=frm_cells h
 obtain⟨nm,t,r,fx,rs,mo,pa⟩:=f
 simp only at *
 obtain⟨k,rfl⟩:=Int.eq_ofNat_of_zero_le h0
 have hk:k<fx.size:=by omega
 have hsg:=sgn_at fx k hk
 clear h d0 d1 d2 d3 d5 d6 d7 df
 go_enter Tryz.func198,Tryz.ntmps198
 go_wp2
 go_ret
 exact⟨rfl,rfl⟩
theorem wrapI (x:Int) (h0:-9223372036854775808≤x) (h1:x<9223372036854775808):IntKind.i64.wrap x=x:=by rw [IntKind.wrap_i64];omega
theorem string_some (s:ByteArray) (h:s.size≠0):(s.toList==([]:List UInt8))=false:=bytes_empty s h
theorem string_none (s:ByteArray) (h:s.size=0):(s.toList==([]:List UInt8))=true:=by
 rw [ByteArray.toList_eq]
 have:s.data.toList=[]:=by rw [← List.length_eq_zero_iff,Array.length_toList];exact h
 rw [this];rfl
theorem mayFollow_any (B:Nat) (n:Int) (f:Frm) (b:Int) (w:World) (h:w.heap[B]?=some (.cells (frmCells n f) 229 (0,0))) (h0:0≤b) (h1:b<9223372036854775808) (hs:shortF f=true) :
  Calls Tryz.prog 199 #[.pointer (some ⟨B,0,none⟩),.int .i64 b] w fun e w'=>e=.returned (.bool (mayB f b))∧∃ q,w'=w.drewN q:=by
 obtain⟨d0,d1,d2,d3,d4,d5,d6,d7,df⟩:=frm_cells h
 obtain⟨nm,t,r,fx,rs,mo,pa⟩:=f
 simp only [shortF,Bool.and_eq_true,decide_eq_true_eq] at hs
 obtain⟨⟨⟨s1,s2⟩,s3⟩,s4⟩:=hs
 simp only at *
 clear h d0 d1 d2 d3 d4 d7 df
 by_cases hr:rs.size=0
 ·have e:=string_none rs hr
  have HM:Hid (mayB (nm,t,r,fx,rs,mo,pa) b=false):=by show _=_;simp [mayB,hr]
  clear hr
  go_enter Tryz.func199,Tryz.ntmps199
  go_wp2
  go_ret
  exact⟨by rw [HM.out];rfl,0,rfl⟩
 ·have e:=string_some rs hr
  by_cases hm:mo=0
  ·subst hm
   have HM:Hid (mayB (nm,t,r,fx,rs,0,pa) b=true):=by show _=_;simp [mayB,hr]
   clear hr s3 s4
   go_enter Tryz.func199,Tryz.ntmps199
   go_wp2
   go_quiet (fail)
   go_wp2
   go_ret
   exact⟨by rw [HM.out];rfl,_,rfl⟩
  ·have hm':(mo==0)=false:=by simpa using hm
   have HM:Hid (mayB (nm,t,r,fx,rs,mo,pa) b=decide (b / (rs.size:Int)<mo)):=by show _=_;simp [mayB,hr,hm]
   have hr0:(0:Int)<(rs.size:Int):=by omega
   have hq0:0≤b / (rs.size:Int):=Int.ediv_nonneg h0 (by omega)
   have hq1:b / (rs.size:Int)≤b:=Int.ediv_le_self _ h0
   have ht:Int.tdiv b (rs.size:Int)=b / (rs.size:Int):=Int.tdiv_eq_ediv_of_nonneg h0
   have hw:IntKind.i64.wrap (b / (rs.size:Int))=b / (rs.size:Int):=wrapI _ (by omega) (by omega)
   have hz:¬ (rs.size:Int)=0:=by omega
   go_enter Tryz.func199,Tryz.ntmps199
   go_wp2
   go_quiet (fail)
   go_wp2
   go_ret
   exact⟨by rw [HM.out];rfl,_,rfl⟩
theorem restLetter_any (B:Nat) (n:Int) (f:Frm) (i:Int) (w:World) (h:w.heap[B]?=some (.cells (frmCells n f) 229 (0,0))) (h0:(f.2.2.2.1.size:Int)≤i) (h1:i<9223372036854775808) (hs:shortF f=true) (hr:f.2.2.2.2.1.size≠0) :
  Calls Tryz.prog 200 #[.pointer (some ⟨B,0,none⟩),.int .i64 i] w fun e w'=>e=.returned (.int .u8 (sgn f.2.2.2.2.1 ((i - f.2.2.2.1.size) % f.2.2.2.2.1.size).toNat))∧∃ q,w'=w.drewN q:=by
 obtain⟨d0,d1,d2,d3,d4,d5,d6,d7,df⟩:=frm_cells h
 obtain⟨nm,t,r,fx,rs,mo,pa⟩:=f
 simp only [shortF,Bool.and_eq_true,decide_eq_true_eq] at hs
 obtain⟨⟨⟨s1,s2⟩,s3⟩,s4⟩:=hs
 simp only at *
 clear h d0 d1 d2 d3 d6 d7 df s3 s4
 have hr0:(0:Int)<(rs.size:Int):=by omega
 have hz:¬ (rs.size:Int)=0:=by omega
 have hb0:0≤i - (fx.size:Int):=by omega
 have hw1:IntKind.i64.wrap (i - (fx.size:Int))=i - (fx.size:Int):=wrapI _ (by omega) (by omega)
 have ht:Int.tmod (i - (fx.size:Int)) (rs.size:Int)=(i - (fx.size:Int)) % (rs.size:Int):=Int.tmod_eq_emod_of_nonneg hb0
 have hq0:0≤(i - (fx.size:Int)) % (rs.size:Int):=Int.emod_nonneg _ hz
 have hq1:(i - (fx.size:Int)) % (rs.size:Int)<(rs.size:Int):=Int.emod_lt_of_pos _ hr0
 have hw2:IntKind.i64.wrap ((i - (fx.size:Int)) % (rs.size:Int))=(i - (fx.size:Int)) % (rs.size:Int):=wrapI _ (by omega) (by omega)
 obtain⟨k,hk⟩:=Int.eq_ofNat_of_zero_le hq0
 rw [hk] at ht hq1 hw2 ⊢
 have hkl:k<rs.size:=by omega
 have hsg:=sgn_at rs k hkl
 clear hk hq0
 go_enter Tryz.func200,Tryz.ntmps200
 go_wp2
 go_quiet (fail)
 go_wp2
 go_ret
 exact⟨rfl,_,rfl⟩
def tellerN (f:Frm) (i:Int):Nat:=if i<0 then 197 else if i<f.2.2.2.1.size then 198 else if mayB f (i - f.2.2.2.1.size) then 200 else 197
theorem teller_any (B:Nat) (n:Int) (f:Frm) (i:Int) (w:World) (h:w.heap[B]?=some (.cells (frmCells n f) 229 (0,0))) (h1:i<9223372036854775808) (hs:shortF f=true) :
  Calls Tryz.prog 192 #[.pointer (some ⟨B,0,none⟩),.int .i64 i] w fun e w'=>e=.returned (.func (.func (tellerN f i)) #[.pointer (some ⟨B,0,none⟩)] #[])∧∃ q,w'=w.drewN q:=by
 have HM:Hid (∀ b:Int,0≤b→b<9223372036854775808→_):=fun (b:Int) (h0:0≤b) (h1:b<9223372036854775808)=>mayFollow_any B n f b w h h0 h1 hs
 obtain⟨d0,d1,d2,d3,d4,d5,d6,d7,df⟩:=frm_cells h
 have hs2:=hs
 simp only [shortF,Bool.and_eq_true,decide_eq_true_eq] at hs
 obtain⟨⟨⟨s1,s2⟩,s3⟩,s4⟩:=hs
 clear h d0 d1 d2 d3 d5 d6 d7 df
 by_cases hi:i<0
 ·have HE:Hid (tellerN f i=197):=by show _=_;unfold tellerN;rw [if_pos hi]
  clear hs2
  go_enter Tryz.func192,Tryz.ntmps192
  go_wp2
  go_ret
  exact⟨by rw [HE.out];rfl,0,rfl⟩
 ·by_cases hx:i<f.2.2.2.1.size
  ·have HE:Hid (tellerN f i=198):=by show _=_;unfold tellerN;rw [if_neg hi,if_pos hx]
   clear hs2
   go_enter Tryz.func192,Tryz.ntmps192
   go_wp2
   go_ret
   exact⟨by rw [HE.out];rfl,0,rfl⟩
  ·have hc:=HM.out (i - f.2.2.2.1.size) (by omega) (by omega)
   have HE:Hid (tellerN f i=if mayB f (i - f.2.2.2.1.size) then 200 else 197):=by show _=_;unfold tellerN;rw [if_neg hi,if_neg hx]
   clear hs2 HM
   cases hb:mayB f (i - f.2.2.2.1.size)
   all_goals
    rw [hb] at hc HE
    clear hb
    go_enter Tryz.func192,Tryz.ntmps192
    go_wp2_with fail
    refine hc.mono ?_
    rintro e w' ⟨rfl,q,rfl⟩
    clear hc
    go_wp2
    go_ret
    exact⟨by rw [HE.out];rfl,q,rfl⟩
theorem letter_any (B:Nat) (n:Int) (f:Frm) (i:Int) (w:World) (h:w.heap[B]?=some (.cells (frmCells n f) 229 (0,0))) (h1:i<9223372036854775808) (hs:shortF f=true) :
  Calls Tryz.prog 186 #[.pointer (some ⟨B,0,none⟩),.int .i64 i] w fun e w'=>e=.returned (.int .u8 (letterI f i))∧∃ q,w'=w.drewN q:=by
 have hT:=teller_any B n f i w h h1 hs
 have hK:∀ q,Calls Tryz.prog (tellerN f i) #[.pointer (some ⟨B,0,none⟩),.int .i64 i] (w.drewN q) fun e w'=>e=.returned (.int .u8 (letterI f i))∧∃ q',w'=w.drewN q':=by
  intro q
  have hq:(w.drewN q).heap[B]?=some (.cells (frmCells n f) 229 (0,0)):=h
  have hsz:f.2.2.2.1.size≤1000:=by simp only [shortF,Bool.and_eq_true,decide_eq_true_eq] at hs;omega
  unfold tellerN letterI
  by_cases hi:i<0
  ·rw [if_pos hi,if_pos hi]
   exact (noLetter_any _ _ _).mono fun e w' he=>⟨he.1,q,he.2.symm⟩
  ·rw [if_neg hi,if_neg hi]
   by_cases hx:i<f.2.2.2.1.size
   ·rw [if_pos hx,if_pos hx]
    exact (fixedLetter_any B n f i _ hq (by omega) hx hsz).mono fun e w' he=>⟨he.1,q,he.2.symm⟩
   ·rw [if_neg hx,if_neg hx]
    cases hb:mayB f (i - f.2.2.2.1.size)
    ·simp only [Bool.false_eq_true,if_false]
     exact (noLetter_any _ _ _).mono fun e w' he=>⟨he.1,q,he.2.symm⟩
    ·simp only [if_true]
     have hr:f.2.2.2.2.1.size≠0:=fun e=>by unfold mayB at hb;rw [if_pos e] at hb;cases hb
     refine (restLetter_any B n f i _ hq (by omega) h1 hs hr).mono ?_
     rintro e w' ⟨rfl,q',rfl⟩
     exact⟨rfl,q+q',by rw [World.drewN_drewN]⟩
 have hne:∀ args w,(callFunc (tellerN f i) args).run Tryz.prog w=.ok (.enter (tellerN f i) args) w:=by
  intro args w
  unfold tellerN
  split
  ·kernel_rfl
  ·split
   ·kernel_rfl
   ·split
    ·kernel_rfl
    ·kernel_rfl
 generalize letterI f i=x at *
 generalize tellerN f i=g at *
 clear h hs
 go_enter Tryz.func186,Tryz.ntmps186
 go_wp2_with fail
 refine hT.mono ?_
 rintro e w' ⟨rfl,q,rfl⟩
 clear hT
 go_wp2_with fail
 refine (hK q).mono ?_
 rintro e w' ⟨rfl,q',rfl⟩
 clear hK hne
 go_wp2
 go_ret
 exact⟨rfl,q',rfl⟩
theorem refT_short:refT.all (fun p=>shortF p.2)=true:=by decide +kernel
theorem look_short (n:Int):shortF (lookF refT n).1=true:=by
 cases h:(lookF refT n).2
 ·rw [(lookF_false h).1];decide +kernel
 ·exact List.all_eq_true.1 refT_short _ (lookF_true h)
set_option maxHeartbeats 1000000 in
theorem grammarLetter_any (n i:Int) (w:World) (h1:i<9223372036854775808) :
  Calls Tryz.prog 175 #[.int .u16 n,.int .i64 i] w fun e w'=>e=.returned (.int .u8 (letterI (lookF refT n).1 i))∧Below w.heap.size w w':=by
 have hT:=fun w=>formText_any n w
 have hR:=fun w=>readForm_op n w
 have hs:=look_short n
 generalize ftxt n=s at *
 generalize (lookF refT n).1=f at *
 have HL:Hid (∀ B w,_→_):=fun B w h=>letter_any B n f i w h h1 hs
 generalize letterI f i=x at *
 clear hs
 go_enter Tryz.func175,Tryz.ntmps175
 go_wp2_with fail
 refine (hT _).mono ?_
 rintro e w1 ⟨rfl,rfl⟩
 clear hT
 go_wp2_with fail
 refine (hR _).mono ?_
 rintro e w1 ⟨rfl,hb⟩
 clear hR
 have HC:Hid (formV n f=.agg (frmCells n f)):=rfl
 obtain⟨nm,t,r,fx,rs,mo,pa⟩:=f
 unfold formV
 go_wp2_with fail
 refine (HL.out _ _ (alloc_new w1 _ _)).mono ?_
 rintro e w2 ⟨rfl,q,rfl⟩
 go_wp2
 go_ret
 exact⟨rfl,bel_drewN (hb.alloc hb.size _) q⟩

def isLet (c:Int) (x:Int×Int×ByteArray):Bool:=x.1==c
def isNum (c n:Int) (x:Int×Int×ByteArray):Bool:=(x.1==c) && (x.2.1==n)
def kindI (c:Int):Int:=if c=105 then 1 else if c=110 then 2 else if c=115 then 3 else if (namesT.find? (isLet c)).isSome then 4 else 0
def enumS (c n:Int):ByteArray:=match namesT.find? (isNum c n) with | some x=>x.2.2 | none=>⟨#[]⟩
def enumB (c n:Int):Bool:=(namesT.find? (isNum c n)).isSome
def lettersOk:Bool:=(namesT.all fun x=>enumT.any fun p=>decide (p.1=x.1)) && (enumT.all fun p=>decide (p.2.size≠0) && namesT.any fun x=>decide (x.1=p.1)) && oneEach enumT
theorem letters_ok:lettersOk=true:=by decide +kernel
theorem enum_text (c:Int):((namesT.find? (isLet c)).isSome=true→(lookT enumT c).size≠0)∧((namesT.find? (isLet c)).isSome=false→lookT enumT c=⟨#[]⟩):=by
 have h:=letters_ok
 simp only [lettersOk,Bool.and_eq_true] at h
 obtain⟨⟨h1,h2⟩,h3⟩:=h
 constructor
 ·intro hs
  obtain⟨x,hx⟩:=Option.isSome_iff_exists.1 hs
  have hm:=List.mem_of_find?_eq_some hx
  have hc:x.1=c:=by have:=List.find?_some hx;simpa [isLet] using this
  obtain⟨p,hp,e⟩:=List.any_eq_true.1 (List.all_eq_true.1 h1 x hm)
  have e:=of_decide_eq_true e
  have:=List.all_eq_true.1 h2 p hp
  simp only [Bool.and_eq_true,decide_eq_true_eq] at this
  rw [lookT_mem h3 c p.2 (by rw [← hc,← e];exact hp)]
  exact this.1
 ·intro hs
  refine lookT_none fun k s hm e=>?_
  have:=List.all_eq_true.1 h2 (k,s) hm
  simp only [Bool.and_eq_true] at this
  obtain⟨x,hx,e2⟩:=List.any_eq_true.1 this.2
  have e2:=of_decide_eq_true e2
  have:(namesT.find? (isLet c)).isSome=true:=by
   rw [List.find?_isSome]
   exact⟨x,hx,by simp [isLet,e2,e]⟩
  rw [this] at hs;cases hs
set_option maxHeartbeats 1000000 in
theorem kind_any (c:Int) (w:World):Calls Tryz.prog 187 #[.int .u8 c] w fun e w'=>e=.returned (.int .u8 (kindI c))∧w=w':=by
 by_cases h1:c=105
 ·subst h1
  go_enter Tryz.func187,Tryz.ntmps187
  go_wp2
  go_ret
  exact⟨rfl,rfl⟩
 ·have h1':(c==105)=false:=by simpa using h1
  by_cases h2:c=110
  ·subst h2
   go_enter Tryz.func187,Tryz.ntmps187
   go_wp2
   go_ret
   exact⟨rfl,rfl⟩
  ·have h2':(c==110)=false:=by simpa using h2
   by_cases h3:c=115
   ·subst h3
    go_enter Tryz.func187,Tryz.ntmps187
    go_wp2
    go_ret
    exact⟨rfl,rfl⟩
   ·have h3':(c==115)=false:=by simpa using h3
    have HK:Hid (kindI c=if (namesT.find? (isLet c)).isSome then 4 else 0):=by show _=_;unfold kindI;rw [if_neg h1,if_neg h2,if_neg h3]
    obtain⟨t1,t2⟩:=enum_text c
    have hT:=fun w=>enumText_any c w
    clear h1 h2 h3
    cases hb:(namesT.find? (isLet c)).isSome
    ·rw [t2 hb] at hT
     rw [hb] at HK
     clear t1 t2 hb
     go_enter Tryz.func187,Tryz.ntmps187
     go_wp2_with (go_at_call 128;refine (hT _).mono ?_;rintro e w' ⟨rfl,rfl⟩)
     go_ret
     exact⟨by rw [HK.out];rfl,rfl⟩
    ·have e:=bytes_empty _ (t1 hb)
     rw [hb] at HK
     clear t1 t2 hb
     generalize lookT enumT c=s at *
     go_enter Tryz.func187,Tryz.ntmps187
     go_wp2_with (go_at_call 128;refine (hT _).mono ?_;rintro e w' ⟨rfl,rfl⟩)
     go_ret
     exact⟨by rw [HK.out];rfl,rfl⟩
def badK (f:Frm) (zs:List Int) (k:Nat):Bool:=(letterI f k==0) || !(kindI (letterI f k)==nth zs k)
def wholeB (f:Frm) (n:Int):Bool:=decide (n - f.2.2.2.1.size=0) || (decide (0<n - f.2.2.2.1.size) && decide ((n - f.2.2.2.1.size) % f.2.2.2.2.1.size=0))
def fitsI (is:Bool) (f:Frm) (zs:List Int):Int×Bool :=
 if is=false then (0,false) else match (List.range zs.length).find? (badK f zs) with
  | some k=>((k:Int),false)
  | none=>if wholeB f zs.length then (0,true) else (zs.length,false)
theorem range_find {p:Nat→Bool} (n k:Nat) (hk:k<n) (h0:∀ j,j<k→p j=false) (h:p k=true):(List.range n).find? p=some k:=by
 rw [List.find?_range_eq_some]
 exact⟨h,by simpa using hk,fun j hj=>by simpa using h0 j hj⟩
theorem range_not {p:Nat→Bool} (n:Nat) (h0:∀ j,j<n→p j=false):(List.range n).find? p=none:=by
 rw [List.find?_range_eq_none]
 exact fun j hj=>by simpa using h0 j hj
theorem rest_of_letters {f:Frm} {zs:List Int} (h:∀ j,j<zs.length→badK f zs j=false) (hl:f.2.2.2.1.size<zs.length):f.2.2.2.2.1.size≠0:=fun e=>by
 have:=h f.2.2.2.1.size hl
 have hz:letterI f (f.2.2.2.1.size:Nat)=0:=by
  unfold letterI mayB
  rw [if_neg (by omega),if_neg (by omega),if_pos e];rfl
 simp [badK,hz] at this
theorem whole_any (B:Nat) (n:Int) (f:Frm) (m:Nat) (w:World) (h:w.heap[B]?=some (.cells (frmCells n f) 229 (0,0))) (hm:(m:Int)<9223372036854775808) (hs:shortF f=true) (hr:f.2.2.2.1.size<m→f.2.2.2.2.1.size≠0) :
  Calls Tryz.prog 195 #[.pointer (some ⟨B,0,none⟩),.int .i64 m] w fun e w'=>e=.returned (.bool (wholeB f m))∧w=w':=by
 obtain⟨d0,d1,d2,d3,d4,d5,d6,d7,df⟩:=frm_cells h
 obtain⟨nm,t,r,fx,rs,mo,pa⟩:=f
 simp only [shortF,Bool.and_eq_true,decide_eq_true_eq] at hs
 obtain⟨⟨⟨s1,s2⟩,s3⟩,s4⟩:=hs
 simp only at *
 clear h d0 d1 d2 d3 d6 d7 df s3 s4
 have hw1:IntKind.i64.wrap ((m:Int) - (fx.size:Int))=(m:Int) - (fx.size:Int):=wrapI _ (by omega) (by omega)
 have HW:Hid (wholeB (nm,t,r,fx,rs,mo,pa) m=(decide ((m:Int) - fx.size=0) || (decide (0<(m:Int) - fx.size) && decide (((m:Int) - fx.size) % rs.size=0)))):=rfl
 by_cases h0:(m:Int) - (fx.size:Int)=0
 ·have HE:Hid (wholeB (nm,t,r,fx,rs,mo,pa) m=true):=by show _=_;rw [HW.out,decide_eq_true h0];rfl
  have hw2:IntKind.i64.wrap ((m:Int) - (fx.size:Int))=0:=by rw [hw1,h0]
  clear hw1 h0 hr HW hm
  go_enter Tryz.func195,Tryz.ntmps195
  go_wp2
  go_ret
  exact⟨by rw [HE.out];rfl,rfl⟩
 ·obtain⟨b,hb⟩:∃ b:Int,(m:Int) - (fx.size:Int)=b:=⟨_,rfl⟩
  have hwb:IntKind.i64.wrap ((m:Int) - (fx.size:Int))=b:=hw1.trans hb
  have hw3:wrap64 ((m:Int) - (fx.size:Int))=b:=by unfold wrap64;omega
  clear hw1
  rw [hb] at h0
  have hb0:(b==0)=false:=by simpa using h0
  by_cases hp:0<b
  ·have hz:rs.size≠0:=hr (by omega)
   have hz':¬ (rs.size:Int)=0:=by omega
   have tm:Int.tmod b (rs.size:Int)=b % (rs.size:Int):=Int.tmod_eq_emod_of_nonneg (by omega)
   have m0:0≤b % (rs.size:Int):=Int.emod_nonneg _ hz'
   have m1:b % (rs.size:Int)<(rs.size:Int):=Int.emod_lt_of_pos _ (by omega)
   have hw2:IntKind.i64.wrap (b % (rs.size:Int))=b % (rs.size:Int):=wrapI _ (by omega) (by omega)
   have HE:Hid (wholeB (nm,t,r,fx,rs,mo,pa) m=(b % (rs.size:Int)==0)):=by
    show _=_
    rw [HW.out,hb,decide_eq_false h0,decide_eq_true hp,Bool.false_or,Bool.true_and]
    rfl
   have hp':decide (b > 0)=true:=decide_eq_true hp
   generalize b % (rs.size:Int)=y at *
   clear hr HW hb h0 hz hm m0 m1
   go_enter Tryz.func195,Tryz.ntmps195
   go_wp2
   go_ret
   exact⟨by rw [HE.out];rfl,rfl⟩
  ·have HE:Hid (wholeB (nm,t,r,fx,rs,mo,pa) m=false):=by
    show _=_
    rw [HW.out,hb,decide_eq_false h0,decide_eq_false hp];rfl
   have hp':decide (b > 0)=false:=decide_eq_false hp
   clear hr HW hb h0 hm hp
   go_enter Tryz.func195,Tryz.ntmps195
   go_wp2
   go_ret
   exact⟨by rw [HE.out];rfl,rfl⟩
set_option maxRecDepth 10000 in
set_option maxHeartbeats 2000000 in
theorem fits_any (n:Int) (a:Option Addr) (m cap:Nat) (zs:List Int) (w:World) (hv:View .u8 w a zs) (hl:zs.length=m) (hm:m≤140737488351232) :
  Calls Tryz.prog 189 #[.int .u16 n,.slice a m cap] w fun e w'=>e=.returned (.tuple #[.int .i64 (fitsI (lookF refT n).2 (lookF refT n).1 zs).1,.bool (fitsI (lookF refT n).2 (lookF refT n).1 zs).2])∧Below w.heap.size w w':=by
 obtain⟨_,_,_,h4,h5⟩:=ftxt_ok n
 have HL:Hid (zs.length=m):=hl
 clear hl
 cases h:(lookF refT n).2
 ·have hT:=fun w=>formText_any n w
  rw [h5 h] at hT
  clear h4 h5 h hv hm HL
  go_enter Tryz.func189,Tryz.ntmps189
  go_wp2_with (go_at_call 169;refine (hT _).mono ?_;rintro e w' ⟨rfl,rfl⟩)
  go_ret2
  exact⟨rfl,Below.refl _ _⟩
 ·have e:=bytes_empty _ (h4 h)
  have hT:=fun w=>formText_any n w
  have hR:=fun w=>readForm_op n w
  have hs:=look_short n
  clear h4 h5 h
  generalize ftxt n=s at *
  generalize (lookF refT n).1=f at *
  have HL0:Hid (∀ B (i:Int) w,_→_→_):=fun B (i:Int) w h h1=>letter_any B n f i w h h1 hs
  have HW0:Hid (∀ B w,_→_→_→_):=fun B w h h1 h2=>whole_any B n f m w h h1 hs h2
  have HF:Hid (∀ x,x=fitsI true f zs→x=match (List.range zs.length).find? (badK f zs) with | some k=>((k:Int),false) | none=>if wholeB f zs.length then (0,true) else ((zs.length:Int),false)):=fun x hx=>by rw [hx];rfl
  clear hs
  go_enter Tryz.func189,Tryz.ntmps189
  go_wp2_with fail
  refine (hT _).mono ?_
  rintro e w1 ⟨rfl,rfl⟩
  clear hT
  go_wp2_with fail
  refine (hR _).mono ?_
  rintro e w1 ⟨rfl,hb⟩
  clear hR e
  have hbel:Below w.heap.size w (w1.alloc (.cells (frmCells n f) 229)):=hb.alloc hb.size _
  have hblk:=alloc_new w1 (frmCells n f) 229
  unfold formV
  go_wp2_with fail
  rw [show (w1.alloc (.cells #[.int .u16 n,.string f.1,.bool f.2.1,.bool f.2.2.1,.string f.2.2.2.1,.string f.2.2.2.2.1,.int .i64 f.2.2.2.2.2.1,.int .u8 f.2.2.2.2.2.2] 229))=w1.alloc (.cells (frmCells n f) 229) from rfl]
  have HV:Hid (∀ k,k<m→_):=fun k (hk:k<m)=>(hv.below hbel) k (by rw [HL.out];exact hk)
  have HB:Hid (Below w.heap.size w (w1.alloc (.cells (frmCells n f) 229))):=hbel
  have HK:Hid ((w1.alloc (.cells (frmCells n f) 229)).heap[w1.heap.size]?=some (.cells (frmCells n f) 229 (0,0))):=hblk
  generalize w1.alloc (.cells (frmCells n f) 229)=W at *
  clear hbel hblk hb hv
  go_loopw [4,5,20] (fun r b i wr=>r=.int .i64 0∧b=.bool false∧∃ k q:Nat,k≤m∧i=.int .i64 k∧wr=W.drewN q∧∀ j,j<k→badK f zs j=false) (fun _ _ i _=>m - (intOf i).toNat)
  case atStart=>exact⟨rfl,rfl,0,0,Nat.zero_le _,rfl,rfl,fun j hj=>by omega⟩
  case round =>
   obtain⟨rfl,rfl,k,q,hk,rfl,rfl,hno⟩:=hrel
   have HO:Hid (∀ j,j<k→badK f zs j=false):=hno
   clear hno
   by_cases hlt:k<m
   ·obtain⟨b,off,rfl,_,hcell⟩:=HV.out k hlt
    have hcell:(W.drewN q).cell? ⟨b,off+k,none⟩=some (.int .u8 (nth zs k)):=hcell
    have hLt:=HL0.out w1.heap.size k (W.drewN q) HK.out (by omega)
    have HBK:Hid (badK f zs k=((letterI f k==0) || !(kindI (letterI f k)==nth zs k))):=rfl
    have HHIT:Hid (badK f zs k=true→fitsI true f zs=((k:Int),false)):=fun hb=>by
     have e:=range_find zs.length k (by rw [HL.out];exact hlt) HO.out hb
     show (match (List.range zs.length).find? (badK f zs) with | some k=>((k:Int),false) | none=>_)=_
     rw [e]
    have HS:Hid (badK f zs k=false→∀ j,j<k+1→badK f zs j=false):=fun hb j hj=>by
     by_cases e:j=k
     ·subst e;exact hb
     ·exact HO.out j (by omega)
    have hKd:=fun w=>kind_any (letterI f k) w
    generalize letterI f k=x at *
    generalize kindI x=y at *
    generalize nth zs k=z at *
    clear HO HV
    go_wp2_with fail
    refine hLt.mono ?_
    rintro e w' ⟨rfl,q',rfl⟩
    rw [World.drewN_drewN]
    clear hLt
    by_cases hx:x=0
    ·subst hx
     have HE:Hid (fitsI true f zs=((k:Int),false)):=HHIT.out (by rw [HBK.out];rfl)
     clear HHIT HS HBK
     go_wp2
     try rw [Exit.noGoto_ret]
     go_ret2
     exact⟨by rw [HE.out];rfl,bel_drewN HB.out _⟩
    ·have hx':(x==0)=false:=by simpa using hx
     by_cases hy:y=z
     ·subst hy
      have HE:Hid (∀ j,j<k+1→badK f zs j=false):=HS.out (by rw [HBK.out,hx'];simp)
      clear HHIT HS HBK hx
      go_wp2_with (go_at_call 187;refine (hKd _).mono ?_;rintro e w' ⟨rfl,rfl⟩)
      go_roundw
      case rel=>exact⟨rfl,rfl,k+1,_,by omega,by go_num,rfl,HE.out⟩
      case measure=>simp [intOf];omega
     ·have hy':(y==z)=false:=by simpa using hy
      have HE:Hid (fitsI true f zs=((k:Int),false)):=HHIT.out (by rw [HBK.out,hx',hy'];rfl)
      clear HHIT HS HBK hx hy
      go_wp2_with (go_at_call 187;refine (hKd _).mono ?_;rintro e w' ⟨rfl,rfl⟩)
      try rw [Exit.noGoto_ret]
      go_ret2
      exact⟨by rw [HE.out];rfl,bel_drewN HB.out _⟩
   ·obtain rfl:k=m:=by omega
    have hno:∀ j,j<zs.length→badK f zs j=false:=fun j hj=>HO.out j (by rw [HL.out] at hj;exact hj)
    have HF2:Hid (fitsI true f zs=if wholeB f k then (0,true) else ((k:Int),false)):=by
     show (match (List.range zs.length).find? (badK f zs) with | some k=>((k:Int),false) | none=>if wholeB f zs.length then (0,true) else ((zs.length:Int),false))=_
     rw [range_not zs.length hno,HL.out]
    have hWh:=HW0.out w1.heap.size (W.drewN q) HK.out (by omega) (fun h=>rest_of_letters hno (by rw [HL.out];exact h))
    clear hno HO HV HF
    generalize wholeB f k=y at *
    go_wp2_with fail
    refine hWh.mono ?_
    rintro e w' ⟨rfl,rfl⟩
    clear hWh
    cases y
    ·go_wp2
     go_ret2
     exact⟨by rw [HF2.out];rfl,bel_drewN HB.out _⟩
    ·go_wp2
     go_ret2
     exact⟨by rw [HF2.out];rfl,bel_drewN HB.out _⟩
theorem cellsStay {W W':World} {row:Option Nat} {k B:Nat} {cs:Array Value} {t:TypeId} {fr:Nat×Nat} (h:W.heap[k]?=some (.cells cs t fr)) (hg:W.grownBy W' row) (hr:∀ r,row=some r→B≤r∧∃ o:Obj,W.heap[r]?=some o∧o.isCells=false):W'.heap[k]?=some (.cells cs t fr) :=
 (hg.block k (Array.getElem?_eq_some_iff.1 h).1 (fun e=>by
  obtain⟨_,o,ho,hc⟩:=hr k e.symm
  rw [h] at ho;cases ho;cases hc)).trans h
theorem belowStay {n₀:Nat} {w W W':World} {row:Option Nat} {B:Nat} (h:Below n₀ w W) (hn:n₀≤w.heap.size) (hB:n₀≤B) (hg:W.grownBy W' row) (hr:∀ r,row=some r→B≤r∧∃ o:Obj,W.heap[r]?=some o∧o.isCells=false):Below n₀ w W' :=
 h.grown hg (Nat.le_trans hn h.size) (fun k e=>Nat.le_trans hB (hr k e).1)
theorem oneCell {w:World} {g T:Nat} {v:Value} (h:w.heap[g]?=some (.cells #[v] T (0,0))):w.cell? ⟨g,0,none⟩=some v∧w.frozen? ⟨g,0,none⟩=false:=by
 constructor <;> simp [World.cell?,World.frozen?,h]
theorem oneSet {w:World} {g T:Nat} {v:Value} (h:w.heap[g]?=some (.cells #[v] T (0,0))) (u:Value):(w.setCell ⟨g,0,none⟩ u).heap[g]?=some (.cells #[u] T (0,0)):=by
 simp [World.setCell,Array.getElem?_modify,h]
theorem setFar {w:World} {g k:Nat} {o:Obj} (h:w.heap[k]?=some o) (hne:k≠g) (i:Nat) (u:Value):(w.setCell ⟨g,i,none⟩ u).heap[k]?=some o:=(Below.heap_setCell _ _ _ _ (by simpa using hne)).trans h
theorem allocAt (w:World) (o:Obj) (k:Nat):(w.alloc o).heap[k]?=if k=w.heap.size then some o else w.heap[k]?:=by
 show (w.heap.push o)[k]?=_
 rw [Array.getElem?_push]
theorem allocOld {w:World} {k:Nat} {x:Obj} (h:w.heap[k]?=some x) (o:Obj):(w.alloc o).heap[k]?=some x:=(Below.heap_alloc _ _ _ (Array.getElem?_eq_some_iff.1 h).1).trans h
theorem allocNew (w:World) (o:Obj) {n:Nat} (h:w.heap.size=n):(w.alloc o).heap[n]?=some o:=by rw [allocAt,if_pos h.symm]
end Go.Proofs.YtoebhgpciinkgaaGreatDoor
namespace Go.Proofs.YtoebhgpciinkgaaGreatDoor
open Go.RowKit Go.Shelf Go.Lib
set_option maxRecDepth 10000
attribute [local go_sem] Oper.semAt_some
set_option linter.unusedVariables false
set_option linter.unusedSimpArgs false

abbrev EtSt:=Int×Int×List (Int×ByteArray)
def etStep (s:ByteArray) (k:Nat) (c:Int) (x:EtSt):EtSt :=
 match x with
 | (num,nf,out) =>
  if c=59 then (0,0,out++[(num,s.extract nf.toNat k)])
  else if c=58 then (num,k+1,out)
  else if nf=0 then (10 * num+(c - 48),nf,out)
  else (num,nf,out)
def etTo (s:ByteArray):Nat→EtSt
 | 0=>(0,0,[])
 | k+1=>etStep s k (sgn s k) (etTo s k)
def etOk (k:Nat) (c:Int) (x:EtSt):Bool :=
 decide (c<128∧0≤c∧0≤x.1∧x.1≤1000∧0≤x.2.1∧x.2.1≤k∧(x.2.1=0→c≠59→c≠58→48≤c))
def goodE (s:ByteArray):Bool:=(List.range s.size).all fun k=>etOk k (sgn s k) (etTo s k)
theorem goodE_at {s:ByteArray} (h:goodE s=true) {k:Nat} (hk:k<s.size):etOk k (sgn s k) (etTo s k)=true:=List.all_eq_true.1 h k (List.mem_range.2 hk)
theorem et_grows (s:ByteArray) (k:Nat):(etTo s k).2.2 <+: (etTo s (k+1)).2.2:=by
 rw [etTo]
 generalize etTo s k=x
 obtain⟨num,nf,out⟩:=x
 unfold etStep
 dsimp only
 split
 ·exact⟨_,rfl⟩
 ·split
  ·exact List.prefix_refl _
  ·split <;> exact List.prefix_refl _
theorem et_le (s:ByteArray) (k d:Nat):(etTo s k).2.2 <+: (etTo s (k+d)).2.2:=by
 induction d with
 | zero=>exact List.prefix_refl _
 | succ d ih=>exact ih.trans (et_grows s (k+d))
theorem et_prefix (s:ByteArray) {k m:Nat} (h:k≤m):(etTo s k).2.2 <+: (etTo s m).2.2:=by
 have:=et_le s k (m - k)
 rwa [show k+(m - k)=m by omega] at this
def enumsL (c:Int):List (Int×ByteArray):=(namesT.filter (isLet c)).map (·.2)
def enumRowOk (p:Int×ByteArray):Bool:=goodE p.2 && decide (p.2.size≤1000) && decide ((etTo p.2 p.2.size).2.2=enumsL p.1)
theorem enumRows_ok:enumT.all enumRowOk=true:=by decide +kernel
theorem lookT_or:∀ (l:List (Int×ByteArray)) (n:Int),(n,lookT l n)∈l∨(lookT l n=⟨#[]⟩∧∀ k s,(k,s)∈l→n≠k)
 | [],n=>.inr ⟨rfl,fun _ _ h=>by cases h⟩
 | (k,s) :: l,n=>by
  rw [lookT]
  split
  ·rename_i e;subst e;exact .inl List.mem_cons_self
  ·rename_i e
   rcases lookT_or l n with h | ⟨h,h2⟩
   ·exact .inl (List.mem_cons_of_mem _ h)
   ·refine .inr ⟨h,fun k' s' hm=>?_⟩
    rcases List.mem_cons.1 hm with e' | hm
    ·cases e';exact e
    ·exact h2 k' s' hm
theorem etext_ok (c:Int):goodE (lookT enumT c)=true∧(lookT enumT c).size≤1000∧(etTo (lookT enumT c) (lookT enumT c).size).2.2=enumsL c:=by
 rcases lookT_or enumT c with h | ⟨h,h2⟩
 ·have:=List.all_eq_true.1 enumRows_ok _ h
  simp only [enumRowOk,Bool.and_eq_true,decide_eq_true_eq] at this
  exact⟨this.1.1,this.1.2,this.2⟩
 ·rw [h]
  refine⟨by decide +kernel,by decide,?_⟩
  have e:namesT.filter (isLet c)=[]:=by
   rw [List.filter_eq_nil_iff]
   intro x hx hc
   have h0:=letters_ok
   simp only [lettersOk,Bool.and_eq_true] at h0
   obtain⟨p,hp,e⟩:=List.any_eq_true.1 (List.all_eq_true.1 h0.1.1 x hx)
   have e:=of_decide_eq_true e
   have hc:x.1=c:=by simpa [isLet] using hc
   exact h2 p.1 p.2 hp (by rw [e,hc])
  unfold enumsL
  rw [e];rfl
theorem enums_any (c:Int) (w:World) :
  Calls Tryz.prog 106 #[.int .u8 c] w fun e w'=>e=.returned (.func (.func 127) #[] #[.pointer (some ⟨w.heap.size,0,none⟩)])∧w.alloc (.cells #[.int .u8 c] 5)=w':=by
 go_enter Tryz.func106,Tryz.ntmps106
 go_wp2
 go_ret
 exact⟨rfl,rfl⟩
def enumV (x:Int×ByteArray):Array Value:=#[.int .u32 x.1,.string x.2]
theorem iterAt_put (w:World) (k:Nat) (s:ByteArray) (pos:Nat):w.iterAt k s pos=w.putObj k (.stringIter s pos):=rfl
set_option maxRecDepth 100000 in
set_option maxHeartbeats 2000000 in
theorem enums_tells (c:Int) (n0:Nat) (τ:TypeId→Prop) (w:World) (B:Nat) (hB:w.heap[B]?=some (.cells #[.int .u8 c] 5 (0,0))) :
  Tells Tryz.prog 127 #[.pointer (some ⟨B,0,none⟩)] enumV (fun pre x _=>pre++[x] <+: enumsL c) n0 τ (fun xs=>xs=enumsL c) (fun pre=>pre <+: enumsL c) w:=by
 intro l J Jx W hW hJ hJx hY h0
 have hBW:W.heap[B]?=some (.cells #[.int .u8 c] 5 (0,0)):=(hW.block B (Array.getElem?_eq_some_iff.1 hB).1).trans hB
 have hbx:W.cell? ⟨B,0,none⟩=some (.int .u8 c):=by simp [World.cell?,hBW]
 obtain⟨hg,hs,hE⟩:=etext_ok c
 have hT:=fun w=>enumText_any c w
 generalize lookT enumT c=s at *
 have HG:Hid (goodE s=true):=hg
 have HE:Hid ((etTo s s.size).2.2=enumsL c):=hE
 clear hg hE hB hW hBW
 refine callsIn_of_wp Tryz.func127 rfl trivial ?_ rfl
 simp only [Tryz.ntmps127,List.size_toArray,List.length_cons,List.length_nil,Nat.reduceAdd,Nat.reduceSub,Array.replicate_succ,Array.replicate_zero,List.push_toArray,List.append_toArray,List.nil_append,List.cons_append]
 gi_wp2_with fail
 refine⟨trivial,rfl,(callsIn_wide.2 (hT _)).mono ?_⟩
 rintro e w' ⟨rfl,rfl⟩
 clear hT
 gi_wp2
 gi_loopw [4,5] (fun a b wr=>∃ k:Nat,k≤s.size∧a=.int .u32 (etTo s k).1∧b=.int .i64 (etTo s k).2.1∧J (etTo s k).2.2 wr∧wr.heap[W.heap.size]?=some (.stringIter s k)) (fun _ _ wr=>left W.heap.size s.size wr)
 case atStart=>exact⟨0,Nat.zero_le _,rfl,rfl,hJ.alloc _ h0,heap_alloc_new W _⟩
 case round =>
  obtain⟨k,hk,rfl,rfl,hJs,hit⟩:=hrel
  clear h0 hbx
  have HL:Hid (left W.heap.size s.size wr=s.size - k):=left_at hit
  by_cases hlt:k<s.size
  ·have hok:=goodE_at HG.out hlt
   have HS:Hid (etTo s (k+1)=etStep s k (sgn s k) (etTo s k)):=rfl
   have hsg:=sgn_at s k hlt
   have HPX:Hid ((etTo s (k+1)).2.2 <+: enumsL c):=by show _ <+: _;rw [← HE.out];exact et_prefix s hlt
   generalize sgn s k=ch at *
   generalize hrd:etTo s k=x at *
   obtain⟨num,nf,out⟩:=x
   simp only [etOk,decide_eq_true_eq] at hok
   obtain⟨o1,o2,o3,o4,o5,o6,o7⟩:=hok
   have hnx:=fun ty=>run_next_ascii_at (P:=Tryz.prog) _ _ s k ty hit hlt (by omega)
   rw [hsg] at hnx
   obtain⟨W1,hW1⟩:∃ X,X=wr.iterAt W.heap.size s (k+1):=⟨_,rfl⟩
   rw [← hW1] at hnx
   have i1:W1.heap[W.heap.size]?=some (.stringIter s (k+1)):=by rw [hW1];exact iterAt_heap _ _ _ _ _ hit
   have hJ1:J out W1:=by rw [hW1,iterAt_put];exact hJ.putObj _ hJs (Nat.le_refl _) hit rfl
   have HI:Hid (W1.heap[W.heap.size]?=some (.stringIter s (k+1))):=i1
   have HJ1:Hid (J out W1):=hJ1
   clear hW1 hit hJs hsg hrd i1 hJ1
   by_cases h59:ch=59
   ·subst h59
    have HN:Hid (etTo s (k+1)=(0,0,out++[(num,s.extract nf.toNat k)])):=by show _=_;rw [HS.out];simp [etStep]
    have hpx:=HPX.out
    rw [HN.out] at hpx
    obtain⟨fn,tmps,assign,body,hy,hR⟩:=hY out (num,s.extract nf.toNat k) W1 HJ1.out hpx
    simp only [enumV] at hy
    clear HS hpx o7 HPX
    gi_wp2_with fail
    refine⟨rfl,hR.mono ?_⟩
    rintro e W3 ⟨hkf,⟨rfl,hJ3,hk3⟩ | ⟨rfl,hJx3⟩⟩
    ·have HI3:Hid (W3.heap[W.heap.size]?=some (.stringIter s (k+1))):=hkf.same _ _ (Nat.le_refl _) HI.out rfl
     have HJ3:Hid (J (out++[(num,s.extract nf.toNat k)]) W3):=hJ3
     clear hy hR hY hkf hk3 hJ3
     gi_wp2
     go_roundw
     case rel=>exact⟨k+1,by omega,by rw [HN.out],by rw [HN.out],by rw [HN.out];exact HJ3.out,HI3.out⟩
     case measure=>rw [HL.out,left_at HI3.out];omega
    ·have hp:out++[(num,s.extract nf.toNat k)] <+: enumsL c:=by have:=et_prefix s hlt;rw [HN.out] at this;rw [← HE.out];exact this
     have HP:Hid (out++[(num,s.extract nf.toNat k)] <+: enumsL c):=hp
     clear hy hR hY hkf hp
     gi_wp2
     refine bodyPost_ret (results_none rfl _ _ _) rfl ?_
     exact⟨⟨_,rfl⟩,.inr ⟨_,HP.out,hJx3⟩⟩
   ·have h59':(ch==59)=false:=by simpa using h59
    clear hY
    by_cases h58:ch=58
    ·subst h58
     have HN:Hid (etTo s (k+1)=(num,(k:Int)+1,out)):=by show _=_;rw [HS.out];simp [etStep]
     clear HS o7 HPX h59
     gi_wp2
     go_roundw
     case rel=>exact⟨k+1,by omega,by rw [HN.out],by rw [HN.out],by rw [HN.out];exact HJ1.out,HI.out⟩
     case measure=>rw [HL.out,left_at HI.out];omega
    ·have h58':(ch==58)=false:=by simpa using h58
     by_cases hn:nf=0
     ·subst hn
      have hd:=o7 rfl h59 h58
      have HN:Hid (etTo s (k+1)=(10 * num+(ch - 48),0,out)):=by show _=_;rw [HS.out];simp [etStep,h59,h58]
      clear HS o7 HPX h59 h58 o6 o5
      gi_wp2
      go_roundw
      case rel=>exact⟨k+1,by omega,by rw [HN.out],by rw [HN.out],by rw [HN.out];exact HJ1.out,HI.out⟩
      case measure=>rw [HL.out,left_at HI.out];omega
     ·have hn':(nf==0)=false:=by simpa using hn
      have HN:Hid (etTo s (k+1)=(num,nf,out)):=by show _=_;rw [HS.out];simp [etStep,h59,h58,hn]
      clear HS o7 HPX h59 h58 hn
      gi_wp2
      go_roundw
      case rel=>exact⟨k+1,by omega,by rw [HN.out],by rw [HN.out],by rw [HN.out];exact HJ1.out,HI.out⟩
      case measure=>rw [HL.out,left_at HI.out];omega
  ·have hnx:=fun ty=>run_next_end_at (P:=Tryz.prog) _ _ s k ty hit hlt
   obtain rfl:k=s.size:=by omega
   have hJe:J (enumsL c) wr:=by rw [← HE.out];exact hJs
   have HJe:Hid (J (enumsL c) wr):=hJe
   generalize etTo s s.size=x at *
   obtain⟨num,nf,out⟩:=x
   clear hJs hJe hit hY
   gi_wp2
   go_end0
   exact⟨⟨_,rfl⟩,.inl HJe.out⟩
end Go.Proofs.YtoebhgpciinkgaaGreatDoor
