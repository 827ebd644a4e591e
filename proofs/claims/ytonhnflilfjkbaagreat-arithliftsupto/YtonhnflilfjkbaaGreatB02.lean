/-
  Texts in one: GrammarReadForm, GrammarOf, Append, AppendView.
-/
import Derived.Test.YtonhnflilfjkbaaGreatB01
import Derived.WalkMore
import Derived.Lib.OthersKept
import Derived.Laws.Append
import Derived.Laws.AppendOwn
namespace Go.Proofs.YtonhnflilfjkbaaGreat
open Go.RowKit Go.Lib
set_option maxRecDepth 10000
set_option linter.unusedVariables false
set_option linter.unusedSimpArgs false
theorem set_at {w:World} {B T:Nat} {cs:Array Value} (h:w.heap[B]?=some (.cells cs T (0,0))) (i:Nat) (v:Value):(w.setCell ⟨B,i,none⟩ v).heap[B]?=some (.cells (cs.setIfInBounds i v) T (0,0)):=by
 simp only [World.setCell,Array.getElem?_modify,h];simp
theorem set_off (w:World) (B i:Nat) (v:Value) {k:Nat} (h:k≠B):(w.setCell ⟨B,i,none⟩ v).heap[k]?=w.heap[k]?:=Below.heap_setCell w ⟨B,i,none⟩ v k (by simpa using h)
theorem allocs2 (w:World) (a b:Obj):((w.alloc a).alloc b).heap[w.heap.size]?=some a∧((w.alloc a).alloc b).heap[w.heap.size+1]?=some b :=
 ⟨(Below.heap_alloc _ _ _ (by simp)).trans (heap_alloc_new w _),by have:=heap_alloc_new (w.alloc a) b;rw [World.size_alloc] at this;exact this⟩
theorem allocs3 (w:World) (a b c:Obj):(((w.alloc a).alloc b).alloc c).heap[w.heap.size]?=some a∧(((w.alloc a).alloc b).alloc c).heap[w.heap.size+1]?=some b∧(((w.alloc a).alloc b).alloc c).heap[w.heap.size+2]?=some c :=
 ⟨(Below.heap_alloc _ _ _ (by simp;omega)).trans (allocs2 w a b).1,(Below.heap_alloc _ _ _ (by simp)).trans (allocs2 w a b).2,by have:=heap_alloc_new ((w.alloc a).alloc b) c;rw [World.size_alloc,World.size_alloc] at this;exact this⟩
def RdI (w:World) (s:ByteArray) (n:Int) (k:Nat) (W:World):Prop :=
 Below w.heap.size w W∧W.heap[w.heap.size]?=some (.cells (frmCells 0 noFrm) 66 (0,0))∧W.heap[w.heap.size+1]?=some (.cells (frmCells n (rdTo s k).2.2) 66 (0,0))∧W.heap[w.heap.size+2]?=some (.stringIter s k)
def left (b m:Nat) (W:World):Nat:=match W.heap[b]? with | some (.stringIter _ k)=>m - k | _=>0
theorem left_at {b m:Nat} {W:World} {s:ByteArray} {k:Nat} (h:W.heap[b]?=some (.stringIter s k)):left b m W=m - k:=by unfold left;rw [h]
set_option maxRecDepth 10000 in
set_option maxHeartbeats 4000000 in
theorem readForm_any (n:Int) (s:ByteArray) (w:World) (hg:goodT s=true) (hs:s.size≤1000) :
  Calls Tryz.prog 34 #[.int .u16 n,.string s] w fun e w'=>e=.returned (formV n (rdF s))∧Below w.heap.size w w':=by
 have HG:Hid (goodT s=true):=hg
 clear hg
 go_enter Tryz.func34,Tryz.ntmps34
 go_wp2
 go_loopw [6,7] (fun c f W=>∃ k:Nat,k≤s.size∧c=.int .i64 (rdTo s k).1∧f=.int .i64 (rdTo s k).2.1∧RdI w s n k W) (fun _ _ W=>left (w.heap.size+2) s.size W)
 case atStart =>
  refine⟨0,Nat.zero_le _,rfl,rfl,(((Below.refl _ w).alloc (Nat.le_refl _) _).alloc (by simp) _).alloc (by simp;omega) _,?_,?_,?_⟩
  ·exact (allocs3 w _ _ _).1
  ·exact (allocs3 w _ _ _).2.1
  ·exact (allocs3 w _ _ _).2.2
 case round =>
  obtain⟨k,hk,rfl,rfl,hb,h4,h5,hit⟩:=hrel
  have hl0:left (w.heap.size+2) s.size wr=s.size - k:=left_at hit
  by_cases hlt:k<s.size
  ·have hok:=goodT_at HG.out hlt
   have HS:Hid (rdTo s (k+1)=rdStep s k (sgn s k) (rdTo s k)):=rfl
   have hsg:=sgn_at s k hlt
   generalize sgn s k=c at *
   generalize hrd:rdTo s k=x at *
   obtain⟨col,fr,nm,t,r,fx,rs,mo,pa⟩:=x
   simp only [rdOk,decide_eq_true_eq] at hok
   obtain⟨o1,o2,o3,o4,o5,o6,o7,o8,o9,o10⟩:=hok
   have hnx:=fun ty=>run_next_ascii_at (P:=Tryz.prog) _ _ s k ty hit hlt (by omega)
   rw [hsg] at hnx
   obtain⟨W1,hW1⟩:∃ X,X=wr.iterAt (w.heap.size+2) s (k+1):=⟨_,rfl⟩
   rw [← hW1] at hnx
   have hb1:Below w.heap.size w W1:=by rw [hW1];exact below_iterAt hb (by omega) _ _
   have i1:W1.heap[w.heap.size+2]?=some (.stringIter s (k+1)):=by rw [hW1];exact iterAt_heap _ _ _ _ _ hit
   have g4:W1.heap[w.heap.size]?=some (.cells (frmCells 0 noFrm) 66 (0,0)):=by rw [hW1,iterAt_other _ _ _ _ _ (by omega)];exact h4
   have g5:W1.heap[w.heap.size+1]?=some (.cells (frmCells n (nm,t,r,fx,rs,mo,pa)) 66 (0,0)):=by rw [hW1,iterAt_other _ _ _ _ _ (by omega)];exact h5
   clear hW1 h4 h5 hit hb hsg hrd
   obtain⟨hc,hf⟩:=one_block g5
   have HB:Hid (Below w.heap.size w W1):=hb1
   have H4:Hid (W1.heap[w.heap.size]?=some (.cells (frmCells 0 noFrm) 66 (0,0))):=g4
   have H5:Hid (W1.heap[w.heap.size+1]?=some (.cells (frmCells n (nm,t,r,fx,rs,mo,pa)) 66 (0,0))):=g5
   have HI:Hid (W1.heap[w.heap.size+2]?=some (.stringIter s (k+1))):=i1
   have HL:Hid (left (w.heap.size+2) s.size wr=s.size - k):=hl0
   clear g4 g5 i1 hb1 hl0
   by_cases h47:c=47
   ·subst h47
    have e1:rdTo s (k+1)=(col+1,(k:Int)+1,nm,t,r,fx,rs,mo,pa):=by rw [HS.out];simp [rdStep]
    have HE:Hid (rdTo s (k+1)=(col+1,(k:Int)+1,nm,t,r,fx,rs,mo,pa)):=e1
    clear e1 HS hc hf o9 o10
    go_wp2
    go_roundw
    case rel=>exact⟨k+1,by omega,by rw [HE.out],by rw [HE.out],HB.out,H4.out,by rw [HE.out];exact H5.out,HI.out⟩
    case measure=>rw [HL.out,left_at HI.out];omega
   ·have hne:(c==47)=false:=by simpa using h47
    have c1:=hc 1
    have c2:=hc 2
    have c3:=hc 3
    have c4:=hc 4
    have c5:=hc 5
    have c6:=hc 6
    have c7:=hc 7
    have f1:=hf 1
    have f2:=hf 2
    have f3:=hf 3
    have f4:=hf 4
    have f5:=hf 5
    have f6:=hf 6
    have f7:=hf 7
    clear hc hf
    unfold frmCells at c1 c2 c3 c4 c5 c6 c7
    rcases (show col=0∨col=1∨col=2∨col=3∨col=4∨col=5 by omega) with rfl | rfl | rfl | rfl | rfl | rfl
    ·have HE:Hid (rdTo s (k+1)=(0,fr,s.extract fr.toNat (k+1),t,r,fx,rs,mo,pa)):=by show _=_;rw [HS.out];simp [rdStep,h47]
     clear HS o9 o10
     go_wp2
     go_roundw
     case rel=>exact⟨k+1,by omega,by rw [HE.out],by rw [HE.out],HB.out.setCell (by simp) _,(set_off _ _ _ _ (by omega)).trans H4.out,by rw [HE.out];exact set_at H5.out 1 _,(set_off _ _ _ _ (by omega)).trans HI.out⟩
     case measure=>rw [HL.out,left_at ((set_off _ _ _ _ (by omega)).trans HI.out)];omega
    ·have HE:Hid (rdTo s (k+1)=(1,fr,nm,t || (c==116),r || (c==114),fx,rs,mo,pa)):=by show _=_;rw [HS.out];simp [rdStep,h47]
     clear HS o9 o10
     cases t <;> cases r
     all_goals
      go_wp2
      go_roundw
      case rel=>exact⟨k+1,by omega,by rw [HE.out],by rw [HE.out],(HB.out.setCell (by simp) _).setCell (by simp) _,(set_off _ _ _ _ (by omega)).trans ((set_off _ _ _ _ (by omega)).trans H4.out),by rw [HE.out];exact set_at (set_at H5.out 2 _) 3 _,(set_off _ _ _ _ (by omega)).trans ((set_off _ _ _ _ (by omega)).trans HI.out)⟩
      case measure=>rw [HL.out,left_at ((set_off _ _ _ _ (by omega)).trans ((set_off _ _ _ _ (by omega)).trans HI.out))];omega
    ·have HE:Hid (rdTo s (k+1)=(2,fr,nm,t,r,s.extract fr.toNat (k+1),rs,mo,pa)):=by show _=_;rw [HS.out];simp [rdStep,h47]
     clear HS o9 o10
     go_wp2
     go_roundw
     case rel=>exact⟨k+1,by omega,by rw [HE.out],by rw [HE.out],HB.out.setCell (by simp) _,(set_off _ _ _ _ (by omega)).trans H4.out,by rw [HE.out];exact set_at H5.out 4 _,(set_off _ _ _ _ (by omega)).trans HI.out⟩
     case measure=>rw [HL.out,left_at ((set_off _ _ _ _ (by omega)).trans HI.out)];omega
    ·have HE:Hid (rdTo s (k+1)=(3,fr,nm,t,r,fx,s.extract fr.toNat (k+1),mo,pa)):=by show _=_;rw [HS.out];simp [rdStep,h47]
     clear HS o9 o10
     go_wp2
     go_roundw
     case rel=>exact⟨k+1,by omega,by rw [HE.out],by rw [HE.out],HB.out.setCell (by simp) _,(set_off _ _ _ _ (by omega)).trans H4.out,by rw [HE.out];exact set_at H5.out 5 _,(set_off _ _ _ _ (by omega)).trans HI.out⟩
     case measure=>rw [HL.out,left_at ((set_off _ _ _ _ (by omega)).trans HI.out)];omega
    ·have HE:Hid (rdTo s (k+1)=(4,fr,nm,t,r,fx,rs,10 * mo+(c - 48),pa)):=by show _=_;rw [HS.out];simp [rdStep,h47]
     clear HS 
     have o11:=o9 rfl h47
     clear o9 o10
     go_wp2
     go_roundw
     case rel=>exact⟨k+1,by omega,by rw [HE.out],by rw [HE.out],HB.out.setCell (by simp) _,(set_off _ _ _ _ (by omega)).trans H4.out,by rw [HE.out];exact set_at H5.out 6 _,(set_off _ _ _ _ (by omega)).trans HI.out⟩
     case measure=>rw [HL.out,left_at ((set_off _ _ _ _ (by omega)).trans HI.out)];omega
    ·have HE:Hid (rdTo s (k+1)=(5,fr,nm,t,r,fx,rs,mo,c - 48)):=by show _=_;rw [HS.out];simp [rdStep,h47]
     clear HS 
     have o11:=o10 rfl h47
     clear o9 o10
     go_wp2
     go_roundw
     case rel=>exact⟨k+1,by omega,by rw [HE.out],by rw [HE.out],HB.out.setCell (by simp) _,(set_off _ _ _ _ (by omega)).trans H4.out,by rw [HE.out];exact set_at H5.out 7 _,(set_off _ _ _ _ (by omega)).trans HI.out⟩
     case measure=>rw [HL.out,left_at ((set_off _ _ _ _ (by omega)).trans HI.out)];omega
  ·have hnx:=fun ty=>run_next_end_at (P:=Tryz.prog) _ _ s k ty hit hlt
   obtain rfl:k=s.size:=by omega
   have HF:Hid (rdF s=(rdTo s s.size).2.2):=rfl
   generalize rdTo s s.size=x at *
   obtain⟨col,fr,nm,t,r,fx,rs,mo,pa⟩:=x
   obtain⟨hc,hf⟩:=one_block h5
   obtain⟨gc,gf⟩:=one_block h4
   have c0:=hc 0
   have c1:=hc 1
   have c2:=hc 2
   have c3:=hc 3
   have c4:=hc 4
   have c5:=hc 5
   have c6:=hc 6
   have c7:=hc 7
   have d0:=gc 0
   have d1:=gc 1
   have d2:=gc 2
   have d3:=gc 3
   have d4:=gc 4
   have d5:=gc 5
   have d6:=gc 6
   have d7:=gc 7
   unfold frmCells at c0 c1 c2 c3 c4 c5 c6 c7
   unfold frmCells noFrm at d0 d1 d2 d3 d4 d5 d6 d7
   have HB:Hid (Below w.heap.size w wr):=hb
   have H4:Hid (wr.heap[w.heap.size]?=some (.cells (frmCells 0 noFrm) 66 (0,0))):=h4
   clear hc gc h4 h5 hit hl0 hb
   go_wp2
   have hx:=eight_set H4.out (.int .u16 n) (.string nm) (.bool t) (.bool r) (.string fx) (.string rs) (.int .i64 mo) (.int .u8 pa)
   have hy:=eight_below wr w.heap.size (.int .u16 n) (.string nm) (.bool t) (.bool r) (.string fx) (.string rs) (.int .i64 mo) (.int .u8 pa)
   obtain⟨xc,xf⟩:=one_block hx
   have x0:=xc 0
   have x1:=xc 1
   have x2:=xc 2
   have x3:=xc 3
   have x4:=xc 4
   have x5:=xc 5
   have x6:=xc 6
   have x7:=xc 7
   clear hx xc d0 d1 d2 d3 d4 d5 d6 d7 c0 c1 c2 c3 c4 c5 c6 c7 gf hf xf
   generalize hZ:((((((((wr.setCell ⟨w.heap.size,0,none⟩ (.int .u16 n)).setCell ⟨w.heap.size,1,none⟩ (.string nm)).setCell ⟨w.heap.size,2,none⟩ (.bool t)).setCell ⟨w.heap.size,3,none⟩ (.bool r)).setCell ⟨w.heap.size,4,none⟩ (.string fx)).setCell ⟨w.heap.size,5,none⟩ (.string rs)).setCell ⟨w.heap.size,6,none⟩ (.int .i64 mo)).setCell ⟨w.heap.size,7,none⟩ (.int .u8 pa))=Z at *
   exact bodyPost_ret (v:=formV n (nm,t,r,fx,rs,mo,pa)) (by simp [results,Tryz.results34,go_sem,formV,x0,x1,x2,x3,x4,x5,x6,x7]) rfl ⟨by rw [HF.out],HB.out.trans hy⟩
end Go.Proofs.YtonhnflilfjkbaaGreat
namespace Go.Proofs.YtonhnflilfjkbaaGreat
open Go.RowKit
set_option maxRecDepth 10000
set_option linter.unusedVariables false
set_option linter.unusedSimpArgs false
theorem formText_any (n:Int) (w:World):Calls Tryz.prog 33 #[.int .u16 n] w fun e w'=>e=.returned (.string (ftxt n))∧w=w':=by
 by_cases h1:n<41
 ·have e:ftxt n=lookT namingT n:=by unfold ftxt;rw [if_pos h1]
  go_enter Tryz.func33,Tryz.ntmps33
  go_wp2_with (go_at_call 49;refine (namingText_any _ _).mono ?_;rintro e w' ⟨rfl,rfl⟩)
  go_ret
  exact⟨by rw [e];rfl,rfl⟩
 ·by_cases h2:n<124
  ·have e:ftxt n=lookT makingT n:=by unfold ftxt;rw [if_neg h1,if_pos h2]
   go_enter Tryz.func33,Tryz.ntmps33
   go_wp2_with (go_at_call 50;refine (makingText_any _ _).mono ?_;rintro e w' ⟨rfl,rfl⟩)
   go_ret
   exact⟨by rw [e];rfl,rfl⟩
  ·by_cases h3:n<164
   ·have e:ftxt n=lookT countingT n:=by unfold ftxt;rw [if_neg h1,if_neg h2,if_pos h3]
    go_enter Tryz.func33,Tryz.ntmps33
    go_wp2_with (go_at_call 51;refine (countingText_any _ _).mono ?_;rintro e w' ⟨rfl,rfl⟩)
    go_ret
    exact⟨by rw [e];rfl,rfl⟩
   ·by_cases h4:n<194
    ·have e:ftxt n=lookT comparingT n:=by unfold ftxt;rw [if_neg h1,if_neg h2,if_neg h3,if_pos h4]
     go_enter Tryz.func33,Tryz.ntmps33
     go_wp2_with (go_at_call 52;refine (comparingText_any _ _).mono ?_;rintro e w' ⟨rfl,rfl⟩)
     go_ret
     exact⟨by rw [e];rfl,rfl⟩
    ·by_cases h5:n<245
     ·have e:ftxt n=lookT bitT n:=by unfold ftxt;rw [if_neg h1,if_neg h2,if_neg h3,if_neg h4,if_pos h5]
      go_enter Tryz.func33,Tryz.ntmps33
      go_wp2_with (go_at_call 53;refine (bitText_any _ _).mono ?_;rintro e w' ⟨rfl,rfl⟩)
      go_ret
      exact⟨by rw [e];rfl,rfl⟩
     ·have e:ftxt n=lookT flowT n:=by unfold ftxt;rw [if_neg h1,if_neg h2,if_neg h3,if_neg h4,if_neg h5]
      go_enter Tryz.func33,Tryz.ntmps33
      go_wp2_with (go_at_call 54;refine (flowText_any _ _).mono ?_;rintro e w' ⟨rfl,rfl⟩)
      go_ret
      exact⟨by rw [e];rfl,rfl⟩
/-! ### the two tables are one -/

theorem lookF_true:∀ {l:List (Int×Frm)} {n:Int},(lookF l n).2=true→(n,(lookF l n).1)∈l
 | [],n,h=>by cases h
 | (k,s) :: l,n,h=>by
  rw [lookF] at h ⊢
  split at h
  ·rename_i e;subst e;rw [if_pos rfl];exact List.mem_cons_self
  ·rename_i e;rw [if_neg e];exact List.mem_cons_of_mem _ (lookF_true h)
theorem lookF_false:∀ {l:List (Int×Frm)} {n:Int},(lookF l n).2=false→lookF l n=(noFrm,false)∧∀ k s,(k,s)∈l→n≠k
 | [],n,h=>⟨rfl,fun _ _ hm=>by cases hm⟩
 | (k,s) :: l,n,h=>by
  rw [lookF] at h ⊢
  split at h
  ·cases h
  ·rename_i e
   rw [if_neg e]
   refine⟨(lookF_false h).1,fun k' s' hm=>?_⟩
   rcases List.mem_cons.1 hm with e' | hm
   ·cases e';exact e
   ·exact (lookF_false h).2 k' s' hm
def rowOk (p:Int×Frm):Bool:=goodT (ftxt p.1) && decide ((ftxt p.1).size≤1000) && decide ((ftxt p.1).size≠0) && decide (rdF (ftxt p.1)=p.2)
theorem rows_ok:refT.all rowOk=true:=by decide +kernel
def keyIn (t:List (Int×ByteArray)):Bool:=t.all fun p=>refT.any fun q=>decide (q.1=p.1)
theorem keys_in:(keyIn namingT && keyIn makingT && keyIn countingT && keyIn comparingT && keyIn bitT && keyIn flowT)=true:=by decide +kernel
theorem key_none {t:List (Int×ByteArray)} (h:keyIn t=true) {n:Int} (hn:∀ k s,(k,s)∈refT→n≠k):lookT t n=⟨#[]⟩:=lookT_none fun k s hm e=>by
 have:=List.all_eq_true.1 h (k,s) hm
 obtain⟨q,hq,e2⟩:=List.any_eq_true.1 this
 exact hn q.1 q.2 hq (by rw [e];exact (of_decide_eq_true e2).symm)
theorem ftxt_ok (n:Int):goodT (ftxt n)=true∧(ftxt n).size≤1000∧rdF (ftxt n)=(lookF refT n).1∧((lookF refT n).2=true→(ftxt n).size≠0)∧((lookF refT n).2=false→ftxt n=⟨#[]⟩):=by
 cases h:(lookF refT n).2
 ·obtain⟨h1,h2⟩:=lookF_false h
  have hk:=keys_in
  simp only [Bool.and_eq_true] at hk
  obtain⟨⟨⟨⟨⟨k1,k2⟩,k3⟩,k4⟩,k5⟩,k6⟩:=hk
  have e:ftxt n=⟨#[]⟩:=by
   unfold ftxt
   rw [key_none k1 h2,key_none k2 h2,key_none k3 h2,key_none k4 h2,key_none k5 h2,key_none k6 h2]
   simp
  rw [e,h1]
  exact⟨by decide +kernel,by decide,by decide +kernel,fun h=>(by cases h),fun _=>rfl⟩
 ·have hm:=lookF_true h
  have hr:=List.all_eq_true.1 rows_ok _ hm
  simp only [rowOk,Bool.and_eq_true,decide_eq_true_eq] at hr
  obtain⟨⟨⟨r1,r2⟩,r3⟩,r4⟩:=hr
  exact⟨r1,r2,r4,fun _=>r3,fun h=>by cases h⟩
theorem readForm_op (n:Int) (w:World):Calls Tryz.prog 34 #[.int .u16 n,.string (ftxt n)] w fun e w'=>e=.returned (formV n (lookF refT n).1)∧Below w.heap.size w w':=by
 obtain⟨h1,h2,h3,_,_⟩:=ftxt_ok n
 rw [← h3]
 exact readForm_any n (ftxt n) w h1 h2
theorem bytes_empty (s:ByteArray) (h:s.size≠0):(s.toList==([]:List UInt8))=false:=by
 rw [ByteArray.toList_eq]
 cases e:s.data.toList with
 | nil=>exfalso;apply h;show s.data.size=0;rw [← Array.length_toList,e];rfl
 | cons a l=>rfl
set_option maxHeartbeats 1000000 in
theorem of_any (n:Int) (w:World):Calls Tryz.prog 26 #[.int .u16 n] w fun e w'=>e=.returned (.tuple #[ofV n,.bool (lookF refT n).2])∧Below w.heap.size w w':=by
 obtain⟨_,_,_,h4,h5⟩:=ftxt_ok n
 cases h:(lookF refT n).2
 ·have e:=h5 h
  have hT:=fun w=>formText_any n w
  rw [e] at hT
  have HO:Hid (ofV n=formV 0 noFrm):=by show _=_;unfold ofV;rw [h];rfl
  clear h4 h5 e h
  go_enter Tryz.func26,Tryz.ntmps26
  go_wp2_with (go_at_call 33;refine (hT _).mono ?_;rintro e w' ⟨rfl,rfl⟩)
  rw [HO.out]
  exact bodyPost_ret (v:=.tuple #[formV 0 noFrm,.bool false]) (by simp [results,Tryz.results26,go_sem,formV,noFrm]) rfl ⟨rfl,(Below.refl _ _).alloc (Nat.le_refl _) _⟩
 ·have e:=bytes_empty _ (h4 h)
  have HO:Hid (ofV n=formV n (lookF refT n).1):=by show _=_;unfold ofV;rw [h];rfl
  have hT:=fun w=>formText_any n w
  have hR:=fun w=>readForm_op n w
  clear h4 h5 h
  generalize ftxt n=s at *
  generalize (lookF refT n).1=f at *
  go_enter Tryz.func26,Tryz.ntmps26
  go_wp2_with (go_at_call 33;refine (hT _).mono ?_;rintro e w' ⟨rfl,rfl⟩)
  refine (hR _).mono ?_
  rintro e w1 ⟨rfl,hb⟩
  have hB:=(hb.block w.heap.size (by simp)).trans (alloc_new w _ _)
  have hbw:Below w.heap.size w w1:=((Below.refl _ w).alloc (Nat.le_refl _) _).trans (hb.mono (by simp))
  have HB:Hid (w1.heap[w.heap.size]?=some (.cells (frmCells 0 noFrm) 53 (0,0))):=hB
  obtain⟨d0,d1,d2,d3,d4,d5,d6,d7,df⟩:=frm_cells (n:=0) (f:=noFrm) hB
  unfold noFrm at d1 d2 d3 d4 d5 d6 d7
  clear hB hb hT hR
  obtain⟨nm,t,r,fx,rs,mo,pa⟩:=f
  unfold formV
  go_wp2
  have hx:=eight_set HB.out (.int .u16 n) (.string nm) (.bool t) (.bool r) (.string fx) (.string rs) (.int .i64 mo) (.int .u8 pa)
  have hy:=eight_below w1 w.heap.size (.int .u16 n) (.string nm) (.bool t) (.bool r) (.string fx) (.string rs) (.int .i64 mo) (.int .u8 pa)
  obtain⟨x0,x1,x2,x3,x4,x5,x6,x7,xf⟩:=frm_cells (n:=n) (f:=(nm,t,r,fx,rs,mo,pa)) hx
  clear hx d0 d1 d2 d3 d4 d5 d6 d7 df xf
  generalize ((((((((w1.setCell ⟨w.heap.size,0,none⟩ (.int .u16 n)).setCell ⟨w.heap.size,1,none⟩ (.string nm)).setCell ⟨w.heap.size,2,none⟩ (.bool t)).setCell ⟨w.heap.size,3,none⟩ (.bool r)).setCell ⟨w.heap.size,4,none⟩ (.string fx)).setCell ⟨w.heap.size,5,none⟩ (.string rs)).setCell ⟨w.heap.size,6,none⟩ (.int .i64 mo)).setCell ⟨w.heap.size,7,none⟩ (.int .u8 pa))=Z at *
  exact bodyPost_ret (v:=.tuple #[formV n (nm,t,r,fx,rs,mo,pa),.bool true]) (by simp [results,Tryz.results26,go_sem,formV,x0,x1,x2,x3,x4,x5,x6,x7]) rfl ⟨by rw [HO.out],hbw.trans hy⟩
theorem append_run {P:Program} (w:World) {ops:Array Oper} {rest:List Oper} {o:Oper} {a:Act} {Q:Exit→Act→World→Prop}
  (hg:o.guard=none) (s x:Operand) (t:TypeId) (hop:o.op=Op.call { callee:=Callee.builtin Builtin.append,args:=#[s,x],argTypes:=#[t,t] })
  (v xv v':Value) (w':World) (hs:a.eval s=v) (hx:a.eval x=xv) (hrun:∀ ty,(Builtin.append_ #[t,t] ty #[v,xv]).run P w=.ok v' w') (hK:wpList P ops Q rest (a.put o.dst v') w') :
  wpList P ops Q (o :: rest) a w:=by
 refine wpList_plain hg fun K hK'=>?_
 unfold Oper.wp
 simp [execOp,hop,resolve,invoke,builtin,hs,hx,hrun,Result.andThen]
 exact hK' _ _ hK
theorem run_append_nothing {P:Program} (w:World) (t ty e:TypeId) (i:TypeInfo) (ht:P.underlying t=some (.slice e)) (hi:P.info? e=some i) (b:Option Addr) (n cap:Nat) (hn:n≤cap) (a:Option Addr) (c:Nat) :
  (Builtin.append_ #[t,t] ty #[.slice b n cap,.slice a 0 c]).run P w=.ok (.slice b n cap) w:=by
 cases a with
 | none=>cases b <;> simp [Builtin.append_,run_underlying ht,sizeOf,typeInfo,hi,Builtin.lenOf,hn,Builtin.firstCells,storeCells]
 | some a =>
  have hl:(loadCells a 0).run P w=.ok #[] w:=run_loadCells_list (P:=P) w a [] (fun j v hj=>by simp at hj)
  cases b <;> simp [Builtin.append_,run_underlying ht,sizeOf,typeInfo,hi,Builtin.lenOf,hn,Builtin.firstCells,hl,storeCells]
theorem wpList_append_view {P:Program} (w:World) {ops:Array Oper} {rest:List Oper} {o:Oper} {a:Act} {Q:Exit→Act→World→Prop} (hgd:o.guard=none) (s x:Operand) (t:TypeId)
  (ho:o.op=.call { callee:=.builtin .append,args:=#[s,x],argTypes:=#[t,t] })
  (base:Nat) (e:TypeId) (i:TypeInfo) (z:Value) (bytes:Nat) (k:IntKind) (ht:P.underlying t=some (.slice e)) (hi:P.info? e=some i) (hz:i.zero=some z)
  (hsize:i.size=1) (hby:i.bytes=bytes) (hzs:z.cells.size=1)
  (v:Value) (n:Nat) (xs:List Int) (hs:a.eval s=v) (hown:w.ownsRow base e 1 v n (xs.map (Value.int k)))
  (ad:Option Addr) (m c:Nat) (zs:List Int) (hx:a.eval x=.slice ad m c) (hv:View k w ad zs) (hl:zs.length=m)
  (h63:n+m≤maxLen) (hbytes:(n+m) * bytes≤140737488355328) (hbase:base≤w.heap.size)
  (h:∀ v' w',w'.ownsRow base e 1 v' (n+m) ((xs++zs).map (Value.int k))→w.grownBy w' v.ownBlock→wpList P ops Q rest (a.put o.dst v') w'):wpList P ops Q (o :: rest) a w:=by
 by_cases h0:m=0
 ·subst h0
  have hz0:zs=[]:=List.eq_nil_of_length_eq_zero hl
  subst hz0
  obtain⟨b,n',cap,hve,hle⟩:∃ b n' cap,v=.slice b n' cap∧n'≤cap:=by
   rcases hown.2 with ⟨rfl,rfl⟩ | ⟨g,cap,cur,rfl,_,_,hle,_⟩
   ·exact⟨_,_,_,rfl,Nat.le_refl _⟩
   ·exact⟨_,_,_,rfl,hle⟩
  refine append_run w hgd s x t ho v _ v w hs hx (fun ty=>?_) ?_
  ·rw [hve];exact run_append_nothing w t ty e i ht hi b n' cap hle ad c
  ·refine h v w ?_ ⟨rfl,rfl,rfl,Nat.le_refl _,fun _ _ _=>rfl⟩
   rw [List.append_nil];exact hown
 ·obtain⟨b',o',rfl,_,_⟩:=hv 0 (by omega)
  refine wpList_append_own w hgd s x t ho base e i z 1 bytes ht hi hz hsize hby hzs (by omega) v n (xs.map (Value.int k)) hs hown ⟨b',o',none⟩ m c (zs.map (Value.int k)) hx (by rw [List.length_map,hl];omega) ?_ ?_ h63 hbytes hbase (fun v' w' h2 h3 _=>h v' w' (by rw [List.map_append];exact h2) h3)
  ·intro j u hj
   rw [List.getElem?_map] at hj
   have hjl:j<zs.length:=by
    rcases Nat.lt_or_ge j zs.length with h | h
    ·exact h
    ·rw [List.getElem?_eq_none h] at hj;simp at hj
   obtain⟨b2,o2,e2,_,hc⟩:=hv j hjl
   simp at e2
   obtain⟨rfl,rfl⟩:=e2
   rw [Addr.add_lit,hc,← hj,List.getElem?_eq_getElem hjl]
   simp [nth,List.getD,hjl]
  ·intro u hu
   obtain⟨y,_,rfl⟩:=List.mem_map.1 hu
   rfl
theorem View.ofOwned {k:IntKind} {w:World} {B e n:Nat} {v:Value} {zs:List Int} (h:w.ownsRow B e 1 v n (zs.map (Value.int k))):∃ a cap,v=.slice a n cap∧View k w a zs∧zs.length=n:=by
 have hl:zs.length=n:=by have:=h.1;simpa using this
 have hc:=fun g hg=>h.cells (g:=g) hg
 rcases h.2 with ⟨rfl,rfl⟩ | ⟨g,cap,cur,rfl,_,hg,_⟩
 ·exact⟨none,0,rfl,fun j hj=>by omega,hl⟩
 ·refine⟨some ⟨g,0,none⟩,cap,rfl,fun j hj=>⟨g,0,rfl,(Array.getElem?_eq_some_iff.1 hg).1,?_⟩,hl⟩
  have:=hc g rfl j (.int k (nth zs j)) (by simp [nth,List.getD,hj])
  rw [Addr.add_lit] at this
  exact this
end Go.Proofs.YtonhnflilfjkbaaGreat
