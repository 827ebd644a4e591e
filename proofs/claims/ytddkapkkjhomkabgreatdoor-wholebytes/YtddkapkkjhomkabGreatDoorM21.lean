/-
  Texts laid together in one: AsmRd, GrammarNamed, AsmOp, AsmOpO, AsmOpS, AsmOpA.
-/
import Derived.WalkSpells
import Derived.WalkMore
import Derived.Test.YtddkapkkjhomkabGreatDoorProg
import Derived.Test.YtddkapkkjhomkabGreatDoorM20
import Derived.Test.YtddkapkkjhomkabGreatDoorM03
import Derived.RangeFuncNested
import Derived.RangeFuncBound
import Derived.RangeFuncCalls
import Derived.RangeFuncLeaves
import Derived.Shelf.Abstract
import Derived.Shelf.RegionOpen
import Derived.WalkKit
import Derived.OwnWalkIn
import Derived.TacticsInMore
import Derived.LoopNIn
import Derived.LoopIn
import Derived.Test.YtddkapkkjhomkabGreatDoorM04
import Derived.Test.YtddkapkkjhomkabGreatDoorM17
import Derived.BigRegion
import Derived.Deep.RegionWith
import Derived.Deep.QuietTactic
import Derived.BigQuiet
set_option linter.unusedVariables false
set_option linter.unusedSimpArgs false
set_option maxRecDepth 10000
namespace Go.Proofs.YtddkapkkjhomkabGreatDoor
open Go.RowKit

def rdRest (fo:Int) (f:Frm) (io it ir:Int) (av:Value) (wd:Int):Array Value:=#[.int .u16 fo,.string f.1,.bool f.2.1,.bool f.2.2.1,.string f.2.2.2.1,.string f.2.2.2.2.1,.int .i64 f.2.2.2.2.2.1,.int .u8 f.2.2.2.2.2.2,.int .u16 io,.int .u32 it,.int .u32 ir,av,.int .i64 wd]
def Rea (w:World) (B:Nat) (a:Option Addr) (n c k:Nat) (len b fo:Int) (f:Frm) (io it ir:Int) (av:Value) (wd:Int):Prop:=ReadAt w B a n c k len b (rdRest fo f io it ir av wd)
def rdCells (a:Option Addr) (n c k:Nat) (len b fo:Int) (f:Frm) (io it ir:Int) (av:Value) (wd:Int):Array Value:=#[.slice a n c,.int .i64 (k:Int),.int .i64 len,.int .u32 b,.int .u16 fo,.string f.1,.bool f.2.1,.bool f.2.2.1,.string f.2.2.2.1,.string f.2.2.2.2.1,.int .i64 f.2.2.2.2.2.1,.int .u8 f.2.2.2.2.2.2,.int .u16 io,.int .u32 it,.int .u32 ir,av,.int .i64 wd]
theorem rd_cells (a:Option Addr) (n c k:Nat) (len b fo:Int) (f:Frm) (io it ir:Int) (av:Value) (wd:Int):#[Value.slice a n c,.int .i64 (k:Int),.int .i64 len] ++ (#[Value.int .u32 b] ++ rdRest fo f io it ir av wd)=rdCells a n c k len b fo f io it ir av wd:=by
 simp [rdRest,rdCells]
section
variable {w w' : World} {B : Nat} {a : Option Addr} {n c k : Nat} {len b fo : Int} {f : Frm} {io it ir : Int} {av : Value} {wd : Int}
theorem Rea.block (h:Rea w B a n c k len b fo f io it ir av wd):w.heap[B]?=some (.cells (rdCells a n c k len b fo f io it ir av wd) 203 (0,0)):=by
 have:=h;unfold Rea ReadAt RowAt at this;rw [rd_cells] at this;exact this
theorem Rea.mk (h:w.heap[B]?=some (.cells (rdCells a n c k len b fo f io it ir av wd) 203 (0,0))):Rea w B a n c k len b fo f io it ir av wd:=by
 unfold Rea ReadAt RowAt;rw [rd_cells];exact h
theorem Rea.below (h:Rea w B a n c k len b fo f io it ir av wd) (hb:Below w.heap.size w w'):Rea w' B a n c k len b fo f io it ir av wd:=RowAt.below h hb
theorem Rea.lt (h:Rea w B a n c k len b fo f io it ir av wd):B < w.heap.size:=RowAt.lt h
theorem Rea.setType (h:Rea w B a n c k len b fo f io it ir av wd) (x:Int):Rea (w.setCell ⟨B,13,none⟩ (.int .u32 x)) B a n c k len b fo f io x ir av wd:=by
 apply Rea.mk;have:=h.block;simp [World.setCell,Array.getElem?_modify,this,rdCells]
theorem Rea.setResult (h:Rea w B a n c k len b fo f io it ir av wd) (x:Int):Rea (w.setCell ⟨B,14,none⟩ (.int .u32 x)) B a n c k len b fo f io it x av wd:=by
 apply Rea.mk;have:=h.block;simp [World.setCell,Array.getElem?_modify,this,rdCells]
theorem Rea.setArgs (h:Rea w B a n c k len b fo f io it ir av wd) (x:Value):Rea (w.setCell ⟨B,15,none⟩ x) B a n c k len b fo f io it ir x wd:=by
 apply Rea.mk;have:=h.block;simp [World.setCell,Array.getElem?_modify,this,rdCells]
theorem Rea.setWords (h:Rea w B a n c k len b fo f io it ir av wd) (x:Int):Rea (w.setCell ⟨B,16,none⟩ (.int .i64 x)) B a n c k len b fo f io it ir av x:=by
 apply Rea.mk;have:=h.block;simp [World.setCell,Array.getElem?_modify,this,rdCells]
theorem Rea.setNext (h:Rea w B a n c k len b fo f io it ir av wd):Rea (w.setCell ⟨B,1,none⟩ (.int .i64 ((k+1:Nat):Int))) B a n c (k+1) len b fo f io it ir av wd:=RowAt.step h
end

end Go.Proofs.YtddkapkkjhomkabGreatDoor
namespace Go.Proofs.YtddkapkkjhomkabGreatDoor
open Go.RowKit Go.Shelf
attribute [local go_sem] Oper.semAt_some

theorem eight_far {w:World} {B k:Nat} {o:Obj} (h:w.heap[k]?=some o) (hne:k≠B) (u0 u1 u2 u3 u4 u5 u6 u7:Value) :
  ((((((((w.setCell ⟨B,0,none⟩ u0).setCell ⟨B,1,none⟩ u1).setCell ⟨B,2,none⟩ u2).setCell ⟨B,3,none⟩ u3).setCell ⟨B,4,none⟩ u4).setCell ⟨B,5,none⟩ u5).setCell ⟨B,6,none⟩ u6).setCell ⟨B,7,none⟩ u7).heap[k]?=some o :=
 setFar (setFar (setFar (setFar (setFar (setFar (setFar (setFar h hne _ _) hne _ _) hne _ _) hne _ _) hne _ _) hne _ _) hne _ _) hne _ _
theorem eight_others (w:World) (B:Nat) (u0 u1 u2 u3 u4 u5 u6 u7:Value) :
  KeepsOthers w ((((((((w.setCell ⟨B,0,none⟩ u0).setCell ⟨B,1,none⟩ u1).setCell ⟨B,2,none⟩ u2).setCell ⟨B,3,none⟩ u3).setCell ⟨B,4,none⟩ u4).setCell ⟨B,5,none⟩ u5).setCell ⟨B,6,none⟩ u6).setCell ⟨B,7,none⟩ u7) :=
 (((((((KeepsOthers.setCell _ _ _).trans (KeepsOthers.setCell _ _ _)).trans (KeepsOthers.setCell _ _ _)).trans (KeepsOthers.setCell _ _ _)).trans (KeepsOthers.setCell _ _ _)).trans (KeepsOthers.setCell _ _ _)).trans (KeepsOthers.setCell _ _ _)).trans (KeepsOthers.setCell _ _ _)
def hpB (t s:ByteArray):Bool:=decide (s.size≤t.size) && ((t.extract 0 s.size).toList == s.toList)
theorem litePrefix_any (t s:ByteArray) (w:World) (ht:t.size≤140737488351232) (hs:s.size≤140737488351232) :
  Calls Tryz.prog 129 #[.string t,.string s] w fun e w'=>e=.returned (.bool (hpB t s))∧w=w':=by
 by_cases h:s.size≤t.size
 ·have HE:Hid (hpB t s=((t.extract 0 s.size).toList == s.toList)):=by show _=_;unfold hpB;rw [decide_eq_true h];rfl
  have h':decide ((t.size:Int) ≥ (s.size:Int))=true:=decide_eq_true (by omega)
  have hi:(s.size:Int)≤(t.size:Int):=by omega
  go_enter Tryz.func129,Tryz.ntmps129
  go_wp2
  go_ret
  exact ⟨by rw [HE.out];rfl,rfl⟩
 ·have HE:Hid (hpB t s=false):=by show _=_;unfold hpB;rw [decide_eq_false h];rfl
  go_enter Tryz.func129,Tryz.ntmps129
  go_wp2
  go_ret
  exact ⟨by rw [HE.out];rfl,rfl⟩
theorem hasPrefix_any (t s:ByteArray) (w:World) (ht:t.size≤140737488351232) (hs:s.size≤140737488351232) :
  Calls Tryz.prog 172 #[.string t,.string s] w fun e w'=>e=.returned (.bool (hpB t s))∧w=w':=by
 have hL:=fun w=>litePrefix_any t s w ht hs
 generalize hpB t s=b at *
 go_enter Tryz.func172,Tryz.ntmps172
 go_wp2_with fail
 refine (hL _).mono ?_
 rintro e w1 ⟨rfl,rfl⟩
 go_wp2
 go_ret
 exact ⟨rfl,rfl⟩
theorem heads_ok:opsL.all (fun k=>hpB (ftxt k) (opF k).1)=true:=by decide +kernel
theorem bytes_eq {a b:ByteArray} (h:(a.toList == b.toList)=true):a=b:=by
 have h:=eq_of_beq h
 rw [ByteArray.toList_eq,ByteArray.toList_eq] at h
 obtain ⟨⟨a⟩⟩:=a
 obtain ⟨⟨b⟩⟩:=b
 simp only at h
 rw [h]
theorem nam_head {s:ByteArray} {k:Nat} (hk:k ∈ opsL) (h:hpB (ftxt k) s=false):namP s k=false:=by
 cases e:namP s k
 ·rfl
 ·have h1:=List.all_eq_true.1 heads_ok k hk
  rw [bytes_eq e] at h1
  rw [h1] at h;cases h
def NamedI (s:ByteArray) (w:World) (pre:List Nat) (W:World):Prop :=
 (Below w.heap.size w W∧w.heap.size+3≤W.heap.size)∧W.heap[w.heap.size]?=some (.cells #[.string s] 9 (0,0))∧W.heap[w.heap.size+1]?=some (.cells (frmCells 0 noFrm) 89 (0,0))∧W.heap[w.heap.size+2]?=some (.cells #[.bool false] 4 (0,0))∧∀ k ∈ pre,namP s k=false
def NamedX (s:ByteArray) (w:World) (c:Code) (pre:List Nat) (W:World):Prop :=
 c=.ret∧(Below w.heap.size w W∧w.heap.size+3≤W.heap.size)∧∃ (pre':List Nat) (x:Nat),pre=pre' ++ [x]∧(∀ k ∈ pre',namP s k=false)∧namP s x=true ∧
  W.heap[w.heap.size+1]?=some (.cells (frmCells x (opF x)) 89 (0,0))∧W.heap[w.heap.size+2]?=some (.cells #[.bool true] 4 (0,0))
theorem namedI_own (s:ByteArray) (w:World):OwnFrom (w.heap.size+3) (NamedI s w):=by
 rintro pre W W' row ⟨h1,h2,h3,h4,h5⟩ hg hr
 exact ⟨⟨belowStay h1.1 (Nat.le_refl _) (by omega) hg hr,Nat.le_trans h1.2 hg.size⟩,cellsStay h2 hg hr,cellsStay h3 hg hr,cellsStay h4 hg hr,h5⟩
theorem namedX_own (s:ByteArray) (w:World) (c:Code):OwnFrom (w.heap.size+3) (NamedX s w c):=by
 rintro pre W W' row ⟨h0,h1,pre',x,h2,h3,h4,h5,h6⟩ hg hr
 exact ⟨h0,⟨belowStay h1.1 (Nat.le_refl _) (by omega) hg hr,Nat.le_trans h1.2 hg.size⟩,pre',x,h2,h3,h4,cellsStay h5 hg hr,cellsStay h6 hg hr⟩
theorem opF_read (k:Nat) (w:World):Calls Tryz.prog 74 #[.int .u16 k,.string (ftxt k)] w fun e w'=>e=.returned (formV k (opF k))∧Below w.heap.size w w':=readForm_op k w
theorem ftxt_size (k:Nat):(ftxt k).size≤140737488351232:=Nat.le_trans (ftxt_ok k).2.1 (by omega)
set_option maxRecDepth 100000 in
set_option maxHeartbeats 4000000 in
theorem named_any (s:ByteArray) (w:World) (hs:s.size≤140737488351232):Calls Tryz.prog 163 #[.string s] w fun e w'=>e=.returned (.tuple #[namedV s,.bool (namedB s)])∧Below w.heap.size w w':=by
 have HP:Hid (∀ k w,_):=fun (k:Nat) w=>hasPrefix_any (ftxt k) s w (ftxt_size k) hs
 clear hs
 refine (callsIn_wide (n:=0)).1 ?_
 refine callsIn_of_wp_marks Tryz.func163 rfl trivial ?_ rfl
 simp only [Tryz.ntmps163,List.size_toArray,List.length_cons,List.length_nil,Nat.reduceAdd,Nat.reduceSub,Array.replicate_succ,Array.replicate_zero,List.push_toArray,List.append_toArray,List.nil_append,List.cons_append]
 gi_wp2_with fail
 refine ⟨trivial,rfl,(callsIn_wide.2 (formTexts_any _)).mono ?_⟩
 rintro e w2 ⟨rfl,rfl⟩
 obtain ⟨wL,hwL⟩:∃ X,X=(((w.alloc (.cells #[.string s] 9)).alloc (.cells #[.int .u16 0,.string ⟨#[]⟩,.bool false,.bool false,.string ⟨#[]⟩,.string ⟨#[]⟩,.int .i64 0,.int .u8 0] 89)).alloc (.cells #[.bool false] 4)):=⟨_,rfl⟩
 have hsL:wL.heap.size=w.heap.size+3:=by rw [hwL];simp
 have hbL:Below w.heap.size w wL:=by rw [hwL];exact ((((Below.refl _ w).alloc (Nat.le_refl _) _).alloc (by simp) _).alloc (by simp;omega) _)
 have k0:wL.heap[w.heap.size]?=some (.cells #[.string s] 9 (0,0)):=by rw [hwL];exact allocOld (allocOld (allocNew w _ rfl) _) _
 have k1:wL.heap[w.heap.size+1]?=some (.cells (frmCells 0 noFrm) 89 (0,0)):=by rw [hwL];exact allocOld (allocNew _ _ (by simp)) _
 have k2:wL.heap[w.heap.size+2]?=some (.cells #[.bool false] 4 (0,0)):=by rw [hwL];exact allocNew _ _ (by simp)
 gi_wp2_with fail
 rw [← hwL]
 clear hwL
 simp only [Nat.add_assoc,Nat.reduceAdd]
 refine wp_tells rfl (enters_of Tryz.func183 (by kernel_rfl) rfl) (formTexts_tells w.heap.size (fun _=>False) wL) (by omega) (fun _=>rfl)
  (NamedI s w) (NamedX s w) (by rw [hsL];exact namedI_own s w) (fun c=>by rw [hsL];exact namedX_own s w c)
  ⟨⟨hbL,by omega⟩,k0,k1,k2,fun q hq=>by simp at hq⟩
  (fun pre x a' W=>pre ++ [x] <+: opsL∧a'={ tmps:=#[.string s,.pointer (some ⟨w.heap.size,0,none⟩),.pointer (some ⟨w.heap.size+1,0,none⟩),.pointer (some ⟨w.heap.size+2,0,none⟩),.int .u16 x,.string (ftxt x),undef,.func (.func 183) #[] #[],.int .u16 x,.string (ftxt x),undef,undef,undef,undef,undef,undef,undef,undef,undef,undef,undef,undef,undef],defers:=[] })
  ?hAx ?assign ?body ?done ?stop
 case hAx =>
  rintro pre x a' s W W' row h hg hr
  exact h
 case assign =>
  rintro l pre x W K hI hV hK
  simp only [opV]
  gi_wp2
  exact hK _ _ (KeepsFrom.refl _ _) (Kept.refl _ _ _) hI ⟨hV,rfl⟩
 case body =>
  rintro l pre x a' W hl' ⟨r,hr⟩ ⟨⟨h1,hlt⟩,h2,h3,h4,h6⟩ ⟨hV,rfl⟩
  have hx:x ∈ opsL:=hV.subset (by simp)
  have HHP:=HP.out x
  have HNH:Hid (hpB (ftxt x) s=false→namP s x=false):=nam_head hx
  have hRF:=fun w=>opF_read x w
  obtain ⟨c0,_⟩:=oneCell h2
  have go:∀ W',Below W.heap.size W W'→namP s x=false→KeepsFrom wL.heap.size W W'∧Kept w.heap.size (fun _=>False) W W'∧NamedI s w (pre ++ [x]) W':=fun W' hb hno =>
   have sz:=hb.size
   ⟨KeepsFrom.of_below hb,Kept.of_below hb (by omega),⟨h1.trans (hb.mono h1.size),by omega⟩,(hb.block _ (by omega)).trans h2,(hb.block _ (by omega)).trans h3,(hb.block _ (by omega)).trans h4,fun q hq=>by
    rcases List.mem_append.1 hq with h | h
    ·exact h6 q h
    ·simp at h;subst h;exact hno⟩
  have HGO:Hid (∀ W',Below W.heap.size W W'→namP s x=false→KeepsFrom wL.heap.size W W'∧Kept w.heap.size (fun _=>False) W W'∧NamedI s w (pre ++ [x]) W'):=go
  have HPP:Hid (namP s x=((opF x).1.toList == s.toList)):=rfl
  have HOUT:Hid (∀ W' W'':World,Below W.heap.size W W'→namP s x=true→Below (w.heap.size+1) W' W''→KeepsOthers W' W''→W''.heap[w.heap.size+1]?=some (.cells (frmCells x (opF x)) 89 (0,0))→W''.heap[w.heap.size+2]?=some (.cells #[.bool true] 4 (0,0))→KeepsFrom wL.heap.size W W''∧NamedX s w .ret (pre ++ [x]) W''):=fun W' W'' hb hyes hb2 hko e1 e2 =>
   have sz:=hb.size
   have sz2:=hb2.size
   ⟨(KeepsFrom.of_below hb).trans (hko.from _),rfl,⟨(h1.trans (hb.mono h1.size)).trans (hb2.mono (by omega)),by omega⟩,pre,x,rfl,h6,hyes,e1,e2⟩
  have H34:Hid (W.heap[w.heap.size+1]?=some (.cells (frmCells 0 noFrm) 89 (0,0))∧W.heap[w.heap.size+2]?=some (.cells #[.bool false] 4 (0,0))∧W.heap[w.heap.size]?=some (.cells #[.string s] 9 (0,0))):=⟨h3,h4,h2⟩
  clear go h2 h3 h4 h6 h1 hV hx
  generalize ftxt x=t at *
  gi_wp2_with fail
  refine ⟨trivial,rfl,(CallsIn.inRound l (callsIn_wide.2 (HHP _))).mono ?_⟩
  rintro e w3 ⟨rfl,rfl⟩
  cases hp:hpB t s
  ·have hno:=HNH.out hp
   have fin:=HGO.out W (Below.refl _ _) hno
   clear HGO HOUT
   gi_wp2
   exact fin
  ·clear HNH
   gi_wp2_with fail
   refine ⟨trivial,rfl,(CallsIn.inRound l (callsIn_wide.2 (hRF _))).mono ?_⟩
   rintro e w3 ⟨rfl,hb3⟩
   have hbw3:Below W.heap.size W (w3.alloc (.cells (frmCells x (opF x)) 147)):=hb3.alloc hb3.size _
   have s3:=hb3.size
   obtain ⟨q1,q2,q3⟩:=H34.out
   have d1:=(hb3.block (w.heap.size+1) (by omega)).trans q1
   have d2:=(hb3.block (w.heap.size+2) (by omega)).trans q2
   have d3:=(hb3.block w.heap.size (by omega)).trans q3
   obtain ⟨g0,_⟩:=oneCell d3
   obtain ⟨g2,gf⟩:=oneCell d2
   obtain ⟨u0,u1,u2,u3,u4,u5,u6,u7,uf⟩:=frm_cells (n:=0) (f:=noFrm) d1
   unfold noFrm at u1 u2 u3 u4 u5 u6 u7
   have l0:w.heap.size < w3.heap.size:=by omega
   have l1:w.heap.size+1 < w3.heap.size:=by omega
   have l2:w.heap.size+2 < w3.heap.size:=by omega
   have HW4:Hid (Below W.heap.size W (w3.alloc (.cells (frmCells x (opF x)) 147))):=hbw3
   have HD:Hid (w3.heap[w.heap.size+1]?=some (.cells (frmCells 0 noFrm) 89 (0,0))∧w3.heap[w.heap.size+2]?=some (.cells #[.bool false] 4 (0,0))):=⟨d1,d2⟩
   have HB3:Hid (Below W.heap.size W w3):=hb3
   clear q1 q2 q3 d1 d2 d3 hb3 hbw3 c0 hRF HHP H34
   generalize hf:opF x=f at *
   obtain ⟨nm,t',r',fx,rs,mo,pa⟩:=f
   unfold formV
   cases hn:(nm.toList == s.toList)
   ·have hno:namP s x=false:=by rw [HPP.out];exact hn
    have fin:=HGO.out _ HW4.out hno
    clear HGO HOUT hf hno HPP
    gi_wp2
    exact fin
   ·have hyes:namP s x=true:=by rw [HPP.out];exact hn
    have HFIN:Hid (∀ W'',Below (w.heap.size+1) w3 W''→KeepsOthers w3 W''→W''.heap[w.heap.size+1]?=some (.cells (frmCells x (nm,t',r',fx,rs,mo,pa)) 89 (0,0))→W''.heap[w.heap.size+2]?=some (.cells #[.bool true] 4 (0,0))→KeepsFrom wL.heap.size W W''∧NamedX s w .ret (pre ++ [x]) W''):=fun W''=>HOUT.out _ W'' HB3.out hyes
    clear HGO HOUT hf hyes HPP HW4
    gi_wp2
    refine HFIN.out _ ?_ ?_ ?_ ?_
    ·exact ((eight_below w3 (w.heap.size+1) _ _ _ _ _ _ _ _).setCell (p:=⟨w.heap.size+2,0,none⟩) (by simp) _).alloc (by simp [World.setCell];omega) _
    ·exact ((eight_others w3 (w.heap.size+1) _ _ _ _ _ _ _ _).trans (KeepsOthers.setCell _ _ _)).trans ⟨by simp,fun k o hk _=>allocOld hk _⟩
    ·exact allocOld (setFar (eight_set HD.out.1 _ _ _ _ _ _ _ _) (by omega) _ _) _
    ·exact allocOld (oneSet (eight_far HD.out.2 (by omega) _ _ _ _ _ _ _ _) _) _
 case done =>
  rintro D xs W hD rfl ⟨⟨h1,hlt⟩,h2,h3,h4,h6⟩ hK
  have hnone:opsL.find? (namP s)=none:=List.find?_eq_none.2 (fun q hq=>by rw [h6 q hq];simp)
  have HE:Hid (namedV s=formV 0 noFrm∧namedB s=false):=by show _∧_;unfold namedV namedB;rw [hnone];exact ⟨rfl,rfl⟩
  obtain ⟨c3,f3⟩:=oneCell h4
  obtain ⟨u0,u1,u2,u3,u4,u5,u6,u7,uf⟩:=frm_cells (n:=0) (f:=noFrm) h3
  unfold noFrm at u1 u2 u3 u4 u5 u6 u7
  clear hnone
  obtain ⟨Y,hY⟩:∃ Y,Y=((((((((W.setCell ⟨w.heap.size+1,0,none⟩ (.int .u16 0)).setCell ⟨w.heap.size+1,1,none⟩ (.string ⟨#[]⟩)).setCell ⟨w.heap.size+1,2,none⟩ (.bool false)).setCell ⟨w.heap.size+1,3,none⟩ (.bool false)).setCell ⟨w.heap.size+1,4,none⟩ (.string ⟨#[]⟩)).setCell ⟨w.heap.size+1,5,none⟩ (.string ⟨#[]⟩)).setCell ⟨w.heap.size+1,6,none⟩ (.int .i64 0)).setCell ⟨w.heap.size+1,7,none⟩ (.int .u8 0)).setCell ⟨w.heap.size+2,0,none⟩ (.bool false):=⟨_,rfl⟩
  have hKY:Y.heap[D]?=some (.deferred (some [])):=by rw [hY];exact ((eight_others _ _ _ _ _ _ _ _ _ _).trans (KeepsOthers.setCell _ _ _)).same D _ hK rfl
  have hbY:Below w.heap.size w Y:=by rw [hY];exact (h1.trans ((eight_below _ _ _ _ _ _ _ _ _ _).mono (by omega))).setCell (by simp) _
  have y2:Y.heap[w.heap.size+1]?=some (.cells (frmCells 0 noFrm) 89 (0,0)):=by rw [hY];exact setFar (eight_set h3 _ _ _ _ _ _ _ _) (by omega) _ _
  have y3:Y.heap[w.heap.size+2]?=some (.cells #[.bool false] 4 (0,0)):=by rw [hY];exact oneSet (eight_far h4 (by omega) _ _ _ _ _ _ _ _) _
  have hput:=grownBy_putObj' Y D (.deferred none)
  have hpr:∀ r,some D=some r→(0≤r∧∃ o:Obj,Y.heap[r]?=some o∧o.isCells=false):=fun r e=>by cases e;exact ⟨Nat.zero_le _,_,hKY,rfl⟩
  have r1:=(oneCell (cellsStay y3 hput hpr)).1
  have HR:Hid ((Y.putObj D (.deferred none)).heap[w.heap.size+1]?=some (.cells (frmCells 0 noFrm) 89 (0,0))):=cellsStay y2 hput hpr
  have hbE:Below w.heap.size w (Y.putObj D (.deferred none)):=hbY.trans (belowK_b (w:=w) (Nat.le_refl _) Y D _ _ (by omega) hKY rfl rfl)
  clear h1 h2 h3 h4 h6 y2 y3 hput hpr hbY
  gi_wp2_with fail
  rw [← hY]
  refine ⟨by simp,.inl ⟨_,_,rfl,run_takeDeferred hKY,?_⟩⟩
  obtain ⟨v0,v1,v2,v3,v4,v5,v6,v7,vf⟩:=frm_cells HR.out
  unfold noFrm at v1 v2 v3 v4 v5 v6 v7
  exact ⟨.tuple #[formV 0 noFrm,.bool false],by simp [results,Tryz.results163,go_sem,formV,noFrm,r1,v0,v1,v2,v3,v4,v5,v6,v7],by rw [HE.out.1,HE.out.2],hbE⟩
 case stop =>
  rintro D c pre W hD hpre ⟨rfl,⟨h1,hlt⟩,pre',x,rfl,h3,h4,h5,h6⟩ hK
  have hsome:opsL.find? (namP s)=some x:=by
   obtain ⟨z,hz⟩:=hpre
   rw [← hz,List.append_assoc,List.find?_append,List.find?_eq_none.2 (fun q hq=>by rw [h3 q hq];simp)]
   simp [h4]
  have HE:Hid (namedV s=formV x (opF x)∧namedB s=true):=by show _∧_;unfold namedV namedB;rw [hsome];exact ⟨rfl,rfl⟩
  have hput:=grownBy_putObj' W D (.deferred none)
  have hpr:∀ r,some D=some r→(0≤r∧∃ o:Obj,W.heap[r]?=some o∧o.isCells=false):=fun r e=>by cases e;exact ⟨Nat.zero_le _,_,hK,rfl⟩
  have r1:=(oneCell (cellsStay h6 hput hpr)).1
  obtain ⟨u0,u1,u2,u3,u4,u5,u6,u7,uf⟩:=frm_cells (cellsStay h5 hput hpr)
  have hbE:Below w.heap.size w (W.putObj D (.deferred none)):=h1.trans (belowK_b (w:=w) (Nat.le_refl _) W D _ _ (by omega) hK rfl rfl)
  clear h1 h5 h6 hput hpr
  gi_wp2_with fail
  refine ⟨by simp,.inl ⟨_,_,rfl,run_takeDeferred hK,?_⟩⟩
  exact ⟨.tuple #[formV x (opF x),.bool true],by simp [results,Tryz.results163,go_sem,formV,r1,u0,u1,u2,u3,u4,u5,u6,u7],by rw [HE.out.1,HE.out.2],hbE⟩
end Go.Proofs.YtddkapkkjhomkabGreatDoor
namespace Go.Proofs.YtddkapkkjhomkabGreatDoor
open Go.RowKit

theorem spot_box (w:World):(w.alloc (.cells #[.int .i64 0,.int .i64 0] 28)).heap[w.heap.size]?=some (.cells #[.int .i64 0,.int .i64 0] 28 (0,0))∧Below w.heap.size w (w.alloc (.cells #[.int .i64 0,.int .i64 0] 28)):=⟨heap_alloc_new w _,(Below.refl _ w).alloc (Nat.le_refl _) _⟩
theorem two_putB {W:World} {g T:Nat} {x0 x1:Value} (k:W.heap[g]?=some (.cells #[x0,x1] T (0,0))) (u0 u1:Value):((W.setCell ⟨g,0,none⟩ u0).setCell ⟨g,1,none⟩ u1).heap[g]?=some (.cells #[u0,u1] T (0,0))∧Below g W ((W.setCell ⟨g,0,none⟩ u0).setCell ⟨g,1,none⟩ u1) :=
 ⟨two_set k u0 u1,((Below.refl g W).setCell (Nat.le_refl _) _).setCell (Nat.le_refl _) _⟩
set_option maxHeartbeats 4000000 in
/-- Where no word is taken. -/
theorem operation_bad (B:Nat) (w:World) (e p:Int) (he:e≠0)
  (hT:∀ wx,Below w.heap.size w wx→Calls Tryz.prog 145 #[.pointer (some ⟨B,0,none⟩),.int .u8 1] wx fun x w'=>x=.returned (.tuple #[tokV noTok,.agg #[.int .i64 e,.int .i64 p]])∧Below wx.heap.size wx w') :
  Calls Tryz.prog 149 #[.pointer (some ⟨B,0,none⟩)] w fun x w'=>x=.returned (.agg #[.int .i64 e,.int .i64 p])∧Below w.heap.size w w':=by
 have he':(e != 0)=true:=by simp [he]
 obtain ⟨kS,hb⟩:=spot_box w
 unfold tokV noTok at hT
 have hC:=hT _ hb
 have HS:=hide kS
 have HB:=hide hb
 clear kS hb he hT
 go_enter Tryz.func149,Tryz.ntmps149
 go_wp2_with fail
 generalize w.alloc (.cells #[.int .i64 0,.int .i64 0] 28)=W at *
 refine hC.mono ?_
 rintro x w1 ⟨rfl,hb1⟩
 have sS:=(Array.getElem?_eq_some_iff.1 HS.out).1
 have hba:Below w1.heap.size w1 ((w1.alloc (.cells #[.int .u8 0,.string ⟨#[]⟩,.int .i64 0] 41)).alloc (.cells #[.int .i64 e,.int .i64 p] 28)):=((Below.refl _ w1).alloc (Nat.le_refl _) _).alloc (by simp) _
 have s1:w.heap.size < w1.heap.size:=Nat.lt_of_lt_of_le sS hb1.size
 have kS1:=(hb1.block _ sS).trans HS.out
 obtain ⟨cp,fp⟩:=blk_cells kS1
 have p0:=cp 0
 have p1:=cp 1
 obtain ⟨x1,x2⟩:=two_putB kS1 (.int .i64 e) (.int .i64 p)
 have hbY:=(HB.out.trans (hb1.mono HB.out.size)).trans x2
 have hbZ:Below ((w1.setCell ⟨w.heap.size,0,none⟩ (.int .i64 e)).setCell ⟨w.heap.size,1,none⟩ (.int .i64 p)).heap.size ((w1.setCell ⟨w.heap.size,0,none⟩ (.int .i64 e)).setCell ⟨w.heap.size,1,none⟩ (.int .i64 p)) ((((w1.setCell ⟨w.heap.size,0,none⟩ (.int .i64 e)).setCell ⟨w.heap.size,1,none⟩ (.int .i64 p)).alloc (.cells #[.int .u8 0,.string ⟨#[]⟩,.int .i64 0] 41)).alloc (.cells #[.int .i64 e,.int .i64 p] 28)):=((Below.refl _ _).alloc (Nat.le_refl _) _).alloc (by simp) _
 have HY:=hide (hbY.trans (hbZ.mono hbY.size))
 have HY1:=hide ((hbZ.block _ (Array.getElem?_eq_some_iff.1 x1).1).trans x1)
 clear hC hb1 hba kS1 cp x1 x2 HS HB hbY hbZ
 go_wp2_with fail
 generalize (((w1.setCell ⟨w.heap.size,0,none⟩ (.int .i64 e)).setCell ⟨w.heap.size,1,none⟩ (.int .i64 p)).alloc (.cells #[.int .u8 0,.string ⟨#[]⟩,.int .i64 0] 41)).alloc (.cells #[.int .i64 e,.int .i64 p] 28)=X at *
 obtain ⟨e1,_⟩:=blk_cells HY1.out
 have a0:=e1 0
 have a1:=e1 1
 refine bodyPost_ret (v:=.agg #[.int .i64 e,.int .i64 p]) ?_ rfl ⟨rfl,HY.out⟩
 simp [results,Tryz.results149,go_sem,a0,a1]
def formW (W:World) (B:Nat) (o:Int) (f:Frm):World:=((((((((((W.setCell ⟨B,4,none⟩ (.int .u16 o)).setCell ⟨B,5,none⟩ (.string f.1)).setCell ⟨B,6,none⟩ (.bool f.2.1)).setCell ⟨B,7,none⟩ (.bool f.2.2.1)).setCell ⟨B,8,none⟩ (.string f.2.2.2.1)).setCell ⟨B,9,none⟩ (.string f.2.2.2.2.1)).setCell ⟨B,10,none⟩ (.int .i64 f.2.2.2.2.2.1)).setCell ⟨B,11,none⟩ (.int .u8 f.2.2.2.2.2.2)).setCell ⟨B,12,none⟩ (.int .u16 o)).drew)
theorem formW_far (W:World) (B:Nat) (o:Int) (f:Frm) {j:Nat} (hj:j≠B):(formW W B o f).heap[j]?=W.heap[j]?:=by
 unfold formW
 have e:∀ (X:World) (i:Nat) (v:Value),(X.setCell ⟨B,i,none⟩ v).heap[j]?=X.heap[j]?:=fun X i v=>Below.heap_setCell _ _ _ _ (by simpa using hj)
 have d:∀ X:World,X.drew.heap[j]?=X.heap[j]?:=fun X=>rfl
 rw [d];simp only [e]
theorem formW_size (W:World) (B:Nat) (o:Int) (f:Frm):(formW W B o f).heap.size=W.heap.size:=by
 unfold formW
 have d:∀ X:World,X.drew.heap.size=X.heap.size:=fun X=>rfl
 rw [d];simp
theorem formW_grown {w W:World} {B:Nat} (o:Int) (f:Frm) (h:w.grownBy W (some B)):w.grownBy (formW W B o f) (some B):=by
 refine ⟨?_,?_,?_,by rw [formW_size];exact h.size,fun j hj hr=>(formW_far W B o f (by simpa using hr)).trans (h.block j hj hr)⟩
 ·unfold formW;rw [show ∀ X:World,X.drew.os=X.os from fun _=>rfl];simp only [show ∀ (X:World) (p:Addr) (v:Value),(X.setCell p v).os=X.os from fun _ _ _=>rfl];exact h.os
 ·unfold formW;rw [show ∀ X:World,X.drew.tape=X.tape from fun _=>rfl];simp only [show ∀ (X:World) (p:Addr) (v:Value),(X.setCell p v).tape=X.tape from fun _ _ _=>rfl];exact h.tape
 ·unfold formW;rw [show ∀ X:World,X.drew.output=X.output from fun _=>rfl];simp only [show ∀ (X:World) (p:Addr) (v:Value),(X.setCell p v).output=X.output from fun _ _ _=>rfl];exact h.output
set_option maxHeartbeats 2000000 in
theorem formW_rd {W:World} {B:Nat} {a:Option Addr} {n c k:Nat} {len b fo:Int} {f:Frm} {io it ir:Int} {av:Value} {wd:Int} (h:Rea W B a n c k len b fo f io it ir av wd) (o:Int) (g:Frm):Rea (formW W B o g) B a n c k len b o g o it ir av wd:=by
 apply Rea.mk
 have hb:=h.block
 unfold formW
 have d:∀ X:World,X.drew.heap[B]?=X.heap[B]?:=fun X=>rfl
 rw [d]
 have e:∀ (X:World) (cs:Array Value) (i:Nat) (v:Value),X.heap[B]?=some (.cells cs 203 (0,0))→(X.setCell ⟨B,i,none⟩ v).heap[B]?=some (.cells (cs.setIfInBounds i v) 203 (0,0)):=fun X cs i v hx=>by
  simp [World.setCell,Array.getElem?_modify,hx]
 have h9:=e _ _ 12 (.int .u16 o) (e _ _ 11 (.int .u8 g.2.2.2.2.2.2) (e _ _ 10 (.int .i64 g.2.2.2.2.2.1) (e _ _ 9 (.string g.2.2.2.2.1) (e _ _ 8 (.string g.2.2.2.1) (e _ _ 7 (.bool g.2.2.1) (e _ _ 6 (.bool g.2.1) (e _ _ 5 (.string g.1) (e _ _ 4 (.int .u16 o) hb))))))))
 rw [h9]
 simp [rdCells]
set_option maxHeartbeats 4000000 in
/-- The word names nothing. -/
theorem operation_none (B:Nat) (a:Option Addr) (n c k:Nat) (len:Int) (rest:Array Value) (T:Nat) (l:List TokT) (w:World) (h:RowAt w B a n c k len rest T) (hv:ToksV w a l) (hl:l.length=n) (hn:32 * n≤140737488351232) (hk:k < n) (hkd:(nthT l k).1=1) (hsz:(nthT l k).2.1.size≤140737488351232) (hno:opsL.find? (namP (nthT l k).2.1)=none) :
  Calls Tryz.prog 149 #[.pointer (some ⟨B,0,none⟩)] w fun x w'=>x=.returned (.agg #[.int .i64 71,.int .i64 (nthT l k).2.2])∧w.grownBy w' (some B):=by
 obtain ⟨kS,hb⟩:=spot_box w
 have hC:=take_ok B a n c k len rest T l 1 _ (h.below hb) (hv.below hb) hl hn hk hkd
 have hNm:=fun wx=>named_any (nthT l k).2.1 wx hsz
 have e1:namedB (nthT l k).2.1=false:=by unfold namedB;rw [hno];rfl
 have e2:namedV (nthT l k).2.1=formV 0 noFrm:=by unfold namedV;rw [hno]
 rw [e1,e2] at hNm
 unfold formV noFrm at hNm
 have hFA:=fun wx=>faultAt_any (nthT l k) 71 wx
 rw [show fltA 71 (nthT l k).2.2=(nthT l k).2.2 by unfold fltA;simp] at hFA
 have hlt:=h.lt
 generalize nthT l k=z at *
 obtain ⟨z1,z2,z3⟩:=z
 unfold tokV at hC hFA
 simp only at hC hFA hNm ⊢
 have HS:=hide kS
 have HB:=hide hb
 clear kS hb h hv hl hn hk hkd hsz hno e1 e2
 go_enter Tryz.func149,Tryz.ntmps149
 go_wp2_with fail
 generalize w.alloc (.cells #[.int .i64 0,.int .i64 0] 28)=W at *
 refine hC.mono ?_
 rintro x w1 ⟨rfl,hR1,hg1⟩
 have sS:=(Array.getElem?_eq_some_iff.1 HS.out).1
 have s1:w.heap.size < w1.heap.size:=Nat.lt_of_lt_of_le sS hg1.size
 have hba:Below w1.heap.size w1 ((w1.alloc (.cells #[.int .u8 z1,.string z2,.int .i64 z3] 41)).alloc (.cells #[.int .i64 0,.int .i64 0] 28)):=((Below.refl _ w1).alloc (Nat.le_refl _) _).alloc (by simp) _
 have HS1:=hide ((hba.block _ s1).trans ((hg1.block _ sS (by simp;omega)).trans HS.out))
 have hg:w.grownBy ((w1.alloc (.cells #[.int .u8 z1,.string z2,.int .i64 z3] 41)).alloc (.cells #[.int .i64 0,.int .i64 0] 28)) (some B) :=
  ⟨hba.os.trans (hg1.os.trans HB.out.os),hba.tape.trans (hg1.tape.trans HB.out.tape),hba.output.trans (hg1.output.trans HB.out.output),Nat.le_trans HB.out.size (Nat.le_trans hg1.size hba.size),fun j hj hr=>(hba.block j (by omega)).trans ((hg1.block j (Nat.lt_of_lt_of_le hj HB.out.size) hr).trans (HB.out.block j hj))⟩
 have HG:=hide hg
 have kA:((w1.alloc (.cells #[.int .u8 z1,.string z2,.int .i64 z3] 41)).alloc (.cells #[.int .i64 0,.int .i64 0] 28)).heap[w1.heap.size]?=some (.cells #[.int .u8 z1,.string z2,.int .i64 z3] 41 (0,0)):=(Below.heap_alloc _ _ _ (by simp)).trans (heap_alloc_new w1 _)
 have HA:=hide kA
 have sA:w1.heap.size < ((w1.alloc (.cells #[.int .u8 z1,.string z2,.int .i64 z3] 41)).alloc (.cells #[.int .i64 0,.int .i64 0] 28)).heap.size:=by simp;omega
 clear hC hR1 hg1 hba hg kA HS HB sS
 go_wp2_with fail
 generalize (w1.alloc (.cells #[.int .u8 z1,.string z2,.int .i64 z3] 41)).alloc (.cells #[.int .i64 0,.int .i64 0] 28)=W2 at *
 refine (hNm _).mono ?_
 rintro x w3 ⟨rfl,hb3⟩
 have s3:w1.heap.size < w3.heap.size:=Nat.lt_of_lt_of_le sA hb3.size
 have kA3:=(hb3.block _ sA).trans HA.out
 have kS3:=(hb3.block _ (by omega)).trans HS1.out
 obtain ⟨ca,_⟩:=blk_cells kA3
 have y0:=ca 0
 have y1:=ca 1
 have y2:=ca 2
 have hba:Below w3.heap.size w3 (w3.alloc (.cells #[.int .u16 0,.string ⟨#[]⟩,.bool false,.bool false,.string ⟨#[]⟩,.string ⟨#[]⟩,.int .i64 0,.int .u8 0] 89)):=(Below.refl _ _).alloc (Nat.le_refl _) _
 have hb3a:=hb3.trans (hba.mono hb3.size)
 have HS3:=hide ((hba.block _ (by omega)).trans kS3)
 have HG3:=hide (show w.grownBy (w3.alloc (.cells #[.int .u16 0,.string ⟨#[]⟩,.bool false,.bool false,.string ⟨#[]⟩,.string ⟨#[]⟩,.int .i64 0,.int .u8 0] 89)) (some B) from ⟨hb3a.os.trans HG.out.os,hb3a.tape.trans HG.out.tape,hb3a.output.trans HG.out.output,Nat.le_trans HG.out.size hb3a.size,fun j hj hr=>(hb3a.block j (Nat.lt_of_lt_of_le hj HG.out.size)).trans (HG.out.block j hj hr)⟩)
 clear hNm hb3 kA3 kS3 ca hba hb3a HA HS1 HG
 go_wp2_with fail
 generalize w3.alloc (.cells #[.int .u16 0,.string ⟨#[]⟩,.bool false,.bool false,.string ⟨#[]⟩,.string ⟨#[]⟩,.int .i64 0,.int .u8 0] 89)=W4 at *
 refine (hFA _).mono ?_
 rintro x w5 ⟨rfl,hb5⟩
 have sW:=(Array.getElem?_eq_some_iff.1 HS3.out).1
 have kS5:=(hb5.block _ sW).trans HS3.out
 obtain ⟨cp,fp⟩:=blk_cells kS5
 have p0:=cp 0
 have p1:=cp 1
 obtain ⟨x1,x2⟩:=two_putB kS5 (.int .i64 71) (.int .i64 z3)
 have hg5:w.grownBy w5 (some B):=⟨hb5.os.trans HG3.out.os,hb5.tape.trans HG3.out.tape,hb5.output.trans HG3.out.output,Nat.le_trans HG3.out.size hb5.size,fun j hj hr=>(hb5.block j (Nat.lt_of_lt_of_le hj HG3.out.size)).trans (HG3.out.block j hj hr)⟩
 have HY:=hide (grown_put hg5 x2)
 have HY1:=hide x1
 clear hFA hb5 kS5 cp x1 x2 hg5 HG3 HS3 y0 y1 y2
 go_wp2_with fail
 generalize (w5.setCell ⟨w.heap.size,0,none⟩ (.int .i64 71)).setCell ⟨w.heap.size,1,none⟩ (.int .i64 z3)=X at *
 obtain ⟨e1,_⟩:=blk_cells HY1.out
 have a0:=e1 0
 have a1:=e1 1
 refine bodyPost_ret (v:=.agg #[.int .i64 71,.int .i64 z3]) ?_ rfl ⟨rfl,HY.out⟩
 simp [results,Tryz.results149,go_sem,a0,a1]
def OpQ (w':World) (B:Nat) (a:Option Addr) (n c k:Nat) (len b:Int) (o:Nat) (f:Frm) (it ir:Int) (av:Value) (wd:Int) (z:TokT) (E P:Int):Prop :=
 if f.2.2.1≠(z.1 == 2) then E=41∧P=z.2.2 else if f.2.2.1=false then E=0∧P=0∧Rea w' B a n c (k+1) len b o f o it ir av wd
 else E=idP z.2.1 b∧P=fltA E z.2.2∧(E=0→Rea w' B a n c (k+1) len b o f o it (numV (strI z.2.1)) av wd)
theorem grown_bel {w w1 w2:World} {B:Nat} (h:w.grownBy w1 (some B)) (hb:Below w1.heap.size w1 w2):w.grownBy w2 (some B):=⟨hb.os.trans h.os,hb.tape.trans h.tape,hb.output.trans h.output,Nat.le_trans h.size hb.size,fun j hj hr=>(hb.block j (Nat.lt_of_lt_of_le hj h.size)).trans (h.block j hj hr)⟩
theorem grown_set {w w1:World} {B:Nat} (h:w.grownBy w1 (some B)) (i:Nat) (v:Value):w.grownBy (w1.setCell ⟨B,i,none⟩ v) (some B):=⟨h.os,h.tape,h.output,by simp only [World.setCell,Array.size_modify];exact h.size,fun j hj hr=>by
 have hne:B≠j:=fun e=>hr (by rw [e])
 simp only [World.setCell,Array.getElem?_modify,if_neg hne];exact h.block j hj hr⟩
theorem Rea.belowAt {w w':World} {B:Nat} {a:Option Addr} {n c k:Nat} {len b fo:Int} {f:Frm} {io it ir:Int} {av:Value} {wd:Int} {g:Nat} (h:Rea w B a n c k len b fo f io it ir av wd) (hb:Below g w w') (hg:B < g):Rea w' B a n c k len b fo f io it ir av wd:=Rea.mk ((hb.block _ hg).trans h.block)
theorem lt_ad8 (W:World):W.heap.size < (W.alloc (.cells #[.int .u8 0,.int .u32 0,.string ⟨#[]⟩] 87)).drew.heap.size:=by show _ < (W.alloc _).heap.size;simp
theorem argbox_b {W w8:World} {x0 x1 x2:Value} {T:Nat} (hb:Below (W.alloc (.cells #[x0,x1,x2] T)).drew.heap.size (W.alloc (.cells #[x0,x1,x2] T)).drew w8) (u0 u1 u2:Value):(((w8.setCell ⟨W.heap.size,0,none⟩ u0).setCell ⟨W.heap.size,1,none⟩ u1).setCell ⟨W.heap.size,2,none⟩ u2).heap[W.heap.size]?=some (.cells #[u0,u1,u2] T (0,0))∧Below W.heap.size W (((w8.setCell ⟨W.heap.size,0,none⟩ u0).setCell ⟨W.heap.size,1,none⟩ u1).setCell ⟨W.heap.size,2,none⟩ u2):=by
 have k8:w8.heap[W.heap.size]?=some (.cells #[x0,x1,x2] T (0,0)):=(hb.block _ (by show _ < (W.alloc _).heap.size;simp)).trans (heap_alloc_new W _)
 obtain ⟨a,b⟩:=arg_put k8 u0 u1 u2
 have h1:Below W.heap.size W (W.alloc (.cells #[x0,x1,x2] T)).drew:=((Below.refl _ W).alloc (Nat.le_refl _) _).drew
 exact ⟨a,(h1.trans (hb.mono h1.size)).trans b⟩
set_option maxHeartbeats 4000000 in
/-- The word names an operation. -/
theorem operation_some (B : Nat) (a : Option Addr) (n c k : Nat) (len b fo0 : Int) (f0 : Frm) (io0 it ir : Int) (av : Value) (wd : Int) (l : List TokT) (o : Nat) (w : World) (h : Rea w B a n c k len b fo0 f0 io0 it ir av wd) (hv : ToksV w a l) (hl : l.length = n) (hn : 32 * n ≤ 140737488351232) (hk : k < n) (hkd : (nthT l k).1 = 1) (hsz : (nthT l k).2.1.size ≤ 140737488351232) (hno : opsL.find? (namP (nthT l k).2.1) = some o) (hs0 : (nthT l 0).2.1.size ≤ 140737488351232) (hfar : ∀ g off, a = some ⟨g, off, none⟩ → g ≠ B) :
    Calls Tryz.prog 149 #[.pointer (some ⟨B, 0, none⟩)] w fun x w' => ∃ E P : Int, x = .returned (.agg #[.int .i64 E, .int .i64 P]) ∧ w.grownBy w' (some B) ∧ OpQ w' B a n c k len b o (opF o) it ir av wd (nthT l 0) E P := by
  obtain ⟨kS, hb⟩ := spot_box w
  have hC := take_ok B a n c k len _ _ l 1 _ (RowAt.below h hb) (hv.below hb) hl hn hk hkd
  have hNm := fun wx => named_any (nthT l k).2.1 wx hsz
  have e1 : namedB (nthT l k).2.1 = true := by unfold namedB; rw [hno]; rfl
  have e2 : namedV (nthT l k).2.1 = formV o (opF o) := by unfold namedV; rw [hno]
  rw [e1, e2] at hNm
  have hSy := fun (wx : World) (k' : Nat) (rest' : Array Value) (T' : Nat) (hx : RowAt wx B a n c k' len rest' T') (hvx : ToksV wx a l) => says_any B a n c k' len rest' T' l wx hx hvx hl (by omega)
  have hFA := fun (e : Int) wx => faultAt_any (nthT l 0) e wx
  have hId := fun wx => wantId_any 105 b (nthT l 0).2.1 wx hs0
  have hlt := Rea.lt h
  have HFAR : Hid (∀ j, j < n → ∃ g off, a = some ⟨g, off, none⟩ ∧ g < w.heap.size) := fun j hj => by
    obtain ⟨g, off, e, hg, _⟩ := hv j (by omega)
    exact ⟨g, off, e, hg⟩
  have HV := hide hv
  have HL := hide hl
  have HFB := hide hfar
  clear hfar
  have HN0 : Hid (0 < n) := by show 0 < n; omega
  obtain ⟨z, hz⟩ : ∃ z, z = nthT l k := ⟨_, rfl⟩
  rw [← hz] at hC hNm
  clear hz
  generalize hf : opF o = f at *
  obtain ⟨nm, ty, re, fx, rs, mo, pa⟩ := f
  unfold formV at hNm
  simp only at hNm ⊢
  obtain ⟨z1, z2, z3⟩ := z
  unfold tokV at hC
  simp only at hC hNm
  have HS := hide kS
  have HB := hide hb
  have HH := hide h
  clear kS hb h hv hl hn hk hkd hsz hno e1 e2 hs0
  go_enter Tryz.func149, Tryz.ntmps149
  go_wp2_with fail
  generalize w.alloc (.cells #[.int .i64 0, .int .i64 0] 28) = W at *
  refine hC.mono ?_
  rintro x w1 ⟨rfl, hR1, hg1⟩
  have sS := (Array.getElem?_eq_some_iff.1 HS.out).1
  have s1 : w.heap.size < w1.heap.size := Nat.lt_of_lt_of_le sS hg1.size
  have hba : Below w1.heap.size w1 ((w1.alloc (.cells #[.int .u8 z1, .string z2, .int .i64 z3] 41)).alloc (.cells #[.int .i64 0, .int .i64 0] 28)) := ((Below.refl _ w1).alloc (Nat.le_refl _) _).alloc (by simp) _
  have HS1 := hide ((hba.block _ s1).trans ((hg1.block _ sS (by simp; omega)).trans HS.out))
  have hg : w.grownBy ((w1.alloc (.cells #[.int .u8 z1, .string z2, .int .i64 z3] 41)).alloc (.cells #[.int .i64 0, .int .i64 0] 28)) (some B) :=
    ⟨hba.os.trans (hg1.os.trans HB.out.os), hba.tape.trans (hg1.tape.trans HB.out.tape), hba.output.trans (hg1.output.trans HB.out.output), Nat.le_trans HB.out.size (Nat.le_trans hg1.size hba.size), fun j hj hr => (hba.block j (by omega)).trans ((hg1.block j (Nat.lt_of_lt_of_le hj HB.out.size) hr).trans (HB.out.block j hj))⟩
  have HG := hide hg
  have kA : ((w1.alloc (.cells #[.int .u8 z1, .string z2, .int .i64 z3] 41)).alloc (.cells #[.int .i64 0, .int .i64 0] 28)).heap[w1.heap.size]? = some (.cells #[.int .u8 z1, .string z2, .int .i64 z3] 41 (0, 0)) := (Below.heap_alloc _ _ _ (by simp)).trans (heap_alloc_new w1 _)
  have HA := hide kA
  have sA : w1.heap.size < ((w1.alloc (.cells #[.int .u8 z1, .string z2, .int .i64 z3] 41)).alloc (.cells #[.int .i64 0, .int .i64 0] 28)).heap.size := by simp; omega
  have HR := hide (show Rea _ B a n c (k + 1) len b fo0 f0 io0 it ir av wd from RowAt.below hR1 hba)
  clear hC hR1 hg1 hba hg kA HS HB sS
  go_wp2_with fail
  generalize (w1.alloc (.cells #[.int .u8 z1, .string z2, .int .i64 z3] 41)).alloc (.cells #[.int .i64 0, .int .i64 0] 28) = W2 at *
  refine (hNm _).mono ?_
  rintro x w3 ⟨rfl, hb3⟩
  have s3 : w1.heap.size < w3.heap.size := Nat.lt_of_lt_of_le sA hb3.size
  have kA3 := (hb3.block _ sA).trans HA.out
  have kS3 := (hb3.block _ (by omega)).trans HS1.out
  obtain ⟨ca, _⟩ := blk_cells kA3
  have y0 := ca 0
  have y1 := ca 1
  have y2 := ca 2
  have hba : Below w3.heap.size w3 (w3.alloc (.cells #[.int .u16 (o : Int), .string nm, .bool ty, .bool re, .string fx, .string rs, .int .i64 mo, .int .u8 pa] 89)) := (Below.refl _ _).alloc (Nat.le_refl _) _
  have hb3a := hb3.trans (hba.mono hb3.size)
  have HS3 := hide ((hba.block _ (by omega)).trans kS3)
  have HA3 := hide ((hba.block _ s3).trans kA3)
  have HR3 := hide (HR.out.below hb3a)
  have HF3 := hide (heap_alloc_new w3 (.cells #[.int .u16 (o : Int), .string nm, .bool ty, .bool re, .string fx, .string rs, .int .i64 mo, .int .u8 pa] 89))
  have HG3 := hide (show w.grownBy (w3.alloc (.cells #[.int .u16 (o : Int), .string nm, .bool ty, .bool re, .string fx, .string rs, .int .i64 mo, .int .u8 pa] 89)) (some B) from ⟨hb3a.os.trans HG.out.os, hb3a.tape.trans HG.out.tape, hb3a.output.trans HG.out.output, Nat.le_trans HG.out.size hb3a.size, fun j hj hr => (hb3a.block j (Nat.lt_of_lt_of_le hj HG.out.size)).trans (HG.out.block j hj hr)⟩)
  have hsF : w3.heap.size < (w3.alloc (.cells #[.int .u16 (o : Int), .string nm, .bool ty, .bool re, .string fx, .string rs, .int .i64 mo, .int .u8 pa] 89)).heap.size := by simp
  clear hNm hb3 kA3 kS3 ca hba hb3a HA HS1 HG HR
  go_wp2_with fail
  generalize (w3.alloc (.cells #[.int .u16 (o : Int), .string nm, .bool ty, .bool re, .string fx, .string rs, .int .i64 mo, .int .u8 pa] 89)) = W4 at *
  obtain ⟨cr, fr⟩ := blk_cells HR3.out.block
  obtain ⟨cd, _⟩ := blk_cells HF3.out
  have r4 : W4.cell? ⟨B, 4, none⟩ = some (.int .u16 fo0) := cr 4
  have r5 : W4.cell? ⟨B, 5, none⟩ = some (.string f0.1) := cr 5
  have r6 : W4.cell? ⟨B, 6, none⟩ = some (.bool f0.2.1) := cr 6
  have r7 : W4.cell? ⟨B, 7, none⟩ = some (.bool f0.2.2.1) := cr 7
  have r8 : W4.cell? ⟨B, 8, none⟩ = some (.string f0.2.2.2.1) := cr 8
  have r9 : W4.cell? ⟨B, 9, none⟩ = some (.string f0.2.2.2.2.1) := cr 9
  have r10 : W4.cell? ⟨B, 10, none⟩ = some (.int .i64 f0.2.2.2.2.2.1) := cr 10
  have r11 : W4.cell? ⟨B, 11, none⟩ = some (.int .u8 f0.2.2.2.2.2.2) := cr 11
  have r12 : W4.cell? ⟨B, 12, none⟩ = some (.int .u16 io0) := cr 12
  have d0 := cd 0
  have d1 := cd 1
  have d2 := cd 2
  have d3 := cd 3
  have d4 := cd 4
  have d5 := cd 5
  have d6 := cd 6
  have d7 := cd 7
  have nB : B ≠ w3.heap.size := by omega
  have nB2 : w3.heap.size ≠ B := by omega
  clear cr cd y0 y1 y2
  go_region
  have HF4 := hide ((formW_far W4 B o (nm, ty, re, fx, rs, mo, pa) (by omega)).trans HF3.out)
  have HS4 := hide ((formW_far W4 B o (nm, ty, re, fx, rs, mo, pa) (by omega)).trans HS3.out)
  have HR4 := hide (formW_rd HR3.out o (nm, ty, re, fx, rs, mo, pa))
  have HG4 := hide (formW_grown o (nm, ty, re, fx, rs, mo, pa) HG3.out)
  have hs4 := formW_size W4 B o (nm, ty, re, fx, rs, mo, pa)
  have HSZ4 : Hid (w3.heap.size < (formW W4 B o (nm, ty, re, fx, rs, mo, pa)).heap.size) := by show _ < _; rw [hs4]; exact hsF
  have hV4 : ToksV (formW W4 B o (nm, ty, re, fx, rs, mo, pa)) a l := by
    intro j hj
    obtain ⟨g, off, e, hg, q1, q2, q3⟩ := HV.out j hj
    have hx : (formW W4 B o (nm, ty, re, fx, rs, mo, pa)).heap[g]? = w.heap[g]? := (formW_far W4 B o _ (HFB.out g off e)).trans (HG3.out.block g hg (by simpa using HFB.out g off e))
    refine ⟨g, off, e, by rw [hs4]; have := HG3.out.size; omega, ?_, ?_, ?_⟩
    · simp only [World.cell?, hx] at q1 ⊢; exact q1
    · simp only [World.cell?, hx] at q2 ⊢; exact q2
    · simp only [World.cell?, hx] at q3 ⊢; exact q3
  have HV4 := hide hV4
  unfold formW at HF4 HS4 HR4 HG4 HSZ4 HV4
  simp only at HF4 HS4 HR4 HG4 HSZ4 HV4
  clear r4 r5 r6 r7 r8 r9 r10 r11 r12 d0 d1 d2 d3 d4 d5 d6 d7 fr hs4 hV4 HF3 HS3 HR3 HG3 HV HFAR
  generalize (((((((((W4.setCell ⟨B, 4, none⟩ (.int .u16 (o : Int))).setCell ⟨B, 5, none⟩ (.string nm)).setCell ⟨B, 6, none⟩ (.bool ty)).setCell ⟨B, 7, none⟩ (.bool re)).setCell ⟨B, 8, none⟩ (.string fx)).setCell ⟨B, 9, none⟩ (.string rs)).setCell ⟨B, 10, none⟩ (.int .i64 mo)).setCell ⟨B, 11, none⟩ (.int .u8 pa)).setCell ⟨B, 12, none⟩ (.int .u16 (o : Int))).drew = W5 at *
  obtain ⟨c0, c1, c2, cf⟩ := RowAt.cells HR4.out
  obtain ⟨g1, o1, rfl, hg1, t1, t2, t3⟩ := HV4.out 0 (by rw [HL.out]; exact HN0.out)
  simp only [Nat.zero_mul, Nat.add_zero] at t1 t2 t3
  have hn0 : (0 : Int) < (n : Int) := by have := HN0.out; omega
  have hSy4 := fun (wx : World) (hb : Below W5.heap.size W5 wx) => hSy wx (k + 1) _ _ (RowAt.below HR4.out hb) (HV4.out.below hb)
  have HSY := hide hSy4
  clear hSy hSy4
  obtain ⟨y, hy⟩ : ∃ y, y = nthT l 0 := ⟨_, rfl⟩
  rw [← hy] at t1 t2 t3 hFA hId HSY
  have HY0 := hide hy
  clear hy
  obtain ⟨y1, y2, y3⟩ := y
  unfold tokV at hFA
  simp only at t1 t2 t3 hFA hId HSY
  have hbT : Below W5.heap.size W5 (W5.alloc (.cells #[.int .u8 y1, .string y2, .int .i64 y3] 41)) := (Below.refl _ _).alloc (Nat.le_refl _) _
  have sF5 := HSZ4.out
  have kF6 := (hbT.block _ sF5).trans HF4.out
  have HF6 := hide kF6
  have HS6 := hide ((hbT.block _ (by omega)).trans HS4.out)
  have HR6 := hide (HR4.out.below hbT)
  have HT6 := hide (heap_alloc_new W5 (.cells #[.int .u8 y1, .string y2, .int .i64 y3] 41))
  have HG6 := hide (show w.grownBy (W5.alloc (.cells #[.int .u8 y1, .string y2, .int .i64 y3] 41)) (some B) from ⟨hbT.os.trans HG4.out.os, hbT.tape.trans HG4.out.tape, hbT.output.trans HG4.out.output, Nat.le_trans HG4.out.size hbT.size, fun j hj hr => (hbT.block j (Nat.lt_of_lt_of_le hj HG4.out.size)).trans (HG4.out.block j hj hr)⟩)
  have HBT := hide hbT
  clear hbT kF6
  go_wp2_with fail
  generalize W5.alloc (.cells #[.int .u8 y1, .string y2, .int .i64 y3] 41) = W6 at *
  obtain ⟨cd, _⟩ := blk_cells HF6.out
  have d3 := cd 3
  clear c0 c1 c2 cf t1 t2 t3 cd
  have hSq := fun q => HSY.out (W6.drewN q) (HBT.out.trans ((bel_drewN (Below.refl W6.heap.size W6) q).mono HBT.out.size))
  go_quiet ((go_at_call 148; exact Calls.quiet_of_same ((hSq _).mono fun _ _ h => ⟨h.1, h.2.symm⟩)))
  have hbq : Below W6.heap.size W6 (W6.drewN nq) := bel_drewN (Below.refl _ W6) nq
  have HT7 := hide ((hbq.block _ (Array.getElem?_eq_some_iff.1 HT6.out).1).trans HT6.out)
  have HS7 := hide ((hbq.block _ (Array.getElem?_eq_some_iff.1 HS6.out).1).trans HS6.out)
  have HF7 := hide ((hbq.block _ (Array.getElem?_eq_some_iff.1 HF6.out).1).trans HF6.out)
  have HR7 := hide (HR6.out.below hbq)
  have HG7 := hide (grown_bel HG6.out hbq)
  clear hbq hSq d3 HT6 HS6 HF6 HR6 HG6 HSY HBT
  generalize W6.drewN nq = W7 at *
  have sS7 := (Array.getElem?_eq_some_iff.1 HS7.out).1
  have sT7 := (Array.getElem?_eq_some_iff.1 HT7.out).1
  obtain ⟨cu, _⟩ := blk_cells HT7.out
  have u0 := cu 0
  have u1 := cu 1
  have u2 := cu 2
  obtain ⟨cd, _⟩ := blk_cells HF7.out
  have d3 := cd 3
  clear cu cd
  generalize hsb : (y1 == 2) = sb
  cases re <;> cases sb
  · obtain ⟨cp, fp⟩ := blk_cells HS7.out
    have p0 := cp 0
    have p1 := cp 1
    obtain ⟨x1, x2⟩ := two_putB HS7.out (.int .i64 0) (.int .i64 0)
    have HY := hide (grown_put HG7.out x2)
    have HY1 := hide x1
    have HY2 := hide (HR7.out.belowAt x2 hlt)
    clear hFA cp x1 x2 u0 u1 u2
    go_wp2_with fail
    generalize (W7.setCell ⟨w.heap.size, 0, none⟩ (.int .i64 0)).setCell ⟨w.heap.size, 1, none⟩ (.int .i64 0) = X at *
    obtain ⟨e1, _⟩ := blk_cells HY1.out
    have a0 := e1 0
    have a1 := e1 1
    refine bodyPost_ret (v := .agg #[.int .i64 0, .int .i64 0]) ?_ rfl ⟨0, 0, rfl, HY.out, by rw [← HY0.out]; unfold OpQ; simp [hsb]; exact HY2.out⟩
    simp [results, Tryz.results149, go_sem, a0, a1]
  · have hF1 := hFA 41
    rw [show fltA 41 y3 = y3 by unfold fltA; simp] at hF1
    go_wp2_with fail
    refine (hF1 _).mono ?_
    rintro x w8 ⟨rfl, hb8⟩
    have kS8 := (hb8.block _ sS7).trans HS7.out
    obtain ⟨cp, fp⟩ := blk_cells kS8
    have p0 := cp 0
    have p1 := cp 1
    obtain ⟨x1, x2⟩ := two_putB kS8 (.int .i64 41) (.int .i64 y3)
    have HY := hide (grown_put (grown_bel HG7.out hb8) x2)
    have HY1 := hide x1
    clear hFA hF1 hb8 kS8 cp x1 x2 u0 u1 u2 d3
    go_wp2_with fail
    generalize (w8.setCell ⟨w.heap.size, 0, none⟩ (.int .i64 41)).setCell ⟨w.heap.size, 1, none⟩ (.int .i64 y3) = X at *
    obtain ⟨e1, _⟩ := blk_cells HY1.out
    have a0 := e1 0
    have a1 := e1 1
    refine bodyPost_ret (v := .agg #[.int .i64 41, .int .i64 y3]) ?_ rfl ⟨41, y3, rfl, HY.out, by rw [← HY0.out]; unfold OpQ; simp [hsb]⟩
    simp [results, Tryz.results149, go_sem, a0, a1]
  · have hF1 := hFA 41
    rw [show fltA 41 y3 = y3 by unfold fltA; simp] at hF1
    go_wp2_with fail
    refine (hF1 _).mono ?_
    rintro x w8 ⟨rfl, hb8⟩
    have kS8 := (hb8.block _ sS7).trans HS7.out
    obtain ⟨cp, fp⟩ := blk_cells kS8
    have p0 := cp 0
    have p1 := cp 1
    obtain ⟨x1, x2⟩ := two_putB kS8 (.int .i64 41) (.int .i64 y3)
    have HY := hide (grown_put (grown_bel HG7.out hb8) x2)
    have HY1 := hide x1
    clear hFA hF1 hb8 kS8 cp x1 x2 u0 u1 u2 d3
    go_wp2_with fail
    generalize (w8.setCell ⟨w.heap.size, 0, none⟩ (.int .i64 41)).setCell ⟨w.heap.size, 1, none⟩ (.int .i64 y3) = X at *
    obtain ⟨e1, _⟩ := blk_cells HY1.out
    have a0 := e1 0
    have a1 := e1 1
    refine bodyPost_ret (v := .agg #[.int .i64 41, .int .i64 y3]) ?_ rfl ⟨41, y3, rfl, HY.out, by rw [← HY0.out]; unfold OpQ; simp [hsb]⟩
    simp [results, Tryz.results149, go_sem, a0, a1]
  · have hbd := ReadAt.bound HR7.out
    obtain ⟨ar, har⟩ : ∃ ar : ArgT, ar = if idP y2 b = 0 then (1, numV (strI y2), ⟨#[]⟩) else noArg := ⟨_, rfl⟩
    have hq : idP y2 b = 0 → ar.2.1 = numV (strI y2) := fun e => by rw [har, if_pos e]
    rw [← har] at hId
    have HQ := hide hq
    clear har hq
    obtain ⟨q0, q1, q2⟩ := ar
    unfold argV at hId
    simp only at hId
    have sB7 : B < W7.heap.size := HR7.out.lt
    have frB : ∀ i, W7.frozen? ⟨B, i, none⟩ = false := (blk_cells HR7.out.block).2
    go_wp2_with fail
    go_region_with ((go_at_call 164; first | (refine (hId _).mono ?_; rintro x w8 ⟨rfl, hb8⟩; have v0 := hb8.cell (p := ⟨W7.heap.size, 0, none⟩) (lt_ad8 W7); have v1 := hb8.cell (p := ⟨W7.heap.size, 1, none⟩) (lt_ad8 W7); have v2 := hb8.cell (p := ⟨W7.heap.size, 2, none⟩) (lt_ad8 W7); have v3 := hb8.frozen (p := ⟨W7.heap.size, 0, none⟩) (lt_ad8 W7); have v4 := hb8.frozen (p := ⟨W7.heap.size, 1, none⟩) (lt_ad8 W7); have v5 := hb8.frozen (p := ⟨W7.heap.size, 2, none⟩) (lt_ad8 W7); have HB8 := hide hb8) | (refine (hId _).mono ?_; rintro x w8 ⟨rfl, hb8⟩; have HB8 := hide hb8)))
    all_goals
      first
        | (obtain ⟨kX, hbX⟩ := argbox_b HB8.out (.int .u8 q0) (.int .u32 q1) (.string q2); clear HB8 hb8 v0 v1 v2 v3 v4 v5; generalize ((w8.setCell ⟨W7.heap.size, 0, none⟩ (.int .u8 q0)).setCell ⟨W7.heap.size, 1, none⟩ (.int .u32 q1)).setCell ⟨W7.heap.size, 2, none⟩ (.string q2) = X at *; obtain ⟨MB, hMB⟩ : ∃ MB, MB = W7.heap.size := ⟨_, rfl⟩; have hM : W7.heap.size ≤ MB := by omega
           rw [← hMB] at kX ⊢; clear hMB)
        | (have hb9 : Below W7.drew.heap.size W7.drew w8 := HB8.out; have hbX := ((below_drew W7).trans hb9).alloc hb9.size (.cells #[.int .u8 q0, .int .u32 q1, .string q2] 87); have kX := heap_alloc_new w8 (.cells #[.int .u8 q0, .int .u32 q1, .string q2] 87); have hM : W7.heap.size ≤ w8.heap.size := hb9.size; clear hb8 hb9 HB8; generalize w8.alloc (.cells #[.int .u8 q0, .int .u32 q1, .string q2] 87) = X at *; generalize w8.heap.size = MB at *)
      have kT := (hbX.block _ sT7).trans HT7.out
      have kS := (hbX.block _ sS7).trans HS7.out
      have hR := HR7.out.below hbX
      have hG := grown_bel HG7.out hbX
      have nT : B ≠ W5.heap.size := by omega
      have nT2 : W5.heap.size ≠ B := by omega
      have nS : B ≠ w.heap.size := by omega
      have b14 : X.cell? ⟨B, 14, none⟩ = some (.int .u32 ir) := (blk_cells hR.block).1 14
      have f14 : X.frozen? ⟨B, 14, none⟩ = false := (blk_cells hR.block).2 14
      have m1 : X.cell? ⟨MB, 1, none⟩ = some (.int .u32 q1) := (blk_cells kX).1 1
      obtain ⟨cu, _⟩ := blk_cells kT
      have k0 := cu 0
      have k1 := cu 1
      have k2 := cu 2
      have HR9 := hide (hR.setResult q1)
      have HG9 := hide (grown_set hG 14 (.int .u32 q1))
      have hS9 : (X.setCell ⟨B, 14, none⟩ (.int .u32 q1)).heap[w.heap.size]? = some (.cells #[.int .i64 0, .int .i64 0] 28 (0, 0)) := by
        simp only [World.setCell, Array.getElem?_modify, if_neg nS]; exact kS
      have HS9 := hide hS9
      clear hbX kX cu kT kS hR hG hS9 hbd frB d3 u0 u1 u2 hId
      go_wp2_with fail
      generalize X.setCell ⟨B, 14, none⟩ (.int .u32 q1) = Y at *
      refine (hFA _ _).mono ?_
      rintro x w9 ⟨rfl, hb9⟩
      generalize hE : idP y2 b = E at *
      generalize hP : fltA E y3 = PP at *
      have kS9 := (hb9.block _ (Array.getElem?_eq_some_iff.1 HS9.out).1).trans HS9.out
      obtain ⟨cp, fp⟩ := blk_cells kS9
      have p0 := cp 0
      have p1 := cp 1
      obtain ⟨x1, x2⟩ := two_putB kS9 (.int .i64 E) (.int .i64 PP)
      have HY := hide (grown_put (grown_bel HG9.out hb9) x2)
      have HY1 := hide x1
      have HY2 := hide ((HR9.out.below hb9).belowAt x2 hlt)
      clear hFA hb9 kS9 cp x1 x2 k0 k1 k2 b14 f14 m1
      go_wp2_with fail
      generalize (w9.setCell ⟨w.heap.size, 0, none⟩ (.int .i64 E)).setCell ⟨w.heap.size, 1, none⟩ (.int .i64 PP) = Z at *
      obtain ⟨e1, _⟩ := blk_cells HY1.out
      have a0 := e1 0
      have a1 := e1 1
      refine bodyPost_ret (v := .agg #[.int .i64 E, .int .i64 PP]) ?_ rfl ⟨E, PP, rfl, HY.out, ?_⟩
      · simp [results, Tryz.results149, go_sem, a0, a1]
      · rw [← HY0.out]
        unfold OpQ
        rw [if_neg (by simp [hsb]), if_neg (by simp)]
        refine ⟨hE.symm, hP.symm, fun h0 => ?_⟩
        rw [← HQ.out h0]
        exact HY2.out
def ResOk (o:Nat) (r b:Int):Prop:=(lookF refT o).2=true∧o < 65536∧idE (opF o).2.2.1 r b 41=0∧0≤r∧r < 4294967296
def OpA (w':World) (B:Nat) (a:Option Addr) (n c k:Nat) (len b:Int) (it:Int) (av:Value) (wd:Int) (l:List TokT) (E P:Int):Prop :=
 (E≠0∧lineO ((nthT l 0).1 == 2) l k len b=noLine E P) ∨
 (E=0∧k < n∧∃ (o:Nat) (r:Int),lineO ((nthT l 0).1 == 2) l k len b=lineT o (opF o) r l (k+1) len b∧ResOk o r b∧Rea w' B a n c (k+1) len b o (opF o) o it r av wd)
theorem operation_any (B:Nat) (a:Option Addr) (n c k:Nat) (len b fo0:Int) (f0:Frm) (io0 it:Int) (av:Value) (wd:Int) (l:List TokT) (w:World) (h:Rea w B a n c k len b fo0 f0 io0 it 0 av wd) (hv:ToksV w a l) (hl:l.length=n) (hn:32 * n≤140737488351232) (hin:ToksIn l) (hk:k≤n) (h0:0 < n) (hfar:∀ g off,a=some ⟨g,off,none⟩→g≠B) :
  Calls Tryz.prog 149 #[.pointer (some ⟨B,0,none⟩)] w fun x w'=>∃ E P:Int,x=.returned (.agg #[.int .i64 E,.int .i64 P])∧w.grownBy w' (some B)∧OpA w' B a n c k len b it av wd l E P:=by
 by_cases h1:n≤k
 ·obtain rfl:k=n:=by omega
  refine (operation_bad B w 72 len (by decide) fun wx hb=>take_early B a k c len _ _ 1 wx (RowAt.below h hb)).mono ?_
  rintro x w' ⟨rfl,hb⟩
  exact ⟨72,len,rfl,grown_below2 hb _,.inl ⟨by decide,by unfold lineO;rw [if_pos (by omega)]⟩⟩
 ·have hlk:¬ l.length≤k:=by omega
  by_cases h2:(nthT l k).1=1
  ·have s1:=(hin k (by omega)).2.2.1
   have s0:=(hin 0 (by omega)).2.2.1
   cases ho:opsL.find? (namP (nthT l k).2.1) with
   | none =>
    refine (operation_none B a n c k len _ _ l w h hv hl hn (by omega) h2 s1 ho).mono ?_
    rintro x w' ⟨rfl,hg⟩
    refine ⟨71,_,rfl,hg,.inl ⟨by decide,?_⟩⟩
    unfold lineO
    rw [if_neg hlk,if_neg (by omega),ho]
   | some o =>
    refine (operation_some B a n c k len b fo0 f0 io0 it 0 av wd l o w h hv hl hn (by omega) h2 s1 ho s0 hfar).mono ?_
    rintro x w' ⟨E,P,rfl,hg,hq⟩
    refine ⟨E,P,rfl,hg,?_⟩
    unfold OpQ at hq
    unfold OpA lineO
    rw [if_neg hlk,if_neg (by omega),ho]
    simp only
    by_cases h3:(opF o).2.2.1=((nthT l 0).1 == 2)
    ·rw [if_neg (by simp [h3])] at hq
     rw [if_neg (by simp [h3])]
     by_cases h4:(opF o).2.2.1=false
     ·rw [if_pos h4] at hq
      obtain ⟨rfl,rfl,hR⟩:=hq
      rw [← h3,h4]
      exact .inr ⟨rfl,by omega,o,0,by simp,⟨(op_known ho).1,(op_known ho).2,by rw [h4];simp [idE],by omega,by omega⟩,hR⟩
     ·rw [if_neg h4] at hq
      obtain ⟨rfl,rfl,hR⟩:=hq
      have h5:((nthT l 0).1 == 2)=true:=by rw [← h3];simpa using h4
      rw [h5]
      by_cases h6:idP (nthT l 0).2.1 b=0
      ·obtain ⟨q1,q2,q3,q4⟩:=idP_zero h6
       have q5:=num_bounds q1
       exact .inr ⟨h6,by omega,o,_,by simp [h6],⟨(op_known ho).1,(op_known ho).2,by rw [h3,h5];exact idE_none q2,q5.1,q5.2⟩,hR h6⟩
      ·refine .inl ⟨h6,?_⟩
       rw [if_pos ⟨rfl,h6⟩]
       unfold fltA;rw [if_neg h6]
    ·rw [if_pos h3] at hq
     obtain ⟨rfl,rfl⟩:=hq
     exact .inl ⟨by decide,by rw [if_pos h3]⟩
  ·refine (operation_bad B w 70 (nthT l k).2.2 (by decide) fun wx hb=>take_wrong B a n c k len _ _ l 1 wx (RowAt.below h hb) (hv.below hb) hl hn (by omega) h2).mono ?_
   rintro x w' ⟨rfl,hb⟩
   exact ⟨70,_,rfl,grown_below2 hb _,.inl ⟨by decide,by unfold lineO;rw [if_neg hlk,if_pos h2]⟩⟩
end Go.Proofs.YtddkapkkjhomkabGreatDoor
