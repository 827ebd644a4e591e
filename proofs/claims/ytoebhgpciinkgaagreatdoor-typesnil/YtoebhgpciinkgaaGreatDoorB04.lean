/-
  Texts in one: GrammarEnum, Ref04Small, CodeForm, MathS, MathFit, Append, AppendView, CodeAdd, WordsAtPlace, StringsIndexByte, WordsOfText, CodePut.
-/
import Derived.Test.YtoebhgpciinkgaaGreatDoorB03
import Derived.Lib.Bytealg
import Derived.Lib.IndexLaws
import Derived.Laws.Append
namespace Go.Proofs.YtoebhgpciinkgaaGreatDoor
open Go.RowKit Go.Shelf
set_option maxRecDepth 10000
attribute [local go_sem] Oper.semAt_some
set_option linter.unusedVariables false
set_option linter.unusedSimpArgs false

theorem find_pairs (c:Int) (p:Int×ByteArray→Bool):(enumsL c).find? p=(namesT.find? (fun y=>isLet c y && p y.2)).map (·.2):=by
 unfold enumsL
 rw [List.find?_map,List.find?_filter]
 simp [Bool.decide_and]
theorem enum_list {c n:Int} (h:(enumsL c).find? (fun x=>x.1==n)=none):enumS c n=⟨#[]⟩∧enumB c n=false:=by
 rw [find_pairs] at h
 have e:namesT.find? (isNum c n)=none:=by simpa [isNum,isLet] using h
 simp [enumS,enumB,e]
theorem enum_list_some {c n:Int} {x:Int×ByteArray} (h:(enumsL c).find? (fun x=>x.1==n)=some x):enumS c n=x.2∧enumB c n=true:=by
 rw [find_pairs] at h
 obtain⟨y,hy,e⟩:=Option.map_eq_some_iff.1 h
 have hy:namesT.find? (isNum c n)=some y:=hy
 subst e
 simp [enumS,enumB,hy]
def EnumI (n:Int) (w:World) (pre:List (Int×ByteArray)) (W:World):Prop :=
 (Below w.heap.size w W∧w.heap.size+4≤W.heap.size)∧W.heap[w.heap.size]?=some (.cells #[.int .u32 n] 22 (0,0))∧W.heap[w.heap.size+1]?=some (.cells #[.string ⟨#[]⟩] 9 (0,0))∧W.heap[w.heap.size+2]?=some (.cells #[.bool false] 4 (0,0))∧∀ x∈pre,(x.1==n)=false
def EnumX (n:Int) (w:World) (c:Code) (pre:List (Int×ByteArray)) (W:World):Prop :=
 c=.ret∧(Below w.heap.size w W∧w.heap.size+4≤W.heap.size)∧∃ (pre':List (Int×ByteArray)) (x:Int×ByteArray),pre=pre'++[x]∧(∀ x∈pre',(x.1==n)=false)∧(x.1==n)=true ∧
  W.heap[w.heap.size+1]?=some (.cells #[.string x.2] 9 (0,0))∧W.heap[w.heap.size+2]?=some (.cells #[.bool true] 4 (0,0))
theorem EnumI_own (n:Int) (w:World):OwnFrom (w.heap.size+4) (EnumI n w):=by
 rintro pre W W' row ⟨h1,h2,h3,h4,h5⟩ hg hr
 exact⟨⟨belowStay h1.1 (Nat.le_refl _) (by omega) hg hr,Nat.le_trans h1.2 hg.size⟩,cellsStay h2 hg hr,cellsStay h3 hg hr,cellsStay h4 hg hr,h5⟩
theorem EnumX_own (n:Int) (w:World) (c:Code):OwnFrom (w.heap.size+4) (EnumX n w c):=by
 rintro pre W W' row ⟨h0,h1,pre',x,h2,h3,h4,h5,h6⟩ hg hr
 exact⟨h0,⟨belowStay h1.1 (Nat.le_refl _) (by omega) hg hr,Nat.le_trans h1.2 hg.size⟩,pre',x,h2,h3,h4,cellsStay h5 hg hr,cellsStay h6 hg hr⟩
set_option maxRecDepth 100000 in
set_option maxHeartbeats 4000000 in
theorem enum_any (c:Int) (n:Int) (w:World):Calls Tryz.prog 82 #[.int .u8 c,.int .u32 n] w fun e w'=>e=.returned (.tuple #[.string (enumS c n),.bool (enumB c n)])∧Below w.heap.size w w':=by
 refine (callsIn_wide (n:=0)).1 ?_
 refine callsIn_of_wp_marks Tryz.func82 rfl trivial ?_ rfl
 simp only [Tryz.ntmps82,List.size_toArray,List.length_cons,List.length_nil,Nat.reduceAdd,Nat.reduceSub,Array.replicate_succ,Array.replicate_zero,List.push_toArray,List.append_toArray,List.nil_append,List.cons_append]
 gi_wp2_with fail
 refine⟨trivial,rfl,(callsIn_wide.2 (enums_any c _)).mono ?_⟩
 rintro e w2 ⟨rfl,rfl⟩
 obtain⟨wL,hwL⟩:∃ X,X=((((w.alloc (.cells #[.int .u32 n] 22)).alloc (.cells #[.string ⟨#[]⟩] 9)).alloc (.cells #[.bool false] 4)).alloc (.cells #[.int .u8 c] 5)):=⟨_,rfl⟩
 have hsL:wL.heap.size=w.heap.size+4:=by rw [hwL];simp
 have hbL:Below w.heap.size w wL:=by rw [hwL];exact (((((Below.refl _ w).alloc (Nat.le_refl _) _).alloc (by simp) _).alloc (by simp;omega) _).alloc (by simp;omega) _)
 have k0:wL.heap[w.heap.size]?=some (.cells #[.int .u32 n] 22 (0,0)):=by rw [hwL];exact allocOld (allocOld (allocOld (allocNew w _ rfl) _) _) _
 have k1:wL.heap[w.heap.size+1]?=some (.cells #[.string ⟨#[]⟩] 9 (0,0)):=by rw [hwL];exact allocOld (allocOld (allocNew _ _ (by simp)) _) _
 have k2:wL.heap[w.heap.size+2]?=some (.cells #[.bool false] 4 (0,0)):=by rw [hwL];exact allocOld (allocNew _ _ (by simp)) _
 have k3:wL.heap[w.heap.size+3]?=some (.cells #[.int .u8 c] 5 (0,0)):=by rw [hwL];exact allocNew _ _ (by simp)
 gi_wp2_with fail
 rw [← hwL]
 clear hwL
 simp only [Nat.add_assoc,Nat.reduceAdd]
 refine wp_tells rfl (enters_of Tryz.func127 (by kernel_rfl) rfl) (enums_tells c w.heap.size (fun _=>False) wL (w.heap.size+3) k3) (by omega) (fun _=>rfl)
  (EnumI n w) (EnumX n w) (by rw [hsL];exact EnumI_own n w) (fun c=>by rw [hsL];exact EnumX_own n w c)
  ⟨⟨hbL,by omega⟩,k0,k1,k2,fun q hq=>by simp at hq⟩
  (fun pre x a' W=>a'={ tmps:=#[.int .u8 c,.int .u32 n,undef,.pointer (some ⟨w.heap.size,0,none⟩),.pointer (some ⟨w.heap.size+1,0,none⟩),.pointer (some ⟨w.heap.size+2,0,none⟩),.int .u32 x.1,.string x.2,.int .u8 c,.func (.func 127) #[] #[.pointer (some ⟨w.heap.size+3,0,none⟩)],.int .u32 x.1,.string x.2,undef,undef,undef,undef],defers:=[] })
  ?hAx ?assign ?body ?done ?stop
 case hAx =>
  rintro pre x a' s W W' row h hg hr
  exact h
 case assign =>
  rintro l pre x W K hI hV hK
  simp only [enumV]
  gi_wp2
  exact hK _ _ (KeepsFrom.refl _ _) (Kept.refl _ _ _) hI rfl
 case body =>
  rintro l pre x a' W hl' ⟨r,hr⟩ ⟨⟨h1,hlt⟩,h2,h3,h4,h6⟩ rfl
  obtain⟨c0,_⟩:=oneCell h2
  obtain⟨c2,f2⟩:=oneCell h3
  obtain⟨c3,f3⟩:=oneCell h4
  have go:(x.1==n)=false→KeepsFrom wL.heap.size W W∧Kept w.heap.size (fun _=>False) W W∧EnumI n w (pre++[x]) W:=fun hno =>
   ⟨KeepsFrom.refl _ _,Kept.refl _ _ _,⟨h1,hlt⟩,h2,h3,h4,fun q hq=>by
    rcases List.mem_append.1 hq with h | h
    ·exact h6 q h
    ·simp at h;subst h;exact hno⟩
  have out:(x.1==n)=true→KeepsFrom wL.heap.size W ((W.setCell ⟨w.heap.size+1,0,none⟩ (.string x.2)).setCell ⟨w.heap.size+2,0,none⟩ (.bool true))∧EnumX n w .ret (pre++[x]) ((W.setCell ⟨w.heap.size+1,0,none⟩ (.string x.2)).setCell ⟨w.heap.size+2,0,none⟩ (.bool true)):=fun hyes =>
   ⟨((KeepsOthers.setCell _ _ _).trans (KeepsOthers.setCell _ _ _)).from _,rfl,⟨(h1.setCell (by simp) _).setCell (by simp) _,by simpa [World.setCell] using hlt⟩,pre,x,rfl,h6,hyes,setFar (oneSet h3 _) (by omega) _ _,oneSet (setFar h4 (by omega) _ _) _⟩
  clear h2 h3 h4 h6 h1
  cases hoe:(x.1==n) with
  | true =>
   have hyes:=out hoe
   clear go out
   gi_wp2
   first | exact hyes | (rw [hsL] at hyes;exact hyes)
  | false =>
   have hno:=go hoe
   clear go out
   gi_wp2
   first | exact hno | (rw [hsL] at hno;exact hno)
 case done =>
  rintro D xs W hD rfl ⟨⟨h1,hlt⟩,h2,h3,h4,h6⟩ hK
  have hnone:(enumsL c).find? (fun x=>(x.1==n))=none:=List.find?_eq_none.2 (fun q hq=>by rw [h6 q hq];simp)
  obtain⟨c2,f2⟩:=oneCell h3
  obtain⟨c3,f3⟩:=oneCell h4
  obtain⟨Y,hY⟩:∃ Y,Y=(W.setCell ⟨w.heap.size+1,0,none⟩ (.string ⟨#[]⟩)).setCell ⟨w.heap.size+2,0,none⟩ (.bool false):=⟨_,rfl⟩
  have hKY:Y.heap[D]?=some (.deferred (some [])):=by rw [hY];exact ((KeepsOthers.setCell _ _ _).trans (KeepsOthers.setCell _ _ _)).same D _ hK rfl
  have hbY:Below w.heap.size w Y:=by rw [hY];exact (h1.setCell (by simp) _).setCell (by simp) _
  have y2:Y.heap[w.heap.size+1]?=some (.cells #[.string ⟨#[]⟩] 9 (0,0)):=by rw [hY];exact setFar (oneSet h3 _) (by omega) _ _
  have y3:Y.heap[w.heap.size+2]?=some (.cells #[.bool false] 4 (0,0)):=by rw [hY];exact oneSet (setFar h4 (by omega) _ _) _
  have hput:=grownBy_putObj' Y D (.deferred none)
  have hpr:∀ r,some D=some r→∃ o:Obj,Y.heap[r]?=some o∧o.isCells=false:=fun r e=>by cases e;exact⟨_,hKY,rfl⟩
  have r0:=cell_kept (W:=Y) (oneCell y2).1 hput hpr
  have r1:=cell_kept (W:=Y) (oneCell y3).1 hput hpr
  have hbE:Below w.heap.size w (Y.putObj D (.deferred none)):=hbY.trans (belowK_b (w:=w) (Nat.le_refl _) Y D _ _ (by omega) hKY rfl rfl)
  clear h1 h2 h3 h4 h6 y2 y3 hput hpr hbY
  gi_wp2_with fail
  rw [← hY]
  refine⟨by simp,.inl ⟨_,_,rfl,run_takeDeferred hKY,?_⟩⟩
  exact⟨.tuple #[.string ⟨#[]⟩,.bool false],by simp [results,Tryz.results82,go_sem,r0,r1],by rw [(enum_list hnone).1,(enum_list hnone).2],hbE⟩
 case stop =>
  rintro D c' pre W hD hpre ⟨rfl,⟨h1,hlt⟩,pre',x,rfl,h3,h4,h5,h6⟩ hK
  have hsome:(enumsL c).find? (fun x=>(x.1==n))=some x:=by
   obtain⟨s,hs⟩:=hpre
   rw [← hs,List.append_assoc,List.find?_append,List.find?_eq_none.2 (fun q hq=>by rw [h3 q hq];simp)]
   simp [h4]
  have hput:=grownBy_putObj' W D (.deferred none)
  have hpr:∀ r,some D=some r→∃ o:Obj,W.heap[r]?=some o∧o.isCells=false:=fun r e=>by cases e;exact⟨_,hK,rfl⟩
  have r0:=cell_kept (W:=W) (oneCell h5).1 hput hpr
  have r1:=cell_kept (W:=W) (oneCell h6).1 hput hpr
  have hbE:Below w.heap.size w (W.putObj D (.deferred none)):=h1.trans (belowK_b (w:=w) (Nat.le_refl _) W D _ _ (by omega) hK rfl rfl)
  clear h1 h5 h6 hput hpr
  gi_wp2_with fail
  refine⟨by simp,.inl ⟨_,_,rfl,run_takeDeferred hK,?_⟩⟩
  exact⟨.tuple #[.string x.2,.bool true],by simp [results,Tryz.results82,go_sem,r0,r1],by rw [(enum_list_some hsome).1,(enum_list_some hsome).2],hbE⟩
end Go.Proofs.YtoebhgpciinkgaaGreatDoor
namespace Go.Proofs.YtoebhgpciinkgaaGreatDoor
open Go.RowKit
set_option linter.unusedVariables false
def noneB (n b:Int):Bool:=decide (n=0) || decide (b≤n)
def idE (must:Bool) (n b e:Int):Int:=if must != decide (n≠0) then e else if must && decide (b≤n) then 43 else 0
def wholeN (f:Frm) (n:Int):Bool:=if n<f.2.2.2.1.size then false else if f.2.2.2.2.1.size=0 then decide (n=f.2.2.2.1.size) else decide ((n - f.2.2.2.1.size) % f.2.2.2.2.1.size=0)
set_option linter.unusedSimpArgs false
theorem idFault_any (B:Nat) (n b:Int) (w:World) (h8:w.cell? ⟨B,8,none⟩=some (.int .u32 b)) :
  Calls Tryz.prog 196 #[.pointer (some ⟨B,0,none⟩),.int .u32 n] w fun e w'=>e=.returned (.int .i64 (if noneB n b then 43 else 0))∧w=w':=by
 by_cases h:n=0
 ·subst h
  have e1:noneB 0 b=true:=by simp [noneB]
  rw [e1]
  go_enter Tryz.func196,Tryz.ntmps196
  go_wp2
  go_ret
  exact⟨rfl,rfl⟩
 ·have h':(n==0)=false:=by simpa using h
  by_cases h1:b≤n
  ·have e1:noneB n b=true:=by simp [noneB,h1]
   rw [e1]
   go_enter Tryz.func196,Tryz.ntmps196
   go_wp2
   go_ret
   exact⟨rfl,rfl⟩
  ·have e1:noneB n b=false:=by simp [noneB,h,h1]
   rw [e1]
   go_enter Tryz.func196,Tryz.ntmps196
   go_wp2
   go_ret
   exact⟨rfl,rfl⟩
def faultW (c n b:Int):Int:=if kindI c=1 then (if noneB n b then 43 else 0) else if kindI c=4 then (if enumB c n then 0 else 31) else 0
theorem faultW_any (B:Nat) (c n b:Int) (w:World) (hB:B<w.heap.size) (h8:w.cell? ⟨B,8,none⟩=some (.int .u32 b)) :
  Calls Tryz.prog 190 #[.pointer (some ⟨B,0,none⟩),.int .u8 c,.int .u32 n] w fun e w'=>e=.returned (.int .i64 (faultW c n b))∧Below w.heap.size w w':=by
 have hK:=fun w=>kind_any c w
 have hI:=fun w h=>idFault_any B n b w h
 have hE:=fun w=>enum_any c n w
 unfold faultW
 generalize kindI c=kd at *
 generalize enumB c n=eb at *
 generalize enumS c n=es at *
 generalize noneB n b=nb at *
 by_cases k1:kd=1
 ·subst k1
  rw [if_pos rfl]
  generalize (if nb=true then (43:Int) else 0)=r at hI ⊢
  go_enter Tryz.func190,Tryz.ntmps190
  go_wp2_with fail
  refine (hK _).mono ?_
  rintro e w1 ⟨rfl,rfl⟩
  go_wp2_with fail
  refine (hI _ h8).mono ?_
  rintro e w1 ⟨rfl,rfl⟩
  go_wp2
  go_ret
  exact⟨rfl,Below.refl _ _⟩
 ·rw [if_neg k1]
  by_cases k4:kd=4
  ·subst k4
   rw [if_pos rfl]
   cases eb
   all_goals
    go_enter Tryz.func190,Tryz.ntmps190
    go_wp2_with fail
    refine (hK _).mono ?_
    rintro e w1 ⟨rfl,rfl⟩
    go_wp2_with fail
    refine (hE _).mono ?_
    rintro e w1 ⟨rfl,hb⟩
    go_wp2
    go_ret
    exact⟨rfl,hb⟩
  ·rw [if_neg k4]
   go_enter Tryz.func190,Tryz.ntmps190
   go_wp2_with fail
   refine (hK _).mono ?_
   rintro e w1 ⟨rfl,rfl⟩
   go_wp2
   go_ret
   exact⟨rfl,Below.refl _ _⟩
def kindsL (l:List ArgT):List Int:=l.map (·.1)
theorem kindsL_nth (l:List ArgT) (k:Nat) (h:k<l.length):nth (kindsL l) k=(nthA l k).1:=by
 rw [nthA_lt _ _ h]
 simp [nth,kindsL,List.getD,h]
theorem Whole.info:(Tryz.prog.info? 5).map (fun i=>(i.zero,i.size,i.bytes))=some (some (.int .u8 0),1,1):=by kernel_rfl
set_option maxRecDepth 10000 in
set_option maxHeartbeats 1000000 in
theorem formWhole_any (B:Nat) (n:Int) (a:Option Addr) (m cap:Nat) (l:List ArgT) (w:World) (hB:B<w.heap.size) (h0:w.cell? ⟨B,0,none⟩=some (.int .u16 n)) (hv:ArgsV w a l) (hl:l.length=m) (hm:24 * m≤140737488351232) :
  Calls Tryz.prog 178 #[.pointer (some ⟨B,0,none⟩),.slice a m cap] w fun e w'=>e=.returned (.bool (fitsI (lookF refT n).2 (lookF refT n).1 (kindsL l)).2)∧Below w.heap.size w w':=by
 obtain⟨i0,hi,hz0,hz1,hz2⟩:=info_parts Whole.info
 have HL:Hid (l.length=m):=hl
 have hF:=fun (g:Nat) (w:World) (h:View .u8 w (some ⟨g,0,none⟩) (kindsL l))=>fits_any n (some ⟨g,0,none⟩) m m (kindsL l) w h (by rw [kindsL,List.length_map];exact hl) (by omega)
 generalize fitsI (lookF refT n).2 (lookF refT n).1 (kindsL l)=r at hF ⊢
 clear hl
 go_enter Tryz.func178,Tryz.ntmps178
 go_wp2_with (at_make;refine wpList_make_full _ rfl _ _ 142 rfl w.heap.size 5 i0 (.int .u8 0) 1 Tryz.underlying142 hi hz0 hz1 _ _ _ _ m rfl rfl (by omega) (by omega) (by rw [hz2];omega) (by unfold maxLen;omega) (Nat.le_refl _) ?_)
 intro w1 hown1 hgrow1
 have hb1:Below w.heap.size w w1:=(Below.refl _ w).grown hgrow1 (Nat.le_refl _) (by simp)
 have hr1:=made_row (kindsL l) hown1
 clear hown1 hgrow1
 go_wp2
 go_loopw [15] (fun i wr=>∃ k:Nat,k≤m∧i=.int .i64 k∧wr.ownsRow w.heap.size 5 1 (.slice (some ⟨w.heap.size,0,none⟩) m m) m ((filled (kindsL l) k m).map (Value.int .u8))∧Below w.heap.size w wr)
  (fun i _=>m - (intOf i).toNat)
 case atStart=>exact⟨0,Nat.zero_le _,rfl,hr1,hb1⟩
 case round =>
  obtain⟨k,hk,rfl,hown,hnx⟩:=hrel
  clear hr1 hb1
  by_cases hlt:k<m
  ·obtain⟨b,off,rfl,hbs,c1,c2,c3⟩:=hv k (by rw [HL.out];exact hlt)
   have hkl:k<(kindsL l).length:=by rw [kindsL,List.length_map,HL.out];exact hlt
   obtain⟨d1,d2,d3⟩:=fill_step hown hlt hkl
   rw [kindsL_nth l k (by rw [HL.out];exact hlt)] at d3
   have q1:=(hnx.cell (p:=⟨b,off+k * 3,none⟩) hbs).trans c1
   have q2:=(hnx.cell (p:=⟨b,off+k * 3+1,none⟩) hbs).trans c2
   have q3:=(hnx.cell (p:=⟨b,off+k * 3+2,none⟩) hbs).trans c3
   generalize nthA l k=z at q1 q2 q3 d3
   obtain⟨z1,z2,z3⟩:=z
   have hk0:(0:Int)≤(k:Int):=by omega
   have hki:(k:Int)<(m:Int):=by omega
   have hsz:=hnx.size
   have HOWN:Hid _:=hown
   have HD3:Hid _:=d3
   have hgl:w.heap.size<wr.heap.size:=by
    have:=World.block_lt_of_cell? _ _ d1
    exact this
   have d1':(wr.alloc (.cells #[.int .u8 z1,.int .u32 z2,.string z3] 87)).cell? ⟨w.heap.size,k,none⟩=some (.int .u8 0):=((Below.refl _ wr).alloc (Nat.le_refl _) _).cell (p:=⟨w.heap.size,k,none⟩) hgl ▸ d1
   have d2':(wr.alloc (.cells #[.int .u8 z1,.int .u32 z2,.string z3] 87)).frozen? ⟨w.heap.size,k,none⟩=false:=((Below.refl _ wr).alloc (Nat.le_refl _) _).frozen (p:=⟨w.heap.size,k,none⟩) hgl ▸ d2
   clear c1 c2 c3 hown d3 hv d1 d2 hkl
   go_wp2
   go_roundw
   case rel=>exact⟨k+1,by omega,by go_num,own_below HD3.out ((Below.refl _ _).alloc (Nat.le_refl _) _),(hnx.setCell (p:=⟨w.heap.size,k,none⟩) (Nat.le_refl _) _).alloc (by rw [World.size_setCell];exact hsz) _⟩
   case measure=>simp [intOf];omega
  ·obtain rfl:k=m:=by omega
   rw [filled_whole (kindsL l) k (by rw [kindsL,List.length_map,HL.out])] at hown
   have h0':=(hnx.cell (p:=⟨B,0,none⟩) hB).trans h0
   have hV:=View.ofRow hown (by rw [kindsL,List.length_map,HL.out])
   clear hown hv
   go_wp2_with fail
   refine (hF _ _ hV).mono ?_
   rintro e w2 ⟨rfl,hb2⟩
   have hfin:=hnx.trans (hb2.mono hnx.size)
   clear hb2 hV hF h0 h0'
   obtain⟨r1,r2⟩:=r
   go_wp2
   go_ret
   exact⟨rfl,hfin⟩
theorem size_list (s:ByteArray):s.data.toList.length=s.size:=by rw [Array.length_toList];rfl
def strI (s:ByteArray):List Int:=s.data.toList.map fun b=>(b.toNat:Int)
theorem strI_len (s:ByteArray):(strI s).length=s.size:=by rw [strI,List.length_map,size_list]
theorem strI_within (s:ByteArray):Within 256 (strI s):=by
 intro z hz
 simp only [strI,List.mem_map] at hz
 obtain⟨b,_,rfl⟩:=hz
 have:=b.toNat_lt
 omega
theorem nth_strI (s:ByteArray) (k:Nat) (h:k<s.size):nth (strI s) k=(s[k].toNat:Int):=by
 have h':k<s.data.toList.length:=by rw [size_list];exact h
 have e:s[k]=s.data.toList[k]:=rfl
 rw [e]
 have h2:(strI s)[k]?=some ((s.data.toList[k].toNat:Int)):=by rw [strI,List.getElem?_map,List.getElem?_eq_getElem h'];rfl
 rw [nth,List.getD,h2];rfl
def NoNul (s:ByteArray):Prop:=∀ k,k<s.size→nth (strI s) k≠0
theorem index_none (s:ByteArray) (h:NoNul s):Lib.indexByte s.data.toList (0:Int).toNat.toUInt8=-1:=by
 have hge:=Lib.indexByte_ge s.data.toList (0:Int).toNat.toUInt8
 apply Classical.byContradiction
 intro hne
 obtain⟨o,ho⟩:∃ o:Nat,Lib.indexByte s.data.toList (0:Int).toNat.toUInt8=o:=⟨(Lib.indexByte s.data.toList (0:Int).toNat.toUInt8).toNat,by omega⟩
 have:=(Lib.indexByte_some ho).1
 have hlt:o<s.data.toList.length:=by
  rcases Nat.lt_or_ge o s.data.toList.length with h1 | h1
  ·exact h1
  ·rw [List.getElem?_eq_none h1] at this;simp at this
 have hs:o<s.size:=by rw [← size_list];exact hlt
 apply h o hs
 rw [nth_strI s o hs]
 have e:s[o]=s.data.toList[o]:=rfl
 rw [List.getElem?_eq_getElem hlt] at this
 rw [e,Option.some.inj this]
 rfl
theorem index_some (s:ByteArray) (k:Nat) (hk:k<s.size) (h:nth (strI s) k=0):0≤Lib.indexByte s.data.toList (0:Int).toNat.toUInt8:=by
 have hge:=Lib.indexByte_ge s.data.toList (0:Int).toNat.toUInt8
 apply Classical.byContradiction
 intro hne
 have hm:Lib.indexByte s.data.toList (0:Int).toNat.toUInt8=-1:=by omega
 have:=Lib.indexByte_none hm k
 have hlt:k<s.data.toList.length:=by rw [size_list];exact hk
 apply this
 rw [List.getElem?_eq_getElem hlt]
 rw [nth_strI s k hk] at h
 have e:s[k]=s.data.toList[k]:=rfl
 rw [e] at h
 have:s.data.toList[k].toNat=0:=by omega
 exact congrArg some (UInt8.toNat_inj.1 this)
def padI (s:ByteArray):List Int:=filled (strI s) s.size (4 * (s.size / 4+1))
def textW (s:ByteArray):List Int:=splitL (padI s)
theorem padI_len (s:ByteArray):(padI s).length=4 * (s.size / 4+1):=filled_len _ _ _ (by omega) (by rw [strI_len];omega)
theorem textW_len (s:ByteArray):(textW s).length=s.size / 4+1:=by rw [textW,splitL_len,padI_len];omega
theorem padI_lo (s:ByteArray) (k:Nat) (h:k<s.size):nth (padI s) k=nth (strI s) k:=by
 have e:(strI s).take s.size=strI s:=List.take_of_length_le (by rw [strI_len];omega)
 rw [padI,filled,e,getD_left _ _ _ (by rw [strI_len];exact h)]
theorem padI_hi (s:ByteArray) (k:Nat) (h:s.size≤k):nth (padI s) k=0:=by
 have e:(strI s).take s.size=strI s:=List.take_of_length_le (by rw [strI_len];omega)
 rw [padI,filled,e,getD_right _ _ _ (by rw [strI_len];exact h)]
 simp only [nth,List.getD,List.getElem?_replicate]
 split <;> rfl
theorem padI_within (s:ByteArray):Within 256 (padI s):=by
 intro z hz
 simp only [padI,filled,List.mem_append,List.mem_replicate] at hz
 rcases hz with hz | ⟨_,rfl⟩
 ·exact strI_within s z (List.mem_of_mem_take hz)
 ·omega
theorem partL_padI (s:ByteArray):partL (padI s) s.size (s.size / 4+1)=textW s:=by
 have h:=partL_whole (padI s) (by rw [padI_len];omega)
 rw [padI_len,show 4 * (s.size / 4+1) / 4=s.size / 4+1 by omega] at h
 rw [textW,← h]
 unfold partL
 apply List.map_congr_left
 intro k hk
 have hk':k<s.size / 4+1:=List.mem_range.1 hk
 unfold partW
 rw [if_pos (show 4 * k<4 * (s.size / 4+1) by omega),if_pos (show 4 * k+1<4 * (s.size / 4+1) by omega),if_pos (show 4 * k+2<4 * (s.size / 4+1) by omega),if_pos (show 4 * k+3<4 * (s.size / 4+1) by omega)]
 have f:∀ i,(if i<s.size then nth (padI s) i else 0)=nth (padI s) i:=fun i=>by
  split
  ·rfl
  ·rw [padI_hi s i (by omega)]
 have f':∀ i (c:Int),(if i<s.size then nth (padI s) i * c else 0)=nth (padI s) i * c:=fun i c=>by
  split
  ·rfl
  ·rw [padI_hi s i (by omega)];omega
 rw [f,f',f',f']
set_option maxRecDepth 10000

theorem append_run {P:Program} (w:World) {ops:Array Oper} {rest:List Oper} {o:Oper} {a:Act} {Q:Exit→Act→World→Prop}
  (hg:o.guard=none) (s x:Operand) (t:TypeId) (hop:o.op=Op.call { callee:=Callee.builtin Builtin.append,args:=#[s,x],argTypes:=#[t,t] })
  (v xv v':Value) (w':World) (hs:a.eval s=v) (hx:a.eval x=xv) (hrun:∀ ty,(Builtin.append_ #[t,t] ty #[v,xv]).run P w=.ok v' w') (hK:wpList P ops Q rest (a.put o.dst v') w') :
  wpList P ops Q (o :: rest) a w:=by
 refine wpList_plain hg fun K hK'=>?_
 unfold Oper.wp
 simp [execOp,hop,resolve,invoke,builtin,hs,hx,hrun,Result.andThen]
 exact hK' _ _ hK
theorem run_append_nothing {P:Program} (w:World) (t ty e:TypeId) (i:TypeInfo) (ht:P.underlying t=some (.slice e)) (hi:P.info? e=some i) (b:Option Addr) (n cap:Nat) (hn:n≤cap) (a:Option Addr) (c:Nat) :
  (Builtin.append_ #[t,t] ty #[.slice b n cap,.slice a 0 c]).run P w=.ok (.slice b n cap) w:=by
 cases a with
 | none=>cases b <;> simp [Builtin.append_,run_underlying ht,sizeOf,typeInfo,hi,Builtin.lenOf,hn,Builtin.firstCells,storeCells]
 | some a =>
  have hl:(loadCells a 0).run P w=.ok #[] w:=run_loadCells_list (P:=P) w a [] (fun j v hj=>by simp at hj)
  cases b <;> simp [Builtin.append_,run_underlying ht,sizeOf,typeInfo,hi,Builtin.lenOf,hn,Builtin.firstCells,hl,storeCells]
theorem wpList_append_view {P:Program} (w:World) {ops:Array Oper} {rest:List Oper} {o:Oper} {a:Act} {Q:Exit→Act→World→Prop} (hgd:o.guard=none) (s x:Operand) (t:TypeId)
  (ho:o.op=.call { callee:=.builtin .append,args:=#[s,x],argTypes:=#[t,t] })
  (base:Nat) (e:TypeId) (i:TypeInfo) (z:Value) (bytes:Nat) (k:IntKind) (ht:P.underlying t=some (.slice e)) (hi:P.info? e=some i) (hz:i.zero=some z)
  (hsize:i.size=1) (hby:i.bytes=bytes) (hzs:z.cells.size=1)
  (v:Value) (n:Nat) (xs:List Int) (hs:a.eval s=v) (hown:w.ownsRow base e 1 v n (xs.map (Value.int k)))
  (ad:Option Addr) (m c:Nat) (zs:List Int) (hx:a.eval x=.slice ad m c) (hv:View k w ad zs) (hl:zs.length=m)
  (h63:n+m≤maxLen) (hbytes:(n+m) * bytes≤140737488355328) (hbase:base≤w.heap.size)
  (h:∀ v' w',w'.ownsRow base e 1 v' (n+m) ((xs++zs).map (Value.int k))→w.grownBy w' v.ownBlock→wpList P ops Q rest (a.put o.dst v') w'):wpList P ops Q (o :: rest) a w:=by
 by_cases h0:m=0
 ·subst h0
  have hz0:zs=[]:=List.eq_nil_of_length_eq_zero hl
  subst hz0
  obtain⟨b,n',cap,hve,hle⟩:∃ b n' cap,v=.slice b n' cap∧n'≤cap:=by
   rcases hown.2 with ⟨rfl,rfl⟩ | ⟨g,cap,cur,rfl,_,_,hle,_⟩
   ·exact⟨_,_,_,rfl,Nat.le_refl _⟩
   ·exact⟨_,_,_,rfl,hle⟩
  refine append_run w hgd s x t ho v _ v w hs hx (fun ty=>?_) ?_
  ·rw [hve];exact run_append_nothing w t ty e i ht hi b n' cap hle ad c
  ·refine h v w ?_ ⟨rfl,rfl,rfl,Nat.le_refl _,fun _ _ _=>rfl⟩
   rw [List.append_nil];exact hown
 ·obtain⟨b',o',rfl,_,_⟩:=hv 0 (by omega)
  refine wpList_append_own w hgd s x t ho base e i z 1 bytes ht hi hz hsize hby hzs (by omega) v n (xs.map (Value.int k)) hs hown ⟨b',o',none⟩ m c (zs.map (Value.int k)) hx (by rw [List.length_map,hl];omega) ?_ ?_ h63 hbytes hbase (fun v' w' h2 h3 _=>h v' w' (by rw [List.map_append];exact h2) h3)
  ·intro j u hj
   rw [List.getElem?_map] at hj
   have hjl:j<zs.length:=by
    rcases Nat.lt_or_ge j zs.length with h | h
    ·exact h
    ·rw [List.getElem?_eq_none h] at hj;simp at hj
   obtain⟨b2,o2,e2,_,hc⟩:=hv j hjl
   simp at e2
   obtain⟨rfl,rfl⟩:=e2
   rw [Addr.add_lit,hc,← hj,List.getElem?_eq_getElem hjl]
   simp [nth,List.getD,hjl]
  ·intro u hu
   obtain⟨y,_,rfl⟩:=List.mem_map.1 hu
   rfl
theorem View.ofOwned {k:IntKind} {w:World} {B e n:Nat} {v:Value} {zs:List Int} (h:w.ownsRow B e 1 v n (zs.map (Value.int k))):∃ a cap,v=.slice a n cap∧View k w a zs∧zs.length=n:=by
 have hl:zs.length=n:=by have:=h.1;simpa using this
 have hc:=fun g hg=>h.cells (g:=g) hg
 rcases h.2 with ⟨rfl,rfl⟩ | ⟨g,cap,cur,rfl,_,hg,_⟩
 ·exact⟨none,0,rfl,fun j hj=>by omega,hl⟩
 ·refine⟨some ⟨g,0,none⟩,cap,rfl,fun j hj=>⟨g,0,rfl,(Array.getElem?_eq_some_iff.1 hg).1,?_⟩,hl⟩
  have:=hc g rfl j (.int k (nth zs j)) (by simp [nth,List.getD,hj])
  rw [Addr.add_lit] at this
  exact this
def wrtC (o:Int) (f:Frm) (b:Int) (v:Value) (c:Int):Array Value:=#[.int .u16 o,.string f.1,.bool f.2.1,.bool f.2.2.1,.string f.2.2.2.1,.string f.2.2.2.2.1,.int .i64 f.2.2.2.2.2.1,.int .u8 f.2.2.2.2.2.2,.int .u32 b,v,.int .i64 c]
structure Wrt (w : World) (B : Nat) (o : Int) (f : Frm) (b : Int) (zs : List Int) (c : Int) : Prop where
  box : ∃ v, w.heap[B]? = some (.cells (wrtC o f b v c) 227 (0, 0)) ∧ w.ownsRow (B + 1) 22 1 v zs.length (zs.map (Value.int .u32))
  len : (zs.length : Int) + 1 ≤ c ∧ zs.length ≤ 65535
structure KeepW (B : Nat) (w w' : World) : Prop where
  below : Below B w w'
  keep : ∀ k cs T fr, w.heap[k]? = some (.cells cs T fr) → k ≠ B → T ≠ 22 → w'.heap[k]? = some (.cells cs T fr)
theorem KeepW.refl (B:Nat) (w:World):KeepW B w w:=⟨Below.refl _ _,fun _ _ _ _ h _ _=>h⟩
theorem KeepW.trans {B:Nat} {w w' w'':World} (h:KeepW B w w') (h':KeepW B w' w''):KeepW B w w'':=⟨h.below.trans h'.below,fun k cs T fr e n t=>h'.keep k cs T fr (h.keep k cs T fr e n t) n t⟩
theorem KeepW.of_below {B:Nat} {w w':World} (h:Below w.heap.size w w') (hB:B≤w.heap.size):KeepW B w w':=⟨h.mono hB,fun k cs T fr e _ _=>(h.block k (Array.getElem?_eq_some_iff.1 e).1).trans e⟩
theorem Wrt.below {w w':World} {B:Nat} {o:Int} {f:Frm} {b:Int} {zs:List Int} {c:Int} (h:Wrt w B o f b zs c) (hb:Below w.heap.size w w'):Wrt w' B o f b zs c:=by
 obtain⟨⟨v,h1,h2⟩,h3⟩:=h
 exact⟨⟨v,(hb.block B (Array.getElem?_eq_some_iff.1 h1).1).trans h1,own_below h2 hb⟩,h3⟩
theorem Wrt.lt {w:World} {B:Nat} {o:Int} {f:Frm} {b:Int} {zs:List Int} {c:Int} (h:Wrt w B o f b zs c):B<w.heap.size:=by
 obtain⟨⟨v,h1,h2⟩,h3⟩:=h
 exact (Array.getElem?_eq_some_iff.1 h1).1
theorem setBox {w:World} {B T:Nat} {cs:Array Value} (h:w.heap[B]?=some (.cells cs T (0,0))) (i:Nat) (u:Value):(w.setCell ⟨B,i,none⟩ u).heap[B]?=some (.cells (cs.setIfInBounds i u) T (0,0)):=by
 simp [World.setCell,Array.getElem?_modify,h]
theorem ownFar {w:World} {lo e size n B:Nat} {v:Value} {xs:List Value} (h:w.ownsRow lo e size v n xs) (hB:B<lo) (i:Nat) (u:Value):(w.setCell ⟨B,i,none⟩ u).ownsRow lo e size v n xs:=by
 refine⟨h.1,?_⟩
 rcases h.2 with hn | ⟨g,cap,cur,rfl,hb,hgg,rest⟩
 ·exact .inl hn
 ·refine .inr ⟨g,cap,cur,rfl,hb,?_,rest⟩
  exact (Below.heap_setCell _ _ _ _ (by simp;omega)).trans hgg
theorem setOther {w:World} {B k:Nat} (i:Nat) (u:Value) (h:k≠B):(w.setCell ⟨B,i,none⟩ u).heap[k]?=w.heap[k]?:=Below.heap_setCell _ _ _ _ (by simpa using h)
theorem own_type {w:World} {lo e size n g:Nat} {v:Value} {xs:List Value} (h:w.ownsRow lo e size v n xs) (hg:v.ownBlock=some g):lo≤g∧∃ cs fr,w.heap[g]?=some (.cells cs e fr):=by
 rcases h.2 with ⟨rfl,_⟩ | ⟨g',cap,cur,rfl,hb,hgg,_⟩
 ·simp [Value.ownBlock] at hg
 ·simp [Value.ownBlock] at hg
  subst hg
  exact⟨hb,_,_,hgg⟩
def putL (c k:Int) (zs ms:List Int):List Int:=if c+k≤65535 then zs++ms else zs
theorem Add.info:(Tryz.prog.info? 22).map (fun i=>(i.zero,i.size,i.bytes))=some (some (.int .u32 0),1,4):=by kernel_rfl
set_option maxRecDepth 10000 in
set_option maxHeartbeats 1000000 in
theorem add_any (B:Nat) (o:Int) (f:Frm) (b:Int) (zs:List Int) (c:Int) (k:Int) (a:Option Addr) (n cap:Nat) (ms:List Int) (w:World) (hW:Wrt w B o f b zs c) (ha:View .u32 w a ms) (hnB:NewAt (B+1) a) (hl:ms.length=n) (hk:(n:Int)≤k) (hc:c+k<9223372036854775808) :
  Calls Tryz.prog 191 #[.pointer (some ⟨B,0,none⟩),.int .i64 k,.slice a n cap] w fun e w'=>e=.returned (.tuple #[])∧KeepW B w w'∧Wrt w' B o f b (putL c k zs ms) (c+k):=by
 obtain⟨i0,hi,hz0,hz1,hz2⟩:=info_parts Add.info
 obtain⟨⟨v,hbox,hown⟩,hlen,hlen2⟩:=hW
 have hBl:=(Array.getElem?_eq_some_iff.1 hbox).1
 obtain⟨hcl,hfr⟩:=one_block hbox
 have c9:=hcl 9
 have c10:=hcl 10
 have hbox1:=setBox hbox 10 (.int .i64 (c+k))
 have hown1:=ownFar hown (Nat.lt_succ_self B) 10 (.int .i64 (c+k))
 have hv1:View .u32 (w.setCell ⟨B,10,none⟩ (.int .i64 (c+k))) a ms:=ha.setCell hnB (Nat.lt_succ_self B) _
 have hwr:IntKind.i64.wrap (c+k)=c+k:=wrapI _ (by omega) (by omega)
 change w.cell? ⟨B,9,none⟩=some v at c9
 change w.cell? ⟨B,10,none⟩=some (.int .i64 c) at c10
 change (w.setCell ⟨B,10,none⟩ (.int .i64 (c+k))).heap[B]?=some (.cells (wrtC o f b v (c+k)) 227 (0,0)) at hbox1
 have f10:=hfr 10
 have f9:=hfr 9
 have hcl1:=one_block hbox1
 have d9:=hcl1.1 9
 have d10:=hcl1.1 10
 have g9:=hcl1.2 9
 change (w.setCell ⟨B,10,none⟩ (.int .i64 (c+k))).cell? ⟨B,9,none⟩=some v at d9
 change (w.setCell ⟨B,10,none⟩ (.int .i64 (c+k))).cell? ⟨B,10,none⟩=some (.int .i64 (c+k)) at d10
 clear hcl hfr hcl1
 by_cases hle:c+k≤65535
 ·rw [putL,if_pos hle]
  have HBX:Hid _:=hbox
  have HBX1:Hid _:=hbox1
  have HO1:Hid _:=hown1
  have HV1:Hid _:=hv1
  have HO:Hid _:=hown
  have HL:Hid (ms.length=n):=hl
  have HI:Hid (Tryz.prog.info? 22=some i0∧i0.zero=some (.int .u32 0)∧i0.size=1∧i0.bytes=4):=⟨hi,hz0,hz1,hz2⟩
  have hnl:(zs.length:Int)+n+1≤65535:=by omega
  clear hbox hbox1 hown1 hv1 hown hl hnB ha hi hz0 hz1 hz2
  go_enter Tryz.func191,Tryz.ntmps191
  go_wp2_with (at_builtin;refine wpList_append_view _ rfl (.tmp 23) (.tmp 24) 26 rfl (B+1) 22 i0 (.int .u32 0) 4 .u32 Tryz.underlying26 HI.out.1 HI.out.2.1 HI.out.2.2.1 HI.out.2.2.2 rfl v zs.length zs rfl HO1.out a n cap ms rfl HV1.out HL.out (by unfold maxLen;omega) (by omega) (by simp;omega) ?_)
  intro v' w2 hown2 hgr
  have hne:∀ g,v.ownBlock=some g→B≠g:=fun g e=>by have:=(own_type HO.out e).1;omega
  have hbox2:w2.heap[B]?=some (.cells (wrtC o f b v (c+k)) 227 (0,0)):=(hgr.block B (by simpa using hBl) (fun e=>hne B e.symm rfl)).trans HBX1.out
  obtain⟨hcl2,hfr2⟩:=one_block hbox2
  have e9:=hcl2 9
  have h9:=hfr2 9
  change w2.cell? ⟨B,9,none⟩=some v at e9
  rw [← List.map_append] at hown2
  obtain⟨a',cap',rfl,_,_⟩:=View.ofOwned hown2
  have HOWN2:Hid _:=hown2
  have HGR:Hid _:=hgr
  have HB2:Hid _:=hbox2
  clear hcl2 hfr2 hown2 hgr hbox2 c9 c10 d9 d10 g9 f9 f10
  go_wp2
  go_end0
  refine⟨rfl,⟨?_,?_⟩,⟨_,setBox HB2.out 9 _,?_⟩,by simp [HL.out];omega,by simp [HL.out];omega⟩
  ·refine (((Below.refl B w).setCell (p:=⟨B,10,none⟩) (Nat.le_refl _) _).grown HGR.out (by simp;omega) (fun k' e=>?_)).setCell (p:=⟨B,9,none⟩) (Nat.le_refl _) _
   have:=(own_type HO.out e).1
   omega
  ·intro k' cs T fr e hn ht
   rw [setOther 9 _ hn]
   refine (HGR.out.block k' (by simpa using (Array.getElem?_eq_some_iff.1 e).1) (fun e2=>?_)).trans ((setOther 10 _ hn).trans e)
   obtain⟨_,cs2,fr2,h2⟩:=own_type HO.out e2.symm
   rw [e] at h2
   cases h2
   exact ht rfl
  ·rw [List.length_append,HL.out]
   exact ownFar HOWN2.out (Nat.lt_succ_self B) 9 _
 ·rw [putL,if_neg hle]
  go_enter Tryz.func191,Tryz.ntmps191
  go_wp2_with fail
  go_end0
  refine⟨rfl,⟨(Below.refl _ _).setCell (p:=⟨B,10,none⟩) (Nat.le_refl _) _,fun k' cs T fr e n t=>(setOther 10 _ n).trans e⟩,⟨v,hbox1,hown1⟩,by omega,hlen2⟩
theorem atPlace_any (c p:Int) (w:World) (hx:0≤c) (hx2:c<256) (h0:0≤p) (h3:p<4) :
  Calls Tryz.prog 202 #[.int .u8 c,.int .i64 p] w fun e w'=>e=.returned (.int .u32 (plc c p.toNat))∧w=w':=by
 rcases (show p=0∨p=1∨p=2∨p=3 by omega) with rfl | rfl | rfl | rfl
 all_goals
  go_enter Tryz.func202,Tryz.ntmps202
  go_wp2
  go_ret
  exact⟨ret_int (by simp [plc]),rfl⟩
theorem indexByte_any (s:ByteArray) (w:World) :
  Calls Tryz.prog 201 #[.string s,.int .u8 0] w fun e w'=>e=.returned (.int .i64 (Lib.indexByte s.data.toList (0:Int).toNat.toUInt8))∧w=w':=by
 have hx:=fun (w:World)=>run_callFunc_extern (P:=Tryz.prog) (f:=204) Tryz.func204 (by kernel_rfl) (by kernel_rfl) (by kernel_rfl) (e:=Extern.BytealgIndexByte.indexByte) (by kernel_rfl) #[.string s,.int .u8 0] w
 simp only [Lib.run_indexByteString,Result.andThen] at hx
 generalize Lib.indexByte s.data.toList (0:Int).toNat.toUInt8=r at hx
 go_enter Tryz.func201,Tryz.ntmps201
 go_wp2
 go_ret
 exact⟨rfl,rfl⟩
theorem OfText.info:(Tryz.prog.info? 22).map (fun i=>(i.zero,i.size,i.bytes))=some (some (.int .u32 0),1,4):=by kernel_rfl
theorem ofText_nul (s:ByteArray) (w:World) (k:Nat) (hk:k<s.size) (h:nth (strI s) k=0) :
  Calls Tryz.prog 193 #[.string s] w fun e w'=>e=.returned (.tuple #[.slice none 0 0,.int .i64 13])∧w=w':=by
 have hi:=index_some s k hk h
 have hI:=indexByte_any s w
 generalize Lib.indexByte s.data.toList (0:Int).toNat.toUInt8=r at hi hI
 clear h hk
 go_enter Tryz.func193,Tryz.ntmps193
 go_wp2_with fail
 refine hI.mono ?_
 rintro e w' ⟨rfl,rfl⟩
 go_wp2
 go_ret2
 exact⟨rfl,rfl⟩
theorem ofText_large (s:ByteArray) (w:World) (hs:s.size≤140737488351232) (h:NoNul s) (hl:65535<s.size / 4+1) :
  Calls Tryz.prog 193 #[.string s] w fun e w'=>e=.returned (.tuple #[.slice none 0 0,.int .i64 4])∧w=w':=by
 have hI:=indexByte_any s w
 rw [index_none s h] at hI
 have hl':(65535:Int)<(s.size:Int) / 4+1:=by omega
 clear h
 go_enter Tryz.func193,Tryz.ntmps193
 go_wp2_with fail
 refine hI.mono ?_
 rintro e w' ⟨rfl,rfl⟩
 go_wp2
 go_ret2
 exact⟨rfl,rfl⟩
theorem room_any (s:ByteArray) (w:World) (hs:s.size≤140737488351232) :
  Calls Tryz.prog 194 #[.string s] w fun e w'=>e=.returned (.int .i64 ((s.size / 4+1:Nat):Int))∧w=w':=by
 go_enter Tryz.func194,Tryz.ntmps194
 go_wp2
 go_ret
 exact⟨ret_int (by omega),rfl⟩
set_option maxRecDepth 10000 in
set_option maxHeartbeats 1000000 in
theorem ofText_ok (s:ByteArray) (w:World) (h:NoNul s) (hl:s.size / 4+1≤65535) :
  Calls Tryz.prog 193 #[.string s] w fun e w'=>e=.returned (.tuple #[.slice (some ⟨w.heap.size,0,none⟩) (s.size / 4+1) (s.size / 4+1),.int .i64 0]) ∧
   w'.ownsRow w.heap.size 22 1 (.slice (some ⟨w.heap.size,0,none⟩) (s.size / 4+1) (s.size / 4+1)) (s.size / 4+1) ((textW s).map (Value.int .u32))∧Below w.heap.size w w':=by
 obtain⟨i0,hi,hz0,hz1,hz2⟩:=info_parts OfText.info
 have hI:=indexByte_any s w
 rw [index_none s h] at hI
 have hR:=fun wx=>room_any s wx (by omega)
 have HT:Hid (partL (padI s) s.size (s.size / 4+1)=textW s):=partL_padI s
 clear h
 obtain⟨m,hm⟩:∃ m,m=s.size / 4+1:=⟨_,rfl⟩
 rw [← hm] at HT hR ⊢
 have HM:Hid (m=s.size / 4+1):=hm
 have hsz:s.size<4 * m:=by omega
 have hm2:m≤65535:=by omega
 have hl':¬ (65535:Int)<(m:Int):=by omega
 clear hm hl
 go_enter Tryz.func193,Tryz.ntmps193
 go_wp2_with fail
 refine hI.mono ?_
 rintro e w' ⟨rfl,rfl⟩
 go_wp2_with (first | (go_at_call 194;refine (hR _).mono ?_;rintro e w' ⟨rfl,rfl⟩) | (at_make;refine wpList_make_full _ rfl _ _ 26 rfl w.heap.size 22 i0 (.int .u32 0) 1 Tryz.underlying26 hi hz0 hz1 _ _ _ _ m rfl rfl (by omega) (by omega) (by rw [hz2];omega) (by unfold maxLen;omega) (Nat.le_refl _) ?_))
 intro w1 hown1 hgrow1
 have hb1:Below w.heap.size w w1:=(Below.refl _ w).grown hgrow1 (Nat.le_refl _) (by simp)
 have hr1:=made_row (padI s) hown1
 rw [← partL_zero (padI s) (padI s)] at hr1
 clear hown1 hgrow1
 go_wp2
 go_loopw [17] (fun i wr=>∃ k:Nat,k≤s.size∧i=.int .i64 k∧wr.ownsRow w.heap.size 22 1 (.slice (some ⟨w.heap.size,0,none⟩) m m) m ((partL (padI s) k m).map (Value.int .u32))∧Below w.heap.size w wr)
  (fun i _=>s.size - (intOf i).toNat)
 case atStart=>exact⟨0,Nat.zero_le _,rfl,hr1,hb1⟩
 case round =>
  obtain⟨k,hk,rfl,hown,hnx⟩:=hrel
  clear hr1 hb1
  by_cases hlt:k<s.size
  ·have hpb:=partW_bounds (padI s) k (k / 4) (padI_within s) (by rw [padI_len];omega)
   have HP:Hid (bits .or .u32 (partW (padI s) k (k / 4)) (plc (s[k].toNat:Int) (k % 4))=partW (padI s) (k+1) (k / 4)):=by
    have:=partW_step (padI s) k (padI_within s) (by rw [padI_len];omega)
    rw [padI_lo s k hlt,nth_strI s k hlt] at this
    exact this
   have hd:wr.cell? ⟨w.heap.size,k / 4,none⟩=some (.int .u32 (partW (padI s) k (k / 4))):=by
    rw [hown.cellAt (k / 4) (by omega)]
    have:k / 4<m:=by omega
    simp [partL,this]
   have hf:wr.frozen? ⟨w.heap.size,k / 4,none⟩=false:=hown.frozenAt _
   have hs:=(hown.stored (k / 4) (.int .u32 (partW (padI s) (k+1) (k / 4)))).1
   rw [← List.map_set,partL_set] at hs
   have hx1:(s[k].toNat:Int)<256:=by have:=s[k].toNat_lt;omega
   generalize partW (padI s) k (k / 4)=y at hpb hd HP
   have hy0:=hpb.1
   have hy1:=hpb.2
   have eq:(k:Int).tdiv 4=((k / 4:Nat):Int):=by rw [Int.tdiv_eq_ediv_of_nonneg (by omega)];omega
   have em:(k:Int).tmod 4=((k % 4:Nat):Int):=by rw [Int.tmod_eq_emod_of_nonneg (by omega)];omega
   have eq':(k:Int) / 4=((k / 4:Nat):Int):=by omega
   have em':(k:Int) % 4=((k % 4:Nat):Int):=by omega
   have hj:k / 4<m:=by omega
   have hr:k % 4<4:=by omega
   have HS:Hid ((wr.setCell ⟨w.heap.size,k / 4,none⟩ (.int .u32 (bits .or .u32 y (plc (s[k].toNat:Int) (k % 4))))).ownsRow w.heap.size 22 1 (.slice (some ⟨w.heap.size,0,none⟩) m m) m ((partL (padI s) (k+1) m).map (Value.int .u32))):=by rw [HP.out];exact hs
   clear hpb hown hs HP hl' hI hR
   generalize k / 4=j at *
   generalize k % 4=r at *
   have hA:=fun wx=>atPlace_any (s[k].toNat:Int) (r:Int) wx (by omega) hx1 (by omega) (by omega)
   have hj0:(0:Int)≤(j:Int):=by omega
   have hj1:(j:Int)<(m:Int):=by omega
   have hk0:(0:Int)≤(k:Int):=by omega
   have hk1:(k:Int)<(s.size:Int):=by omega
   have hwj:IntKind.i64.wrap (j:Int)=(j:Int):=by rw [IntKind.wrap_i64];omega
   go_wp2
   go_region_with (go_at_call 202;refine (hA _).mono ?_;rintro e w' ⟨rfl,rfl⟩)
   all_goals
    go_wp2
    go_roundw
    case rel=>exact⟨k+1,by omega,by go_num,HS.out.drew,(hnx.setCell (Nat.le_refl _) _).drew⟩
    case measure=>simp [intOf];omega
  ·go_wp2
   go_ret2
   obtain rfl:k=s.size:=by omega
   rw [HT.out] at hown
   exact⟨rfl,hown,hnx⟩
theorem view_one {w:World} (n:Int):View .u32 (w.alloc (.cells #[.int .u32 n] 22)) (some ⟨w.heap.size,0,none⟩) [n]:=by
 intro j hj
 obtain rfl:j=0:=by simpa using hj
 refine⟨w.heap.size,0,rfl,by simp,?_⟩
 rw [Nat.zero_add,World.cell?_alloc_new]
 rfl
theorem Wrt.bound {w:World} {B:Nat} {o:Int} {f:Frm} {b:Int} {zs:List Int} {c:Int} (h:Wrt w B o f b zs c):w.cell? ⟨B,8,none⟩=some (.int .u32 b)∧w.cell? ⟨B,0,none⟩=some (.int .u16 o):=by
 obtain⟨⟨v,h1,h2⟩,h3⟩:=h
 obtain⟨hc,_⟩:=one_block h1
 exact⟨hc 8,hc 0⟩
set_option maxHeartbeats 1000000 in
theorem putWord_any (B:Nat) (o:Int) (f:Frm) (b:Int) (zs:List Int) (cn:Int) (c:Int) (x:ArgT) (w:World) (hW:Wrt w B o f b zs cn) (hc:cn+1<9223372036854775808) :
  Calls Tryz.prog 185 #[.pointer (some ⟨B,0,none⟩),.int .u8 c,argV x] w fun e w'=>e=.returned (.int .i64 (faultW c x.2.1 b))∧KeepW B w w'∧(faultW c x.2.1 b=0→Wrt w' B o f b (putL cn 1 zs [x.2.1]) (cn+1))∧(faultW c x.2.1 b≠0→Wrt w' B o f b zs cn):=by
 obtain⟨kd,n,st⟩:=x
 unfold argV
 simp only
 have hBl:=hW.lt
 have hW1:=hW.below ((Below.refl _ w).alloc (Nat.le_refl _) (.cells #[.int .u8 kd,.int .u32 n,.string st] 87))
 have hb1:Below w.heap.size w (w.alloc (.cells #[.int .u8 kd,.int .u32 n,.string st] 87)):=(Below.refl _ w).alloc (Nat.le_refl _) _
 have hl1:w.heap.size<(w.alloc (.cells #[.int .u8 kd,.int .u32 n,.string st] 87)).heap.size:=by simp
 have hN:(w.alloc (.cells #[.int .u8 kd,.int .u32 n,.string st] 87)).cell? ⟨w.heap.size,1,none⟩=some (.int .u32 n):=(one_block (alloc_new w #[.int .u8 kd,.int .u32 n,.string st] 87)).1 1
 obtain⟨r,hr⟩:∃ r,r=faultW c n b:=⟨_,rfl⟩
 by_cases h0:faultW c n b=0
 ·rw [h0]
  go_enter Tryz.func185,Tryz.ntmps185
  go_wp2_with fail
  generalize w.alloc (.cells #[.int .u8 kd,.int .u32 n,.string st] 87)=W at *
  have a1:=fun s:InC (Below W.heap.size W)=>s.cell (p:=⟨w.heap.size,1,none⟩) hl1 hN
  have hF:=fun s:InC (Below W.heap.size W)=>Calls.inC s (faultW_any B c n b s.w (by have:=s.ok.size;omega) (s.cell (p:=⟨B,8,none⟩) (by show B<_;omega) hW1.bound.1))
  rw [h0] at hF
  refine wp_region_class (C:=Below W.heap.size W) (by kernel_rfl) (by kernel_rfl) (below_drew W) ?_
  have hne:Nonempty (InC (Below W.heap.size W)):=⟨⟨W,Below.refl _ _⟩⟩
  repeat (go_big_quiet_step ((go_at_call 190;exact hF _)))
  refine wpQuiet_nil ?_
  rintro _ ⟨s,rfl⟩
  have a2:=a1 s
  have hW2:=hW1.below s.ok
  have hbs:=hb1.trans (s.ok.mono (by omega))
  have hss:=hbs.size
  obtain⟨s,hs⟩:=s
  simp only at *
  have hW3:=hW2.below ((Below.refl _ s).alloc (Nat.le_refl _) (.cells #[.int .u32 n] 22))
  have hA:=add_any B o f b zs cn 1 (some ⟨s.heap.size,0,none⟩) 1 1 [n] _ hW3 (view_one n) (newAt_mk (by omega)) rfl (by omega) hc
  have hK:=KeepW.of_below (hbs.trans (((Below.refl _ s).alloc (Nat.le_refl _) (.cells #[.int .u32 n] 22)).mono hss)) (show B≤w.heap.size by omega)
  clear hne hF a1 hN hW1 hW2 hW3 hs
  go_wp2_with fail
  refine hA.mono ?_
  rintro e w4 ⟨rfl,hk4,hW4⟩
  clear hA a2
  go_wp2
  go_ret
  exact⟨rfl,hK.trans hk4,fun _=>hW4,fun h=>absurd rfl h⟩
 ·have hr0:¬ r=0:=by rw [hr];exact h0
  rw [← hr]
  go_enter Tryz.func185,Tryz.ntmps185
  go_wp2_with fail
  generalize w.alloc (.cells #[.int .u8 kd,.int .u32 n,.string st] 87)=W at *
  have a1:=fun s:InC (Below W.heap.size W)=>s.cell (p:=⟨w.heap.size,1,none⟩) hl1 hN
  have hF:=fun s:InC (Below W.heap.size W)=>Calls.inC s (faultW_any B c n b s.w (by have:=s.ok.size;omega) (s.cell (p:=⟨B,8,none⟩) (by show B<_;omega) hW1.bound.1))
  rw [← hr] at hF
  have HR:Hid (r=faultW c n b):=hr
  clear hr h0
  refine wp_region_class (C:=Below W.heap.size W) (by kernel_rfl) (by kernel_rfl) (below_drew W) ?_
  have hne:Nonempty (InC (Below W.heap.size W)):=⟨⟨W,Below.refl _ _⟩⟩
  repeat (go_big_quiet_step ((go_at_call 190;exact hF _)))
  refine wpQuiet_nil ?_
  rintro _ ⟨s,rfl⟩
  have hbs:=hb1.trans (s.ok.mono (by omega))
  have hW2:=hW1.below s.ok
  clear hne hF a1 hN
  go_wp2
  go_ret
  exact⟨rfl,KeepW.of_below hbs (by omega),fun h=>absurd h hr0,fun _=>hW2⟩
theorem putText_nul (B:Nat) (o:Int) (f:Frm) (b:Int) (zs:List Int) (cn:Int) (c:Int) (x:ArgT) (w:World) (hW:Wrt w B o f b zs cn) (k:Nat) (hk:k<x.2.2.size) (h:nth (strI x.2.2) k=0) :
  Calls Tryz.prog 188 #[.pointer (some ⟨B,0,none⟩),.int .u8 c,argV x] w fun e w'=>e=.returned (.int .i64 13)∧KeepW B w w':=by
 obtain⟨kd,n,st⟩:=x
 unfold argV
 simp only at *
 have hO:=fun w=>ofText_nul st w k hk h
 have hBl:=hW.lt
 clear h
 go_enter Tryz.func188,Tryz.ntmps188
 go_wp2_with fail
 refine (hO _).mono ?_
 rintro e w1 ⟨rfl,rfl⟩
 go_wp2
 go_ret
 exact⟨rfl,KeepW.of_below ((Below.refl _ w).alloc (Nat.le_refl _) _) (by omega)⟩
theorem putText_ok (B:Nat) (o:Int) (f:Frm) (b:Int) (zs:List Int) (cn:Int) (c:Int) (x:ArgT) (w:World) (hW:Wrt w B o f b zs cn) (h:NoNul x.2.2) (hs:x.2.2.size≤140737488351232) (hc:cn+((x.2.2.size / 4+1:Nat):Int)<9223372036854775808) :
  Calls Tryz.prog 188 #[.pointer (some ⟨B,0,none⟩),.int .u8 c,argV x] w fun e w'=>e=.returned (.int .i64 0)∧KeepW B w w'∧Wrt w' B o f b (putL cn ((x.2.2.size / 4+1:Nat):Int) zs (textW x.2.2)) (cn+((x.2.2.size / 4+1:Nat):Int)):=by
 obtain⟨kd,n,st⟩:=x
 unfold argV
 simp only at *
 have hBl:=hW.lt
 have hlen:=hW.len
 have hRm:=fun w=>room_any st w hs
 have hW1:=hW.below ((Below.refl _ w).alloc (Nat.le_refl _) (.cells #[.int .u8 kd,.int .u32 n,.string st] 87))
 have hb1:Below w.heap.size w (w.alloc (.cells #[.int .u8 kd,.int .u32 n,.string st] 87)):=(Below.refl _ w).alloc (Nat.le_refl _) _
 have hl1:w.heap.size<(w.alloc (.cells #[.int .u8 kd,.int .u32 n,.string st] 87)).heap.size:=by simp
 have hS:=fun i=>(one_block (alloc_new w #[.int .u8 kd,.int .u32 n,.string st] 87)).1 i
 by_cases hl:st.size / 4+1≤65535
 ·have hO:=fun w=>ofText_ok st w h hl
  have hT:=textW_len st
  clear h
  obtain⟨m,hm⟩:∃ m,m=st.size / 4+1:=⟨_,rfl⟩
  rw [← hm] at hT hl hc ⊢
  simp only [← hm] at hO hRm
  have HM:Hid (m=st.size / 4+1):=hm
  clear hm
  obtain⟨zs',hz⟩:∃ z,z=putL cn (m:Int) zs (textW st):=⟨_,rfl⟩
  rw [← hz]
  go_enter Tryz.func188,Tryz.ntmps188
  go_wp2_with fail
  generalize w.alloc (.cells #[.int .u8 kd,.int .u32 n,.string st] 87)=W at *
  refine (hO _).mono ?_
  rintro e w2 ⟨rfl,hown2,hb2⟩
  have hS2:w2.cell? ⟨w.heap.size,2,none⟩=some (.string st):=(hb2.cell (p:=⟨w.heap.size,2,none⟩) hl1).trans (hS 2)
  have hW2:=hW1.below hb2
  have hA:=add_any B o f b zs cn (m:Int) (some ⟨W.heap.size,0,none⟩) m m (textW st) w2 hW2 (View.ofRow hown2 hT) (newAt_mk (by omega)) hT (Int.le_refl _) hc
  rw [← hz] at hA
  have hK:=KeepW.of_below (hb1.trans (hb2.mono (by omega))) (show B≤w.heap.size by omega)
  clear hown2 hb2 hW1 hW2 hS hO hT hb1 hz
  go_wp2_with fail
  refine (hRm _).mono ?_
  rintro e w3 ⟨rfl,rfl⟩
  go_wp2_with fail
  refine hA.mono ?_
  rintro e w4 ⟨rfl,hk4,hW4⟩
  clear hA
  go_wp2
  go_ret
  exact⟨rfl,hK.trans hk4,hW4⟩
 ·have hO:=fun w=>ofText_large st w hs h (by omega)
  have e1:putL cn ((st.size / 4+1:Nat):Int) zs (textW st)=putL cn ((st.size / 4+1:Nat):Int) zs []:=by
   rw [putL,putL,if_neg (by omega),if_neg (by omega)]
  rw [e1]
  clear h e1
  obtain⟨m,hm⟩:∃ m,m=st.size / 4+1:=⟨_,rfl⟩
  rw [← hm] at hl hc ⊢
  simp only [← hm] at hRm
  have HM:Hid (m=st.size / 4+1):=hm
  clear hm
  obtain⟨zs',hz⟩:∃ z,z=putL cn (m:Int) zs []:=⟨_,rfl⟩
  rw [← hz]
  go_enter Tryz.func188,Tryz.ntmps188
  go_wp2_with fail
  generalize w.alloc (.cells #[.int .u8 kd,.int .u32 n,.string st] 87)=W at *
  refine (hO _).mono ?_
  rintro e w2 ⟨rfl,rfl⟩
  have hS2:W.cell? ⟨w.heap.size,2,none⟩=some (.string st):=hS 2
  have hA:=add_any B o f b zs cn (m:Int) none 0 0 [] W hW1 view_nil (fun _ _ _ e=>by cases e) rfl (by omega) hc
  rw [← hz] at hA
  have hK:=KeepW.of_below hb1 (show B≤w.heap.size by omega)
  clear hS hO hW1 hb1 hz
  go_wp2_with fail
  refine (hRm _).mono ?_
  rintro e w3 ⟨rfl,rfl⟩
  go_wp2_with fail
  refine hA.mono ?_
  rintro e w4 ⟨rfl,hk4,hW4⟩
  clear hA
  go_wp2
  go_ret
  exact⟨rfl,hK.trans hk4,hW4⟩
theorem empty_size (s:ByteArray):s.toList.isEmpty=(s.size==0):=by
 rw [ByteArray.toList_eq,Bool.eq_iff_iff,List.isEmpty_iff,← List.length_eq_zero_iff,Array.length_toList,beq_iff_eq]
 rfl
def mayStandB (c:Int) (x:ArgT):Bool:=!(c==0) && (x.1==kindI c) && (if x.1=3 then x.2.1==0 else x.2.2.size==0)
theorem mayStand_any (c:Int) (x:ArgT) (w:World) :
  Calls Tryz.prog 176 #[.int .u8 c,argV x] w fun e w'=>e=.returned (.bool (mayStandB c x))∧Below w.heap.size w w':=by
 obtain⟨kd,n,st⟩:=x
 unfold argV
 have hb1:Below w.heap.size w (w.alloc (.cells #[.int .u8 kd,.int .u32 n,.string st] 87)):=(Below.refl _ w).alloc (Nat.le_refl _) _
 have hl1:w.heap.size<(w.alloc (.cells #[.int .u8 kd,.int .u32 n,.string st] 87)).heap.size:=by simp
 have hS:=fun i=>(one_block (alloc_new w #[.int .u8 kd,.int .u32 n,.string st] 87)).1 i
 have hS0:=hS 0
 have hS1:=hS 1
 have hS2:=hS 2
 change _=some (Value.int .u8 kd) at hS0
 change _=some (Value.int .u32 n) at hS1
 change _=some (Value.string st) at hS2
 clear hS
 by_cases h0:c=0
 ·subst h0
  have e1:mayStandB 0 (kd,n,st)=false:=by simp [mayStandB]
  rw [e1]
  go_enter Tryz.func176,Tryz.ntmps176
  go_wp2_with fail
  generalize w.alloc (.cells #[.int .u8 kd,.int .u32 n,.string st] 87)=W at *
  refine wp_region_class (C:=Below W.heap.size W) (by kernel_rfl) (by kernel_rfl) (below_drew W) ?_
  have hne:Nonempty (InC (Below W.heap.size W)):=⟨⟨W,Below.refl _ _⟩⟩
  repeat (go_big_quiet_step (fail))
  refine wpQuiet_nil ?_
  rintro _ ⟨s,rfl⟩
  have hfin:=hb1.trans (s.ok.mono (by omega))
  clear hne
  go_wp2
  go_ret
  exact⟨rfl,hfin⟩
 ·have h0':(c==0)=false:=by simpa using h0
  by_cases h1:kd=kindI c
  ·have e1:mayStandB c (kd,n,st)=(if kd=3 then n==0 else st.size==0):=by simp [mayStandB,h0',h1]
   rw [e1]
   have hKc:=fun w=>kind_any c w
   rw [← h1] at hKc
   clear h1 e1
   by_cases k3:kd=3
   ·subst k3
    rw [if_pos rfl]
    go_enter Tryz.func176,Tryz.ntmps176
    go_wp2_with fail
    generalize w.alloc (.cells #[.int .u8 3,.int .u32 n,.string st] 87)=W at *
    have a0:=fun s:InC (Below W.heap.size W)=>s.cell (p:=⟨w.heap.size,0,none⟩) hl1 hS0
    have hK:=fun s:InC (Below W.heap.size W)=>Calls.inC_same s (hKc s.w)
    refine wp_region_class (C:=Below W.heap.size W) (by kernel_rfl) (by kernel_rfl) (below_drew W) ?_
    have hne:Nonempty (InC (Below W.heap.size W)):=⟨⟨W,Below.refl _ _⟩⟩
    repeat (go_big_quiet_step ((go_at_call 187;exact hK _)))
    refine wpQuiet_nil ?_
    rintro _ ⟨s,rfl⟩
    have hfin:=hb1.trans (s.ok.mono (by omega))
    have k0:=s.cell (p:=⟨w.heap.size,0,none⟩) hl1 hS0
    have k1:=s.cell (p:=⟨w.heap.size,1,none⟩) hl1 hS1
    have k2:=s.cell (p:=⟨w.heap.size,2,none⟩) hl1 hS2
    clear hne hK a0 hS0 hS1 hS2 hKc
    go_wp2
    go_ret
    exact⟨rfl,hfin⟩
   ·rw [if_neg k3]
    go_enter Tryz.func176,Tryz.ntmps176
    go_wp2_with fail
    generalize w.alloc (.cells #[.int .u8 kd,.int .u32 n,.string st] 87)=W at *
    have a0:=fun s:InC (Below W.heap.size W)=>s.cell (p:=⟨w.heap.size,0,none⟩) hl1 hS0
    have hK:=fun s:InC (Below W.heap.size W)=>Calls.inC_same s (hKc s.w)
    refine wp_region_class (C:=Below W.heap.size W) (by kernel_rfl) (by kernel_rfl) (below_drew W) ?_
    have hne:Nonempty (InC (Below W.heap.size W)):=⟨⟨W,Below.refl _ _⟩⟩
    repeat (go_big_quiet_step ((go_at_call 187;exact hK _)))
    refine wpQuiet_nil ?_
    rintro _ ⟨s,rfl⟩
    have hfin:=hb1.trans (s.ok.mono (by omega))
    have k0:=s.cell (p:=⟨w.heap.size,0,none⟩) hl1 hS0
    have k1:=s.cell (p:=⟨w.heap.size,1,none⟩) hl1 hS1
    have k2:=s.cell (p:=⟨w.heap.size,2,none⟩) hl1 hS2
    clear hne hK a0 hS0 hS1 hS2 hKc
    go_wp2
    go_ret
    refine⟨?_,hfin⟩
    show Ending.returned (Value.bool st.toList.isEmpty)=_
    rw [empty_size]
  ·have e1:mayStandB c (kd,n,st)=false:=by simp [mayStandB,h0',h1]
   rw [e1]
   have h1':(kd==kindI c)=false:=by simpa using h1
   go_enter Tryz.func176,Tryz.ntmps176
   go_wp2_with fail
   generalize w.alloc (.cells #[.int .u8 kd,.int .u32 n,.string st] 87)=W at *
   have a0:=fun s:InC (Below W.heap.size W)=>s.cell (p:=⟨w.heap.size,0,none⟩) hl1 hS0
   have hK:=fun s:InC (Below W.heap.size W)=>Calls.inC_same s (kind_any c s.w)
   generalize kindI c=kc at *
   refine wp_region_class (C:=Below W.heap.size W) (by kernel_rfl) (by kernel_rfl) (below_drew W) ?_
   have hne:Nonempty (InC (Below W.heap.size W)):=⟨⟨W,Below.refl _ _⟩⟩
   repeat (go_big_quiet_step ((go_at_call 187;exact hK _)))
   refine wpQuiet_nil ?_
   rintro _ ⟨s,rfl⟩
   have hfin:=hb1.trans (s.ok.mono (by omega))
   clear hne hK a0
   go_wp2
   go_ret
   exact⟨rfl,hfin⟩
theorem putter_any (B:Nat) (k:Int) (w:World) :
  Calls Tryz.prog 177 #[.pointer (some ⟨B,0,none⟩),.int .u8 k] w fun e w'=>e=.returned (if k=3 then .func (.func 188) #[.pointer (some ⟨B,0,none⟩)] #[] else .func (.func 185) #[.pointer (some ⟨B,0,none⟩)] #[])∧w=w':=by
 by_cases h:k=3
 ·subst h
  rw [if_pos rfl]
  go_enter Tryz.func177,Tryz.ntmps177
  go_wp2
  go_ret
  exact⟨rfl,rfl⟩
 ·rw [if_neg h]
  go_enter Tryz.func177,Tryz.ntmps177
  go_wp2
  go_ret
  exact⟨rfl,rfl⟩
end Go.Proofs.YtoebhgpciinkgaaGreatDoor
