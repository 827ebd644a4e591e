/-
  Texts laid together in one: FrameHeadFault, FrameReadHead, FrameApart, FrameParts.
-/
import Derived.WalkSpells
import Derived.Test.YtddkapkkjhomkabGreatDoorM02
import Derived.Test.YtddkapkkjhomkabGreatDoorM07
import Derived.BigRegion
import Derived.Deep.QuietTactic
import Derived.BigQuiet
import Derived.Test.YtddkapkkjhomkabGreatDoorM06
import Derived.RangeFuncNested
import Derived.RangeFuncBound
import Derived.RangeFuncCalls
import Derived.RangeFuncLeaves
import Derived.Shelf.Abstract
import Derived.Shelf.RegionOpen
import Derived.WalkKit
import Derived.OwnWalkIn
import Derived.TacticsInMore
import Derived.LoopNIn
import Derived.LoopIn
import Derived.Test.YtddkapkkjhomkabGreatDoorM03
set_option linter.unusedVariables false
set_option linter.unusedSimpArgs false
set_option maxRecDepth 10000
namespace Go.Proofs.YtddkapkkjhomkabGreatDoor
open Go.RowKit

theorem turned_magic:turnI 119734787=50471687:=by decide
set_option maxHeartbeats 1000000 in
theorem headFault_any (k:Nat) (x:Int) (w:World) (hk:k < 5) (hx0:0≤x) (hx1:x < 4294967296) :
  Calls Tryz.prog 117 #[.int .i64 k,.int .u32 x] w fun e w'=>e=.returned (.int .i64 (wrongE k x))∧w=w':=by
 have hT:=fun w=>turned_any 119734787 w (by omega) (by omega)
 rw [turned_magic] at hT
 have hM:=fun w=>mayBeBound_any x w hx0 hx1
 rcases (show k=0 ∨ k=1 ∨ k=2 ∨ k=3 ∨ k=4 by omega) with rfl | rfl | rfl | rfl | rfl
 ·clear hM
  by_cases h1:x=50471687
  ·have HE:Hid (wrongE 0 x=21):=by show _=_;simp [wrongE,h1]
   have b1:(x == 50471687)=true:=by simpa using h1
   clear h1
   go_enter Tryz.func117,Tryz.ntmps117
   go_wp2_with (go_at_call 140;refine (hT _).mono ?_;rintro e w' ⟨rfl,rfl⟩)
   go_ret
   exact ⟨ret_int HE.out.symm,rfl⟩
  ·have b1:(x == 50471687)=false:=by simpa using h1
   by_cases h2:x=119734787
   ·have HE:Hid (wrongE 0 x=0):=by show _=_;simp [wrongE,h2]
    have b2:(x == 119734787)=true:=by simpa using h2
    clear h1 h2
    go_enter Tryz.func117,Tryz.ntmps117
    go_wp2_with (go_at_call 140;refine (hT _).mono ?_;rintro e w' ⟨rfl,rfl⟩)
    go_ret
    exact ⟨ret_int HE.out.symm,rfl⟩
   ·have HE:Hid (wrongE 0 x=20):=by show _=_;simp [wrongE,h1,h2]
    have b2:(x == 119734787)=false:=by simpa using h2
    clear h1 h2
    go_enter Tryz.func117,Tryz.ntmps117
    go_wp2_with (go_at_call 140;refine (hT _).mono ?_;rintro e w' ⟨rfl,rfl⟩)
    go_ret
    exact ⟨ret_int HE.out.symm,rfl⟩
 ·clear hM hT
  by_cases h1:x=65536
  ·have HE:Hid (wrongE 1 x=0):=by show _=_;simp [wrongE,h1]
   have b1:(x == 65536)=true:=by simpa using h1
   clear h1
   go_enter Tryz.func117,Tryz.ntmps117
   go_wp2
   go_ret
   exact ⟨ret_int HE.out.symm,rfl⟩
  ·have HE:Hid (wrongE 1 x=22):=by show _=_;simp [wrongE,h1]
   have b1:(x == 65536)=false:=by simpa using h1
   clear h1
   go_enter Tryz.func117,Tryz.ntmps117
   go_wp2
   go_ret
   exact ⟨ret_int HE.out.symm,rfl⟩
 ·clear hM hT
  go_enter Tryz.func117,Tryz.ntmps117
  go_wp2
  go_ret
  exact ⟨rfl,rfl⟩
 ·clear hT
  by_cases h1:x=0 ∨ 65536 < x
  ·have HE:Hid (wrongE 3 x=24):=by show _=_;rcases h1 with h1 | h1 <;> simp [wrongE,h1]
   have e1:(!(decide (x=0) || decide (65536 < x)))=false:=by rcases h1 with h1 | h1 <;> simp [h1]
   rw [e1] at hM
   clear h1 e1
   go_enter Tryz.func117,Tryz.ntmps117
   go_wp2_with (go_at_call 88;refine (hM _).mono ?_;rintro e w' ⟨rfl,rfl⟩)
   go_ret
   exact ⟨ret_int HE.out.symm,rfl⟩
  ·have HE:Hid (wrongE 3 x=0):=by show _=_;simp [wrongE,show ¬ x=0 from fun h=>h1 (.inl h),show ¬ 65536 < x from fun h=>h1 (.inr h)]
   have e1:(!(decide (x=0) || decide (65536 < x)))=true:=by simp [show ¬ x=0 from fun h=>h1 (.inl h),show ¬ 65536 < x from fun h=>h1 (.inr h)]
   rw [e1] at hM
   clear h1 e1
   go_enter Tryz.func117,Tryz.ntmps117
   go_wp2_with (go_at_call 88;refine (hM _).mono ?_;rintro e w' ⟨rfl,rfl⟩)
   go_ret
   exact ⟨ret_int HE.out.symm,rfl⟩
 ·clear hM hT
  by_cases h1:x=0
  ·have HE:Hid (wrongE 4 x=0):=by show _=_;simp [wrongE,h1]
   have b1:(x == 0)=true:=by simpa using h1
   clear h1
   go_enter Tryz.func117,Tryz.ntmps117
   go_wp2
   go_ret
   exact ⟨ret_int HE.out.symm,rfl⟩
  ·have HE:Hid (wrongE 4 x=23):=by show _=_;simp [wrongE,h1]
   have b1:(x == 0)=false:=by simpa using h1
   clear h1
   go_enter Tryz.func117,Tryz.ntmps117
   go_wp2
   go_ret
   exact ⟨ret_int HE.out.symm,rfl⟩
def headAt (zs:List Int) (i:Nat):Int:=if (headE zs 0).1=0 then nth zs i else 0
theorem headE_any (zs:List Int):headE zs 0=(0,0) ∨ (headE zs 0).1≠0:=by
 have key:∀ f k,headF zs f k=(0,0) ∨ (headF zs f k).1≠0:=by
  intro f
  induction f with
  | zero=>intro k;exact .inl rfl
  | succ f ih =>
   intro k
   rw [headF]
   split
   ·split
    ·exact .inr (by simp)
    ·split
     ·next h=>exact .inr h
     ·exact ih (k+1)
   ·exact .inl rfl
 exact key _ _
set_option maxHeartbeats 1000000 in
theorem readHead_any (a:Option Addr) (n cap:Nat) (zs:List Int) (w:World) (ha:View .u32 w a zs) (hl:zs.length=n) (hw:Within 4294967296 zs) (hn:n≤1048576) :
  Calls Tryz.prog 80 #[.slice a n cap] w fun e w'=>e=.returned (.tuple #[.agg #[.int .u32 (headAt zs 2),.int .u32 (headAt zs 3)],.agg #[.int .i64 (headE zs 0).1,.int .i64 (headE zs 0).2]])∧Below w.heap.size w w':=by
 have HL:Hid (zs.length=n):=hl
 have hav:=ha.below (((Below.refl _ w).alloc (Nat.le_refl _) (.cells #[.int .u32 0,.int .u32 0] 100)).alloc (by simp) (.cells #[.int .i64 0,.int .i64 0] 28))
 clear hl ha
 go_enter Tryz.func80,Tryz.ntmps80
 go_wp2
 go_loop [6] (fun i=>∃ k:Nat,k≤5∧k≤n∧i=.int .i64 k∧headE zs 0=headE zs k) (fun i=>5 - (intOf i).toNat)
 case atStart=>exact ⟨0,by omega,by omega,rfl,rfl⟩
 case round =>
  obtain ⟨k,hk,hkn,rfl,hke⟩:=hrel
  have HK:Hid (headE zs 0=headE zs k):=hke
  clear hke
  by_cases hk5:k < 5
  ·have HS:Hid (headE zs k=if n≤k then (14,k) else if wrongE k (nth zs k)≠0 then (wrongE k (nth zs k),k) else headE zs (k+1)):=by
    have:=headE_step zs k hk5
    rw [HL.out] at this
    exact this
   by_cases hlt:k < n
   ·obtain ⟨b,off,rfl,_,hc⟩:=hav k (by rw [HL.out];exact hlt)
    have hb:=hw.at (k:=k) (by rw [HL.out];exact hlt)
    have hW:=fun wx=>headFault_any k (nth zs k) wx hk5 hb.1 hb.2
    have hki:((k:Int) == (n:Int))=false:=by simp;omega
    have hki2:(k:Int) < (n:Int):=by omega
    clear hav hb
    generalize nth zs k=x at hc hW HS
    by_cases hx:wrongE k x=0
    ·have HE2:Hid (headE zs 0=headE zs (k+1)):=by show _=_;rw [HK.out,HS.out,if_neg (by omega),if_neg (by simp [hx])]
     rw [hx] at hW
     go_wp2_with (go_at_call 117;refine (hW _).mono ?_;rintro e w' ⟨rfl,rfl⟩)
     go_round
     case rel=>exact ⟨k+1,by omega,by omega,by go_num,HE2.out⟩
     case measure=>simp [intOf];omega
    ·have HE2:Hid (headE zs 0=(wrongE k x,k)):=by show _=_;rw [HK.out,HS.out,if_neg (by omega),if_pos hx]
     have HA:Hid (∀ i,headAt zs i=0):=fun i=>by unfold headAt;rw [HE2.out,if_neg hx]
     have hxb:(wrongE k x == 0)=false:=by simpa using hx
     clear hx
     generalize wrongE k x=er at hW hxb HE2
     go_wp2_with (go_at_call 117;refine (hW _).mono ?_;rintro e w' ⟨rfl,rfl⟩)
     exact bodyPost_ret (v:=.tuple #[.agg #[.int .u32 0,.int .u32 0],.agg #[.int .i64 er,.int .i64 k]]) (by simp [results,Tryz.results80,go_sem]) rfl ⟨by rw [HE2.out,HA.out,HA.out],((Below.refl _ _).alloc (Nat.le_refl _) _).alloc (by simp) _⟩
   ·have HE2:Hid (headE zs 0=(14,k)):=by show _=_;rw [HK.out,HS.out,if_pos (by omega)]
    have HA:Hid (∀ i,headAt zs i=0):=fun i=>by unfold headAt;rw [HE2.out,if_neg (by simp)]
    have hki:((k:Int) == (n:Int))=true:=by simp;omega
    go_wp2
    exact bodyPost_ret (v:=.tuple #[.agg #[.int .u32 0,.int .u32 0],.agg #[.int .i64 14,.int .i64 k]]) (by simp [results,Tryz.results80,go_sem]) rfl ⟨by rw [HE2.out,HA.out,HA.out],((Below.refl _ _).alloc (Nat.le_refl _) _).alloc (by simp) _⟩
  ·obtain rfl:k=5:=by omega
   have HE2:Hid (headE zs 0=(0,0)):=by show _=_;rw [HK.out,headE_end]
   have HA:Hid (∀ i,headAt zs i=nth zs i):=fun i=>by unfold headAt;rw [HE2.out,if_pos rfl]
   obtain ⟨b,off,rfl,_,hc2⟩:=hav 2 (by rw [HL.out];omega)
   obtain ⟨b',off',e',_,hc3⟩:=hav 3 (by rw [HL.out];omega)
   simp at e'
   obtain ⟨rfl,rfl⟩:=e'
   clear hav
   have h2n:(2:Int) < (n:Int):=by omega
   have h3n:(3:Int) < (n:Int):=by omega
   go_wp2
   go_region
   all_goals go_wp2
   all_goals
    refine bodyPost_ret (v:=.tuple #[.agg #[.int .u32 (nth zs 2),.int .u32 (nth zs 3)],.agg #[.int .i64 0,.int .i64 0]]) (by simp [results,Tryz.results80,go_sem]) rfl ⟨?_,?_⟩
    ·rw [HE2.out,HA.out,HA.out];rfl
    ·first
      | exact ((Below.refl _ _).alloc (Nat.le_refl _) _).alloc (by simp) _
      | exact (((Below.refl _ _).alloc (Nat.le_refl _) _).alloc (by simp) _).drew
set_option maxHeartbeats 1000000 in
theorem apart_any (op:Int) (x:Addr) (n cap:Nat) (ms:List Int) (w:World) (hv:View .u32 w (some x) ms) (hl:ms.length=n) (hn:4 * n≤140737488351232) :
  Calls Tryz.prog 82 #[.agg #[.int .u16 op,.slice (some x) n cap]] w fun e w'=>∃ g cx,e=.returned (.agg #[.int .u16 op,.slice (some ⟨g,0,none⟩) n cx]) ∧
   w'.ownsRow (w.heap.size+2) 22 1 (.slice (some ⟨g,0,none⟩) n cx) n (ms.map (Value.int .u32))∧Below w.heap.size w w':=by
 have hB:Below w.heap.size w ((w.alloc (.cells #[.int .u16 op,.slice (some x) n cap] 54)).alloc (.cells #[.int .u16 0,.slice none 0 0] 54)):=((Below.refl _ w).alloc (Nat.le_refl _) _).alloc (by simp) _
 have hC:=fun wx (hb:Below ((w.alloc (.cells #[.int .u16 op,.slice (some x) n cap] 54)).alloc (.cells #[.int .u16 0,.slice none 0 0] 54)).heap.size ((w.alloc (.cells #[.int .u16 op,.slice (some x) n cap] 54)).alloc (.cells #[.int .u16 0,.slice none 0 0] 54)) wx)=>clone_some x n cap ms wx ((hv.below hB).below hb) hl hn
 have hr0:((w.alloc (.cells #[.int .u16 op,.slice (some x) n cap] 54)).alloc (.cells #[.int .u16 0,.slice none 0 0] 54)).heap[w.heap.size]?=some (.cells #[.int .u16 op,.slice (some x) n cap] 54 (0,0)):=by
  rw [Below.heap_alloc _ _ _ (by simp)];exact heap_alloc_new w _
 have hr1:((w.alloc (.cells #[.int .u16 op,.slice (some x) n cap] 54)).alloc (.cells #[.int .u16 0,.slice none 0 0] 54)).heap[w.heap.size+1]?=some (.cells #[.int .u16 0,.slice none 0 0] 54 (0,0)):=by
  have:=heap_alloc_new (w.alloc (.cells #[.int .u16 op,.slice (some x) n cap] 54)) (.cells #[.int .u16 0,.slice none 0 0] 54)
  simpa using this
 clear hv hl
 go_enter Tryz.func82,Tryz.ntmps82
 go_wp2
 go_region_with (go_at_call 84;refine (hC _ (by first | exact Below.refl _ _ | exact (Below.refl _ _).drew)).mono ?_;rintro e w' ⟨g,cx,rfl,hown,hbC⟩;obtain ⟨c0,c1,_⟩:=cell_of_two ((hbC.block _ (by simp;omega)).trans hr0);obtain ⟨d0,d1,f1⟩:=cell_of_two ((hbC.block _ (by simp)).trans hr1);have f0:w'.frozen? ⟨w.heap.size+1,0,none⟩=false:=(by simp [World.frozen?,(hbC.block _ (by simp)).trans hr1]))
 all_goals
  have hres:=(hbC.block _ (by simp)).trans hr1
  have hfin:((w'.setCell ⟨w.heap.size+1,0,none⟩ (.int .u16 op)).setCell ⟨w.heap.size+1,1,none⟩ (.slice (some ⟨g,0,none⟩) n cx)).heap[w.heap.size+1]?=some (.cells #[.int .u16 op,.slice (some ⟨g,0,none⟩) n cx] 54 (0,0)):=by
   simp only [World.setCell,Array.getElem?_modify,hres];simp
  obtain ⟨z0,z1,_⟩:=cell_of_two hfin
  have HZ0:Hid (_=_):=z0
  have HZ1:Hid (_=_):=z1
  have hown1:w'.ownsRow (w.heap.size+2) 22 1 (.slice (some ⟨g,0,none⟩) n cx) n (ms.map (Value.int .u32)):=own_base hown (by simp)
  have hown2:=ownsRow_setCell_below (ownsRow_setCell_below hown1 (a:=⟨w.heap.size+1,0,none⟩) (by simp) (.int .u16 op)) (a:=⟨w.heap.size+1,1,none⟩) (by simp) (.slice (some ⟨g,0,none⟩) n cx)
  have hbw:Below w.heap.size w ((w'.setCell ⟨w.heap.size+1,0,none⟩ (.int .u16 op)).setCell ⟨w.heap.size+1,1,none⟩ (.slice (some ⟨g,0,none⟩) n cx)):=((hB.trans ((by first | exact hbC | exact ((Below.refl _ _).drew).trans hbC:Below _ _ w').mono (by simp;omega))).setCell (p:=⟨w.heap.size+1,0,none⟩) (by simp) _).setCell (p:=⟨w.heap.size+1,1,none⟩) (by simp) _
  clear z0 z1 hfin hres hown hown1 hbC c0 c1
  go_wp2
  exact bodyPost_ret (v:=.agg #[.int .u16 op,.slice (some ⟨g,0,none⟩) n cx]) (by simp [results,Tryz.results82,go_sem,HZ0.out,HZ1.out]) rfl ⟨g,cx,rfl,by first | exact hown2 | exact own_below hown2 (bel_drewN (Below.refl _ _) 1),by first | exact hbw | exact hbw.drew⟩
end Go.Proofs.YtddkapkkjhomkabGreatDoor
namespace Go.Proofs.YtddkapkkjhomkabGreatDoor
open Go.RowKit Go.Shelf
attribute [local go_sem] Oper.semAt_some

theorem parts_any (a:Option Addr) (n cap:Nat) (w:World) :
  Calls Tryz.prog 81 #[.slice a n cap] w fun e w'=>e=.returned (.func (.func 118) #[] #[.pointer (some ⟨w.heap.size,0,none⟩)])∧w.alloc (.cells #[.slice a n cap] 52)=w':=by
 go_enter Tryz.func81,Tryz.ntmps81
 go_wp2
 go_ret
 exact ⟨rfl,rfl⟩
def further (a:Option Addr) (cap k:Nat):Option Addr:=if cap=k then a else a.map fun x=>⟨x.block,x.off+k,none⟩
def partV (a:Option Addr) (cap:Nat) (zs:List Int) (p:Nat):Array Value:=#[.int .i64 p,.agg #[.int .u16 (opI zs p),.slice (further a cap (p+1)) (p+cntN zs p - (p+1)) (cap - (p+1))]]
set_option maxRecDepth 100000 in
set_option maxHeartbeats 2000000 in
theorem parts_tells (a:Option Addr) (n cap:Nat) (zs:List Int) (w0:World) (ha:View .u32 w0 a zs) (hl:zs.length=n) (hw:Within 4294967296 zs) (hn:4 * n≤140737488351232) (hc:n≤cap) (τ:TypeId→Prop) (hτ:τ 52)
  (w:World) (B:Nat) (hb:Below w0.heap.size w0 w) (hB:w.heap[B]?=some (.cells #[.slice a n cap] 52 (0,0))) :
  Tells Tryz.prog 118 #[.pointer (some ⟨B,0,none⟩)] (partV a cap zs) (fun pre p _=>pre ++ [p] <+: rest zs 5) w0.heap.size τ (fun xs=>xs=rest zs 5) (fun pre=>pre <+: rest zs 5) w:=by
 intro l J Jx W hW hJ hJx hY h0
 have hBW:W.heap[B]?=some (.cells #[.slice a n cap] 52 (0,0)):=(hW.block B (Array.getElem?_eq_some_iff.1 hB).1).trans hB
 have hbW:Below w0.heap.size w0 W:=hb.trans (hW.mono hb.size)
 have HL:Hid (zs.length=n):=hl
 clear hl hB hb hW
 refine callsIn_of_wp Tryz.func118 rfl trivial ?_ rfl
 simp only [Tryz.ntmps118,List.size_toArray,List.length_cons,List.length_nil,Nat.reduceAdd,Nat.reduceSub,Array.replicate_succ,Array.replicate_zero,List.push_toArray,List.append_toArray,List.nil_append,List.cons_append]
 gi_wp2
 gi_loopw [3] (fun i wr=>∃ (p:Nat) (pre:List Nat),i=.int .i64 p∧pre ++ rest zs p=rest zs 5∧(p=5 ∨ p≤n)∧J pre wr∧wr.heap[B]?=some (.cells #[.slice a n cap] 52 (0,0))∧Below w0.heap.size w0 wr) (fun i _=>n - (intOf i).toNat)
 case atStart=>exact ⟨5,[],rfl,rfl,.inl rfl,h0,hBW,hbW⟩
 case round =>
  obtain ⟨p,pre,rfl,hpre,hpn,hJs,hBr,hbr⟩:=hrel
  clear hBW hbW h0
  have HP:Hid (pre ++ rest zs p=rest zs 5):=hpre
  clear hpre
  have hbx:wr.cell? ⟨B,0,none⟩=some (.slice a n cap):=by simp [World.cell?,hBr]
  by_cases hlt:p < n
  ·have hav:=ha.below hbr
   obtain ⟨b,off,rfl,_,hc1⟩:=hav p (by rw [HL.out];exact hlt)
   have hx:=hw.at (k:=p) (by rw [HL.out];exact hlt)
   have hF:=fun wx=>partFirst_any (nth zs p) wx hx.1 hx.2
   have hcn:nth zs p / 65536=(cntN zs p:Int):=cntN_int zs p hx.1
   have hop:nth zs p % 65536=opI zs p:=rfl
   rw [hcn,hop] at hF
   have hpi:(p:Int) < (n:Int):=by omega
   clear hav hx hcn hop
   cases hbad:badB zs p with
   | true =>
    have HE:Hid (pre=rest zs 5):=by
     have e1:=HP.out
     rw [rest_bad zs p (by rw [HL.out];exact hlt) hbad,List.append_nil] at e1
     exact e1
    have hcc:cntN zs p=0 ∨ n < p+cntN zs p:=by
     have:=hbad
     unfold badB at this
     rw [HL.out] at this
     simpa using this
    clear hbad
    generalize cntN zs p=c at *
    generalize opI zs p=op at *
    generalize nth zs p=x at *
    rcases hcc with rfl | hcc
    ·gi_wp2_with fail
     refine ⟨trivial,rfl,(callsIn_wide.2 (hF _)).mono ?_⟩
     rintro e w' ⟨rfl,rfl⟩
     gi_wp2
     refine bodyPost_ret (results_none rfl _ _ _) rfl ?_
     exact ⟨⟨_,rfl⟩,.inl ⟨pre,HE.out,hJs⟩⟩
    ·by_cases hc0:c=0
     ·subst hc0
      gi_wp2_with fail
      refine ⟨trivial,rfl,(callsIn_wide.2 (hF _)).mono ?_⟩
      rintro e w' ⟨rfl,rfl⟩
      gi_wp2
      refine bodyPost_ret (results_none rfl _ _ _) rfl ?_
      exact ⟨⟨_,rfl⟩,.inl ⟨pre,HE.out,hJs⟩⟩
     ·have b1:((c:Int) == 0)=false:=by simpa using hc0
      have b2:(n:Int) - (p:Int) < (c:Int):=by omega
      have b3:decide ((n:Int) - (p:Int) < (c:Int))=true:=decide_eq_true b2
      gi_wp2_with fail
      refine ⟨trivial,rfl,(callsIn_wide.2 (hF _)).mono ?_⟩
      rintro e w' ⟨rfl,rfl⟩
      gi_wp2
      refine bodyPost_ret (results_none rfl _ _ _) rfl ?_
      exact ⟨⟨_,rfl⟩,.inl ⟨pre,HE.out,hJs⟩⟩
   | false =>
    have hgo:=rest_go zs p (by rw [HL.out];exact hlt) hbad
    have HG:Hid (rest zs p=p :: rest zs (p+cntN zs p)):=hgo
    have hc0:=cnt_pos hbad
    have hcf:=cnt_fits hbad
    rw [HL.out] at hcf
    have HPX:Hid (pre ++ [p] <+: rest zs 5):=by
     show _ <+: _
     rw [← HP.out,hgo]
     exact ⟨rest zs (p+cntN zs p),by simp⟩
    obtain ⟨fn,tmps,assign,body,hy,hR⟩:=hY pre p wr hJs HPX.out
    simp only [partV] at hy
    clear hbad hgo
    generalize cntN zs p=c at *
    generalize opI zs p=op at *
    generalize nth zs p=x at *
    have b1:((c:Int) == 0)=false:=by simp;omega
    have b3:decide ((n:Int) - (p:Int) < (c:Int))=false:=decide_eq_false (by omega)
    by_cases hcap:cap=p+1
    ·subst hcap
     rw [show further (some ⟨b,off,none⟩) (p+1) (p+1)=some ⟨b,off,none⟩ from if_pos rfl,Nat.sub_self] at hy
     gi_wp2_with fail
     refine ⟨trivial,rfl,(callsIn_wide.2 (hF _)).mono ?_⟩
     rintro e w' ⟨rfl,rfl⟩
     gi_wp2_with fail
     refine ⟨rfl,hR.mono ?_⟩
     rintro e W3 ⟨_,⟨rfl,hJ3,hk3⟩ | ⟨rfl,hJx3⟩⟩
     ·have hB3:=hk3.2 B _ _ _ hτ hBr
      have hb3:Below w0.heap.size w0 W3:=hbr.trans hk3.1
      clear hy hR hY
      gi_wp2
      go_roundw
      case rel=>exact ⟨p+c,pre ++ [p],by go_num,by rw [List.append_assoc,List.singleton_append,← HG.out];exact HP.out,.inr hcf,hJ3,hB3,hb3⟩
      case measure=>simp [intOf];omega
     ·clear hy hR hY
      gi_wp2
      refine bodyPost_ret (results_none rfl _ _ _) rfl ?_
      exact ⟨⟨_,rfl⟩,.inr ⟨_,HPX.out,hJx3⟩⟩
    ·rw [show further (some ⟨b,off,none⟩) cap (p+1)=some ⟨b,off+(p+1),none⟩ from if_neg hcap] at hy
     gi_wp2_with fail
     refine ⟨trivial,rfl,(callsIn_wide.2 (hF _)).mono ?_⟩
     rintro e w' ⟨rfl,rfl⟩
     gi_wp2_with fail
     refine ⟨rfl,hR.mono ?_⟩
     rintro e W3 ⟨_,⟨rfl,hJ3,hk3⟩ | ⟨rfl,hJx3⟩⟩
     ·have hB3:=hk3.2 B _ _ _ hτ hBr
      have hb3:Below w0.heap.size w0 W3:=hbr.trans hk3.1
      clear hy hR hY
      gi_wp2
      go_roundw
      case rel=>exact ⟨p+c,pre ++ [p],by go_num,by rw [List.append_assoc,List.singleton_append,← HG.out];exact HP.out,.inr hcf,hJ3,hB3,hb3⟩
      case measure=>simp [intOf];omega
     ·clear hy hR hY
      gi_wp2
      refine bodyPost_ret (results_none rfl _ _ _) rfl ?_
      exact ⟨⟨_,rfl⟩,.inr ⟨_,HPX.out,hJx3⟩⟩
  ·have HE:Hid (pre=rest zs 5):=by
    have e1:=HP.out
    rw [rest_end zs p (by rw [HL.out];omega),List.append_nil] at e1
    exact e1
   have hpi:(n:Int)≤(p:Int):=by omega
   gi_wp2
   go_end0
   exact ⟨⟨_,rfl⟩,.inl ⟨pre,HE.out,hJs⟩⟩
end Go.Proofs.YtddkapkkjhomkabGreatDoor
