/-
  Texts laid together in one: AsmEnd, Jumps, AsmRead0, AsmRead1, AsmRead2.
-/
import Derived.WalkSpells
import Derived.WalkMore
import Derived.BigRegion
import Derived.Deep.RegionWith
import Derived.Test.YtddkapkkjhomkabGreatDoorProg
import Derived.Test.YtddkapkkjhomkabGreatDoorM21
import Derived.Test.YtddkapkkjhomkabGreatDoorM13
import Derived.Test.YtddkapkkjhomkabGreatDoorM05
import Derived.Test.YtddkapkkjhomkabGreatDoorM11
import Derived.WalkKit
import Derived.ScopeJumps
import Derived.Test.YtddkapkkjhomkabGreatDoorM17
import Derived.Deep.RegionLaw
import Derived.Deep.AppendLies
import Derived.Test.YtddkapkkjhomkabGreatDoorM04
import Derived.OwnWalk
set_option linter.unusedVariables false
set_option linter.unusedSimpArgs false
set_option maxRecDepth 10000
namespace Go.Proofs.YtddkapkkjhomkabGreatDoor
open Go.RowKit

theorem lt_ad9 (W:World):W.heap.size < (W.alloc (.cells #[.int .u16 0,.slice none 0 0] 54)).drew.heap.size:=by show _ < (W.alloc _).heap.size;simp
theorem rawbox_e {W w8:World} {x0 x1:Value} {T:Nat} (hb:Below (W.alloc (.cells #[x0,x1] T)).drew.heap.size (W.alloc (.cells #[x0,x1] T)).drew w8) (u0 u1:Value):((w8.setCell ⟨W.heap.size,0,none⟩ u0).setCell ⟨W.heap.size,1,none⟩ u1).heap[W.heap.size]?=some (.cells #[u0,u1] T (0,0))∧Below W.heap.size W ((w8.setCell ⟨W.heap.size,0,none⟩ u0).setCell ⟨W.heap.size,1,none⟩ u1):=by
 have k8:w8.heap[W.heap.size]?=some (.cells #[x0,x1] T (0,0)):=(hb.block _ (by show _ < (W.alloc _).heap.size;simp)).trans (heap_alloc_new W _)
 obtain ⟨a,b⟩:=two_putB k8 u0 u1
 have h1:Below W.heap.size W (W.alloc (.cells #[x0,x1] T)).drew:=((Below.refl _ W).alloc (Nat.le_refl _) _).drew
 exact ⟨a,(h1.trans (hb.mono h1.size)).trans b⟩
def EndQ (w':World) (B:Nat) (a:Option Addr) (n c k:Nat) (len b fo:Int) (f:Frm) (x:InstT) (av:Value) (E P:Int):Prop :=
 if (fitsI (lookF refT fo).2 (lookF refT fo).1 (kindsL x.2.2.2)).2=false then E=72∧P=len
 else E=rawE x b∧P=0∧Rea w' B a n c k len b fo f x.1 x.2.1 x.2.2.1 av (1+((rawWs x b).length:Int))
set_option maxHeartbeats 4000000 in
theorem end_any (B:Nat) (a:Option Addr) (n c k:Nat) (len b fo:Int) (f:Frm) (io it ir:Int) (xs:List ArgT) (ax:Option Addr) (m cx:Nat) (wd:Int) (w:World) (h:Rea w B a n c k len b fo f io it ir (.slice ax m cx) wd) (hv:ArgsV w ax xs) (hl:xs.length=m) (hok:InstOk (io,it,ir,xs)) :
  Calls Tryz.prog 151 #[.pointer (some ⟨B,0,none⟩)] w fun x w'=>∃ E P:Int,x=.returned (.agg #[.int .i64 E,.int .i64 P])∧w.grownBy w' (some B)∧EndQ w' B a n c k len b fo f (io,it,ir,xs) (.slice ax m cx) E P:=by
 have hm:24 * m≤140737488351232:=by have:=hok.2.2.2.2.2.2.2;simp only at this;omega
 obtain ⟨i0,hi,hz0,hz1,hz2⟩:=info_parts Whole.info
 have HL:Hid (xs.length=m):=hl
 have hF:=fun (g:Nat) (w:World) (h:View .u8 w (some ⟨g,0,none⟩) (kindsL xs))=>fits_any fo (some ⟨g,0,none⟩) m m (kindsL xs) w h (by rw [kindsL,List.length_map];exact hl) (by omega)
 have HRw:=hide (fun (wx:World) (hx:ArgsV wx ax xs)=>raw_any (io,it,ir,xs) b ax m cx wx hx hok hl)
 have HWL:=hide (rawWs_len (io,it,ir,xs) b)
 unfold EndQ
 simp only
 generalize rawE (io,it,ir,xs) b=rE at *
 generalize rawO (io,it,ir,xs) b=rO at *
 generalize rawWs (io,it,ir,xs) b=rW at *
 generalize fitsI (lookF refT fo).2 (lookF refT fo).1 (kindsL xs)=r at hF ⊢
 obtain ⟨kS,hb⟩:=spot_box w
 have hlt:=h.lt
 have hlt0:=hide hlt
 have hR:=h.below hb
 have hvW:=hv.below hb
 have hsW:w.heap.size < (w.alloc (.cells #[.int .i64 0,.int .i64 0] 28)).heap.size:=by simp
 have hW:(w.alloc (.cells #[.int .i64 0,.int .i64 0] 28)).heap.size=w.heap.size+1:=by simp
 have HS:=hide kS
 have HB:=hide hb
 have HR:=hide hR
 have HV:=hide hvW
 have g15:w.cell? ⟨B,15,none⟩=some (.slice ax m cx):=(blk_cells h.block).1 15
 clear kS hb hR hvW hl hok hv h
 go_enter Tryz.func151,Tryz.ntmps151
 go_wp2_with (at_make;refine wpList_make_full _ rfl _ _ 58 rfl (w.alloc (.cells #[.int .i64 0,.int .i64 0] 28)).heap.size 5 i0 (.int .u8 0) 1 Tryz.underlying58 hi hz0 hz1 _ _ _ _ m rfl rfl (by omega) (by omega) (by rw [hz2];omega) (by unfold maxLen;omega) (Nat.le_refl _) ?_)
 intro w1 hown1 hgrow1
 clear g15
 generalize w.alloc (.cells #[.int .i64 0,.int .i64 0] 28)=W at *
 have hb1:Below W.heap.size W w1:=(Below.refl _ W).grown hgrow1 (by omega) (by simp)
 have hr1:=made_row (kindsL xs) hown1
 have hsw:w.heap.size < W.heap.size:=by omega
 obtain ⟨G,hG⟩:∃ G,G=w.heap.size+1:=⟨_,rfl⟩
 try simp only [hW] at hr1
 rw [← hG] at hr1 hW ⊢
 clear hown1 hgrow1 hG
 have g15:w1.cell? ⟨B,15,none⟩=some (.slice ax m cx):=(blk_cells (HR.out.below hb1).block).1 15
 rw [hW] at hb1
 go_wp2
 go_loopw [23] (fun i wr=>∃ k:Nat,k≤m∧i=.int .i64 k∧wr.ownsRow G 5 1 (.slice (some ⟨G,0,none⟩) m m) m ((filled (kindsL xs) k m).map (Value.int .u8))∧Below G W wr)
  (fun i _=>m - (intOf i).toNat)
 case atStart=>exact ⟨0,Nat.zero_le _,rfl,hr1,hb1⟩
 case round =>
  obtain ⟨k,hk,rfl,hown,hnx⟩:=hrel
  clear hr1 hb1 g15
  by_cases hlt:k < m
  ·obtain ⟨b,off,rfl,hbs,c1,c2,c3⟩:=HV.out k (by rw [HL.out];exact hlt)
   have hkl:k < (kindsL xs).length:=by rw [kindsL,List.length_map,HL.out];exact hlt
   obtain ⟨d1,d2,d3⟩:=fill_step hown hlt hkl
   rw [kindsL_nth xs k (by rw [HL.out];exact hlt)] at d3
   rw [hW] at hbs
   have q1:=(hnx.cell (p:=⟨b,off+k * 3,none⟩) hbs).trans c1
   have q2:=(hnx.cell (p:=⟨b,off+k * 3+1,none⟩) hbs).trans c2
   have q3:=(hnx.cell (p:=⟨b,off+k * 3+2,none⟩) hbs).trans c3
   generalize nthA xs k=z at q1 q2 q3 d3
   obtain ⟨z1,z2,z3⟩:=z
   have hk0:(0:Int)≤(k:Int):=by omega
   have hki:(k:Int) < (m:Int):=by omega
   have hsz:=hnx.size
   have HOWN:Hid _:=hown
   have HD3:Hid _:=d3
   have hgl:G < wr.heap.size:=World.block_lt_of_cell? _ _ d1
   have d1':(wr.alloc (.cells #[.int .u8 z1,.int .u32 z2,.string z3] 87)).cell? ⟨G,k,none⟩=some (.int .u8 0):=((Below.refl _ wr).alloc (Nat.le_refl _) _).cell (p:=⟨G,k,none⟩) hgl ▸ d1
   have d2':(wr.alloc (.cells #[.int .u8 z1,.int .u32 z2,.string z3] 87)).frozen? ⟨G,k,none⟩=false:=((Below.refl _ wr).alloc (Nat.le_refl _) _).frozen (p:=⟨G,k,none⟩) hgl ▸ d2
   clear c1 c2 c3 hown d3 d1 d2 hkl
   go_wp2
   go_roundw
   case rel=>exact ⟨k+1,by omega,by go_num,own_below HD3.out ((Below.refl _ _).alloc (Nat.le_refl _) _),(hnx.setCell (p:=⟨G,k,none⟩) (Nat.le_refl _) _).alloc (by rw [World.size_setCell];omega) _⟩
   case measure=>simp [intOf];omega
  ·obtain rfl:k=m:=by omega
   rw [filled_whole (kindsL xs) k (by rw [kindsL,List.length_map,HL.out])] at hown
   have hV:=View.ofRow hown (by rw [kindsL,List.length_map,HL.out])
   have hnx':Below W.heap.size W wr:=by rw [hW];exact hnx
   have hnW:=hnx'.size
   have HR1:=hide (HR.out.below hnx')
   have g4:wr.cell? ⟨B,4,none⟩=some (.int .u16 fo):=(blk_cells HR1.out.block).1 4
   clear hown
   go_wp2_with fail
   refine (hF _ _ hV).mono ?_
   rintro e w2 ⟨rfl,hb2⟩
   have hfin:=hnx'.trans (hb2.mono hnW)
   have HF2:=hide hfin
   have HR2:=hide (HR.out.below hfin)
   have HS2:=hide ((hfin.block _ hsw).trans HS.out)
   have HG2:=hide (grown_below2 (HB.out.trans (hfin.mono HB.out.size)) (some B))
   have HV2:=hide (HV.out.below hfin)
   clear hb2 hV hF g4 hfin HR1 HS HR hnx hnx'
   obtain ⟨r1,r2⟩:=r
   simp only
   cases r2
   ·have g2:w2.cell? ⟨B,2,none⟩=some (.int .i64 len):=(blk_cells HR2.out.block).1 2
    obtain ⟨cp,fp⟩:=blk_cells HS2.out
    have p0:=cp 0
    have p1:=cp 1
    obtain ⟨x1,x2⟩:=two_putB HS2.out (.int .i64 72) (.int .i64 len)
    have HY:=hide (grown_put HG2.out x2)
    have HY1:=hide x1
    clear cp x1 x2
    go_wp2_with fail
    generalize (w2.setCell ⟨w.heap.size,0,none⟩ (.int .i64 72)).setCell ⟨w.heap.size,1,none⟩ (.int .i64 len)=X at *
    obtain ⟨e1,_⟩:=blk_cells HY1.out
    have a0:=e1 0
    have a1:=e1 1
    refine bodyPost_ret (v:=.agg #[.int .i64 72,.int .i64 len]) ?_ rfl ⟨72,len,rfl,HY.out,by simp⟩
    simp [results,Tryz.results151,go_sem,a0,a1]
   ·have hbl:=HR2.out.block
    have hRw2:=fun (wx:World) (hx:Below w2.heap.size w2 wx)=>HRw.out wx (HV2.out.below hx)
    unfold instV at hRw2
    simp only at hRw2
    have c3:w2.cell? ⟨B,3,none⟩=some (.int .u32 b):=(blk_cells hbl).1 3
    have c12:w2.cell? ⟨B,12,none⟩=some (.int .u16 io):=(blk_cells hbl).1 12
    have c13:w2.cell? ⟨B,13,none⟩=some (.int .u32 it):=(blk_cells hbl).1 13
    have c14:w2.cell? ⟨B,14,none⟩=some (.int .u32 ir):=(blk_cells hbl).1 14
    have c15:w2.cell? ⟨B,15,none⟩=some (.slice ax k cx):=(blk_cells hbl).1 15
    have sB2:B < w2.heap.size:=HR2.out.lt
    have sS2:=(Array.getElem?_eq_some_iff.1 HS2.out).1
    clear hbl
    go_wp2_with fail
    go_region_with ((go_at_call 17;first | (refine (hRw2 _ (Below.refl _ _).drew).mono ?_;rintro x w5 ⟨hb5,a5,m5,c5,rfl,hm5,hown5⟩;have HB5:=hide hb5;have HM5:=hide hm5;clear hm5 hown5) | (refine (hRw2 _ ((Below.refl _ _).alloc (Nat.le_refl _) _).drew).mono ?_;rintro x w5 ⟨hb5,a5,m5,c5,rfl,hm5,hown5⟩;have v0:=hb5.cell (p:=⟨w2.heap.size,0,none⟩) (lt_ad9 w2);have v1:=hb5.cell (p:=⟨w2.heap.size,1,none⟩) (lt_ad9 w2);have v2:=hb5.frozen (p:=⟨w2.heap.size,0,none⟩) (lt_ad9 w2);have v3:=hb5.frozen (p:=⟨w2.heap.size,1,none⟩) (lt_ad9 w2);have HB5:=hide hb5;have HM5:=hide hm5;clear hm5 hown5)))
    all_goals
     first
      | (obtain ⟨kX,hbX⟩:=rawbox_e HB5.out (.int .u16 rO) (.slice a5 m5 c5);clear HB5 hb5 v0 v1 v2 v3;generalize (w5.setCell ⟨w2.heap.size,0,none⟩ (.int .u16 rO)).setCell ⟨w2.heap.size,1,none⟩ (.slice a5 m5 c5)=X at *;obtain ⟨MB,hMB⟩:∃ MB,MB=w2.heap.size:=⟨_,rfl⟩;rw [← hMB] at kX ⊢;clear hMB)
      | (have hb9:Below w2.drew.heap.size w2.drew w5:=HB5.out;have hbX:=((below_drew w2).trans hb9).alloc hb9.size (.cells #[.int .u16 rO,.slice a5 m5 c5] 54);have kX:=heap_alloc_new w5 (.cells #[.int .u16 rO,.slice a5 m5 c5] 54);clear hb5 hb9 HB5;generalize w5.alloc (.cells #[.int .u16 rO,.slice a5 m5 c5] 54)=X at *;generalize w5.heap.size=MB at *)
     have kS:=(hbX.block _ sS2).trans HS2.out
     have hR:=HR2.out.below hbX
     have hG:=grown_bel HG2.out hbX
     have nS:B≠w.heap.size:=by omega
     have nS2:w.heap.size≠B:=by omega
     have b16:X.cell? ⟨B,16,none⟩=some (.int .i64 wd):=(blk_cells hR.block).1 16
     have f16:X.frozen? ⟨B,16,none⟩=false:=(blk_cells hR.block).2 16
     have m1:X.cell? ⟨MB,1,none⟩=some (.slice a5 m5 c5):=(blk_cells kX).1 1
     obtain ⟨cp,fp⟩:=blk_cells kS
     have p0:=cp 0
     have p1:=cp 1
     have hm6:(m5:Int) < 65535:=by have:=HWL.out;have:=HM5.out;omega
     have hm7:(0:Int)≤(m5:Int):=by omega
     have hR9:=hR.setWords (1+(m5:Int))
     have hG9:=grown_set hG 16 (.int .i64 (1+(m5:Int)))
     have hS9:(X.setCell ⟨B,16,none⟩ (.int .i64 (1+(m5:Int)))).heap[w.heap.size]?=some (.cells #[.int .i64 0,.int .i64 0] 28 (0,0)):=by
      simp only [World.setCell,Array.getElem?_modify,if_neg nS];exact kS
     obtain ⟨x1,x2⟩:=two_putB hS9 (.int .i64 rE) (.int .i64 0)
     have HY:=hide (grown_put hG9 x2)
     have HY1:=hide x1
     have HY2:=hide (hR9.belowAt x2 hlt0.out)
     clear hbX kX cp kS hR hG hS9 hR9 hG9 x1 x2 hRw2 c3 c12 c13 c14 c15
     go_wp2_with fail
     generalize ((X.setCell ⟨B,16,none⟩ (.int .i64 (1+(m5:Int)))).setCell ⟨w.heap.size,0,none⟩ (.int .i64 rE)).setCell ⟨w.heap.size,1,none⟩ (.int .i64 0)=Z at *
     obtain ⟨e1,_⟩:=blk_cells HY1.out
     have a0:=e1 0
     have a1:=e1 1
     refine bodyPost_ret (v:=.agg #[.int .i64 rE,.int .i64 0]) ?_ rfl ⟨rE,0,rfl,HY.out,?_⟩
     ·simp [results,Tryz.results151,go_sem,a0,a1]
     ·refine ⟨rfl,rfl,?_⟩
      rw [HM5.out]
      exact HY2.out
end Go.Proofs.YtddkapkkjhomkabGreatDoor
namespace Go.Proofs.YtddkapkkjhomkabGreatDoor
open Go

def jumps (J:Nat→Act→World→Prop) (Q:Exit→Act→World→Prop):Exit→Act→World→Prop
 | .goto l,a,w=>J l a w
 | e,a,w=>Q e a w
section
variable {Q : Exit → Act → World → Prop} {J : Nat → Act → World → Prop} {a : Act} {w : World}
theorem jumps_normal:jumps J Q .normal a w=Q .normal a w:=rfl
theorem jumps_exit (id:Nat):jumps J Q (.exit id) a w=Q (.exit id) a w:=rfl
theorem jumps_ret:jumps J Q .ret a w=Q .ret a w:=rfl
theorem jumps_panic (ch:List PanicEntry):jumps J Q (.panic ch) a w=Q (.panic ch) a w:=rfl
theorem jumps_goto (l:Nat):jumps J Q (.goto l) a w=J l a w:=rfl
end

theorem wp_scope_many {P:Program} {a:Act} {w:World} {Q:Exit→Act→World→Prop} {c:Code} (rest:Nat→Code) (J:Nat→Act→World→Prop) (μ:Nat→Act→World→Nat) (hf:∀ l a w,J l a w→findLabel c l=some (rest l))
  (first:c.wp P (jumps J Q) a w)
  (pass:∀ l a w,J l a w→(rest l).wp P (jumps (fun l' a' w'=>J l' a' w'∧μ l' a' w' < μ l a w) Q) a w):(Code.scope c).wp P Q a w:=by
 intro b k cs
 have hg:∀ l a w,J l a w→gotoIn l (.inScope c :: k)=some (.code (rest l) :: .inScope c :: k):=fun l a w h=>by simp [gotoIn,hf l a w h]
 have key:∀ n l a w,μ l a w=n→J l a w→∃ e a' w',Q e a' w'∧Arrives P (lone (b.at a (.code (rest l) :: .inScope c :: k)) cs w) b k cs e a' w':=by
  intro n
  induction n using Nat.strongRecOn with
  | _ n ih =>
   intro l a w hn hJ
   obtain ⟨e,a₁,w₁,hq,harr⟩:=pass l a w hJ b (.inScope c :: k) cs
   cases e with
   | normal=>exact ⟨.normal,a₁,w₁,hq,Steps.trans harr (.one step_inScope)⟩
   | exit id=>exact ⟨.exit id,a₁,w₁,hq,fun k' hk=>harr k' (by simp [exitTo,hk])⟩
   | goto l' =>
    obtain ⟨hJ',hlt⟩:=hq
    obtain ⟨e₂,a₂,w₂,hq₂,harr₂⟩:=ih _ (by omega) l' a₁ w₁ rfl hJ'
    exact ⟨e₂,a₂,w₂,hq₂,.of_steps (harr _ (hg l' _ _ hJ')) harr₂⟩
   | ret=>exact ⟨_,a₁,w₁,hq,harr⟩
   | panic ch=>exact ⟨_,a₁,w₁,hq,harr⟩
   | outgrown=>exact ⟨_,a₁,w₁,hq,harr⟩
 obtain ⟨e,a₁,w₁,hq,harr⟩:=first b (.inScope c :: k) cs
 cases e with
 | normal=>exact ⟨.normal,a₁,w₁,hq,.head step_scope (Steps.trans harr (.one step_inScope))⟩
 | exit id=>exact ⟨.exit id,a₁,w₁,hq,fun k' hk=>.head step_scope (harr k' (by simp [exitTo,hk]))⟩
 | goto l' =>
  obtain ⟨e₂,a₂,w₂,hq₂,harr₂⟩:=key _ l' a₁ w₁ rfl hq
  exact ⟨e₂,a₂,w₂,hq₂,.of_steps (.head step_scope (harr _ (hg l' _ _ hq))) harr₂⟩
 | ret=>exact ⟨_,a₁,w₁,hq,.of_steps (.one step_scope) harr⟩
 | panic ch=>exact ⟨_,a₁,w₁,hq,.of_steps (.one step_scope) harr⟩
 | outgrown=>exact ⟨_,a₁,w₁,hq,.of_steps (.one step_scope) harr⟩
def behind:Option Code→Code
 | some (.seq .skip x)=>x
 | _=>.skip
theorem wp_scope_ranked {P:Program} {a:Act} {w:World} {Q:Exit→Act→World→Prop} {c:Code} (J:Nat→Act→World→Prop) (μ:Nat→Act→World→Nat) (ord:Nat→Nat)
  (hf:∀ l a w,J l a w→findLabel c l=some (.seq .skip (behind (findLabel c l))))
  (pass:∀ l,(∀ l',ord l' < ord l→∀ N a w,J l' a w→μ l' a w≤N→(behind (findLabel c l')).wp P (jumps (fun l' a' w'=>J l' a' w'∧μ l' a' w' < N) Q) a w) →
   ∀ N a w,J l a w→μ l a w≤N→(behind (findLabel c l)).wp P (jumps (fun l' a' w'=>J l' a' w'∧μ l' a' w' < N) Q) a w)
  (first:(∀ l a w,J l a w→(behind (findLabel c l)).wp P (jumps J Q) a w)→c.wp P (jumps J Q) a w):(Code.scope c).wp P Q a w:=by
 have all:∀ n l,ord l=n→∀ N a w,J l a w→μ l a w≤N→(behind (findLabel c l)).wp P (jumps (fun l' a' w'=>J l' a' w'∧μ l' a' w' < N) Q) a w:=by
  intro n
  induction n using Nat.strongRecOn with
  | _ n ih =>
   intro l hl
   exact pass l fun l' hlt=>ih (ord l') (by omega) l' rfl
 refine wp_scope_many (fun l=>.seq .skip (behind (findLabel c l))) J μ hf (first fun l a w h=>?_) (fun l a w h=>wp_seq (wp_skip (all _ l rfl _ a w h (Nat.le_refl _))))
 refine wp_mono (all _ l rfl _ a w h (Nat.le_refl _)) fun e a' w' hq=>?_
 cases e with
 | goto l'=>exact hq.1
 | normal=>exact hq
 | exit id=>exact hq
 | ret=>exact hq
 | panic ch=>exact hq
 | outgrown=>exact hq
end Go.Proofs.YtddkapkkjhomkabGreatDoor
namespace Go.Proofs.YtddkapkkjhomkabGreatDoor
open Go.RowKit
attribute [local go_sem] jumps_normal jumps_exit jumps_ret jumps_panic jumps_goto onNormal_normal

def scopeOf:Code→Code
 | .seq _ x=>scopeOf x
 | .scope c=>c
 | _=>.skip
theorem frame111 (t:Array Value) (h:t.size=111):t=#[slot t 0,slot t 1,slot t 2,slot t 3,slot t 4,slot t 5,slot t 6,slot t 7,slot t 8,slot t 9,slot t 10,slot t 11,slot t 12,slot t 13,slot t 14,slot t 15,slot t 16,slot t 17,slot t 18,slot t 19,slot t 20,slot t 21,slot t 22,slot t 23,slot t 24,slot t 25,slot t 26,slot t 27,slot t 28,slot t 29,slot t 30,slot t 31,slot t 32,slot t 33,slot t 34,slot t 35,slot t 36,slot t 37,slot t 38,slot t 39,slot t 40,slot t 41,slot t 42,slot t 43,slot t 44,slot t 45,slot t 46,slot t 47,slot t 48,slot t 49,slot t 50,slot t 51,slot t 52,slot t 53,slot t 54,slot t 55,slot t 56,slot t 57,slot t 58,slot t 59,slot t 60,slot t 61,slot t 62,slot t 63,slot t 64,slot t 65,slot t 66,slot t 67,slot t 68,slot t 69,slot t 70,slot t 71,slot t 72,slot t 73,slot t 74,slot t 75,slot t 76,slot t 77,slot t 78,slot t 79,slot t 80,slot t 81,slot t 82,slot t 83,slot t 84,slot t 85,slot t 86,slot t 87,slot t 88,slot t 89,slot t 90,slot t 91,slot t 92,slot t 93,slot t 94,slot t 95,slot t 96,slot t 97,slot t 98,slot t 99,slot t 100,slot t 101,slot t 102,slot t 103,slot t 104,slot t 105,slot t 106,slot t 107,slot t 108,slot t 109,slot t 110]:=(frame_eq t 111 h).trans rfl
theorem flat_arg7:∀ (l:List ArgT) (k j:Nat),k < l.length→j < 3→(l.flatMap argC)[k * 3+j]?=(argC (nthA l k))[j]?
 | x :: l,0,j,_,hj=>by
  rw [List.flatMap_cons,Nat.zero_mul,Nat.zero_add,List.getElem?_append_left (by simp [argC];omega)];rfl
 | x :: l,k+1,j,hk,hj=>by
  rw [List.flatMap_cons,List.getElem?_append_right (by simp [argC];omega)]
  have:=flat_arg7 l k j (by simpa using hk) hj
  rw [show (k+1) * 3+j - (argC x).length=k * 3+j by simp [argC];omega]
  exact this
theorem argsV_own7 {w:World} {B T n cap:Nat} {a:Option Addr} {l:List ArgT} (h:w.ownsRow B T 3 (.slice a n cap) n (l.flatMap argC)) (hl:l.length=n):ArgsV w a l:=by
 intro j hj
 rcases h.2 with ⟨hv,hn⟩ | ⟨g,cap',cur,hv,_,hg,_⟩
 ·omega
 ·cases hv
  have c0:=h.cellAt (j * 3+0) (by omega)
  have c1:=h.cellAt (j * 3+1) (by omega)
  have c2:=h.cellAt (j * 3+2) (by omega)
  rw [flat_arg7 l j 0 hj (by omega)] at c0
  rw [flat_arg7 l j 1 hj (by omega)] at c1
  rw [flat_arg7 l j 2 hj (by omega)] at c2
  exact ⟨g,0,rfl,(Array.getElem?_eq_some_iff.1 hg).1,by rw [Nat.zero_add];exact c0,by rw [Nat.zero_add];exact c1,by rw [Nat.zero_add];exact c2⟩
structure ReaS (w : World) (B : Nat) (w' : World) : Prop where
  res : w'.heap[w.heap.size]? = some (.cells #[.int .i64 0, .int .i64 0] 28 (0, 0))
  box : ∃ x0 x1 x2, w'.heap[w.heap.size + 1]? = some (.cells #[x0, x1, x2] 87 (0, 0))
  spot : ∃ y0 y1, w'.heap[w.heap.size + 2]? = some (.cells #[y0, y1] 28 (0, 0))
  grown : w.grownBy w' (some B)
theorem ReaS.size {w w':World} {B:Nat} (h:ReaS w B w'):w.heap.size+2 < w'.heap.size:=by
 obtain ⟨_,_,h⟩:=h.spot
 exact (Array.getElem?_eq_some_iff.1 h).1
theorem grown_trans7 {w w1 w2:World} {r:Option Nat} (h:w.grownBy w1 r) (k:w1.grownBy w2 r):w.grownBy w2 r:=⟨k.os.trans h.os,k.tape.trans h.tape,k.output.trans h.output,Nat.le_trans h.size k.size,fun i hi hr=>(k.block i (Nat.lt_of_lt_of_le hi h.size) hr).trans (h.block i hi hr)⟩
theorem ReaS.next {w w1 w2:World} {B:Nat} (hB:B < w.heap.size) (h:ReaS w B w1) (hg:w1.grownBy w2 (some B)):ReaS w B w2:=by
 have hs:=h.size
 obtain ⟨x0,x1,x2,hx⟩:=h.box
 obtain ⟨y0,y1,hy⟩:=h.spot
 exact ⟨(hg.block _ (by omega) (by simp;omega)).trans h.res,⟨x0,x1,x2,(hg.block _ (by omega) (by simp;omega)).trans hx⟩,⟨y0,y1,(hg.block _ (by omega) (by simp;omega)).trans hy⟩,grown_trans7 h.grown hg⟩
theorem ReaS.below {w w1 w2:World} {B:Nat} (hB:B < w.heap.size) (h:ReaS w B w1) (hb:Below w1.heap.size w1 w2):ReaS w B w2:=h.next hB (grown_below2 hb _)
theorem ReaS.at2 {w w1 w2:World} {B:Nat} {y0 y1:Value} (h:ReaS w B w1) (hb:Below (w.heap.size+2) w1 w2) (hy:w2.heap[w.heap.size+2]?=some (.cells #[y0,y1] 28 (0,0))):ReaS w B w2:=by
 have hs:=h.size
 obtain ⟨x0,x1,x2,hx⟩:=h.box
 exact ⟨(hb.block _ (by omega)).trans h.res,⟨x0,x1,x2,(hb.block _ (by omega)).trans hx⟩,⟨y0,y1,hy⟩,grown_put h.grown (hb.mono (by omega))⟩
theorem toks_kept {w w':World} {a:Option Addr} {B:Nat} {l:List TokT} (hv:ToksV w a l) (hg:w.grownBy w' (some B)) (hfar:∀ g off,a=some ⟨g,off,none⟩→g≠B):ToksV w' a l:=by
 intro j hj
 obtain ⟨g,off,e,hlt,q1,q2,q3⟩:=hv j hj
 have hx:w'.heap[g]?=w.heap[g]?:=hg.block g hlt (by simpa using hfar g off e)
 refine ⟨g,off,e,Nat.lt_of_lt_of_le hlt hg.size,?_,?_,?_⟩
 ·simp only [World.cell?,hx] at q1 ⊢;exact q1
 ·simp only [World.cell?,hx] at q2 ⊢;exact q2
 ·simp only [World.cell?,hx] at q3 ⊢;exact q3
theorem own_far7 {w':World} {B e size n:Nat} {v:Value} {xs:List Value} (h:w'.ownsRow B e size v n xs) {k:Nat} (hk:k < B):v.ownBlock=none ∨ v.ownBlock≠some k:=by
 cases e:v.ownBlock with
 | none=>exact .inl rfl
 | some g=>exact .inr fun e'=>by have:=(h.lt g e).1;simp at e';omega
def FrmR (B:Nat) (w:World) (a':Act):Prop:=∃ t:Array Value,a'={ tmps:=t,defers:=[] }∧t.size=111∧slot t 0=.pointer (some ⟨B,0,none⟩)∧slot t 2=.pointer (some ⟨w.heap.size,0,none⟩)∧slot t 3=.pointer (some ⟨w.heap.size+1,0,none⟩)∧slot t 4=.pointer (some ⟨w.heap.size+2,0,none⟩)
def ReadQ (w w':World) (B:Nat) (a:Option Addr) (n c:Nat) (len b:Int) (R:LineR) (E P:Int):Prop :=
 (E≠0∧R=noLine E P) ∨
 (E=0∧P=0∧∃ (o:Nat) (t r:Int) (xs:List ArgT) (ax:Option Addr) (m cx k:Nat),R=(((o:Int),t,r,xs),true,0,0)∧Rea w' B a n c k len b o (opF o) o t r (.slice ax m cx) (1+((rawWs ((o:Int),t,r,xs) b).length:Int)) ∧
  w'.ownsRow (w.heap.size+3) 87 3 (.slice ax m cx) m (xs.flatMap argC)∧xs.length=m∧InstOk ((o:Int),t,r,xs)∧rawE ((o:Int),t,r,xs) b=0)
def ReadRet (w:World) (B:Nat) (a:Option Addr) (n c:Nat) (len b:Int) (R:LineR) (Q:Exit→Act→World→Prop):Prop :=
 ∀ (a':Act) (w':World) (E P:Int),a'.tmps.getD 2 undef=.pointer (some ⟨w.heap.size,0,none⟩)→a'.defers=[]→w'.heap[w.heap.size]?=some (.cells #[.int .i64 E,.int .i64 P] 28 (0,0))→w.grownBy w' (some B)→ReadQ w w' B a n c len b R E P→Q .ret a' w'
def HeadOk (o:Nat) (t r b:Int):Prop:=ResOk o r b∧idE (opF o).2.1 t b 40=0∧0≤t∧t < 4294967296
def ReadJ (w : World) (B : Nat) (a : Option Addr) (n c : Nat) (len b : Int) (l : List TokT) (R : LineR) : Nat → Act → World → Prop
  | 0, a', w' => ∃ k : Nat, FrmR B w a' ∧ ReaS w B w' ∧ Rea w' B a n c k len b 0 noFrm 0 0 0 (.slice none 0 0) 0 ∧ k ≤ n ∧ R = lineO ((nthT l 0).1 == 2) l k len b
  | 1, a', w' => ∃ (k o : Nat) (t r : Int), FrmR B w a' ∧ ReaS w B w' ∧ Rea w' B a n c k len b o (opF o) o t r (.slice none 0 0) 0 ∧ k ≤ n ∧ HeadOk o t r b ∧ R = lineA o (opF o) t r l k len b
  | 3, a', w' => ∃ (k j o : Nat) (t r : Int) (ax : Option Addr) (cx : Nat), FrmR B w a' ∧ ReaS w B w' ∧ Rea w' B a n c (k + j) len b o (opF o) o t r (.slice ax j cx) 0 ∧ k + j ≤ n ∧ HeadOk o t r b ∧ R = lineA o (opF o) t r l k len b ∧
      w'.ownsRow (w.heap.size + 3) 87 3 (.slice ax j cx) j ((argsN (opF o) b l k j).flatMap argC) ∧ ∀ i, i < j → argE (letterI (opF o) i) (nthT l (k + i)) b = 0
  | 2, a', w' => ∃ (k j o : Nat) (t r : Int) (ax : Option Addr) (cx : Nat), FrmR B w a' ∧ ReaS w B w' ∧ Rea w' B a n c (k + j) len b o (opF o) o t r (.slice ax j cx) 0 ∧ k + j = n ∧ HeadOk o t r b ∧ R = lineA o (opF o) t r l k len b ∧
      w'.ownsRow (w.heap.size + 3) 87 3 (.slice ax j cx) j ((argsN (opF o) b l k j).flatMap argC) ∧ ∀ i, i < j → argE (letterI (opF o) i) (nthT l (k + i)) b = 0
  | _, _, _ => False
def posR (B:Nat) (w':World):Nat:=match w'.cell? ⟨B,1,none⟩ with
 | some (.int _ n)=>n.toNat
 | _=>0
def ReadM (B n:Nat) (l:Nat) (_:Act) (w':World):Nat:=if l=0 then n+4 else if l=1 then n+3 else if l=3 then n - posR B w'+1 else 0
theorem Rea.pos {w:World} {B:Nat} {a:Option Addr} {n c k:Nat} {len b fo:Int} {f:Frm} {io it ir:Int} {av:Value} {wd:Int} (h:Rea w B a n c k len b fo f io it ir av wd):posR B w=k:=by
 have:w.cell? ⟨B,1,none⟩=some (.int .i64 k):=(blk_cells h.block).1 1
 unfold posR;rw [this];simp
set_option maxHeartbeats 4000000 in
theorem read_end (w:World) (B:Nat) (a:Option Addr) (n c:Nat) (len b:Int) (l:List TokT) (R:LineR) (Q:Exit→Act→World→Prop) (J:Nat→Act→World→Prop) (hB:B < w.heap.size) (hl:l.length=n) (hn:32 * n≤140737488351232) (hin:ToksIn l) (hret:ReadRet w B a n c len b R Q)
  (a1:Act) (w1:World) (hJ:ReadJ w B a n c len b l R 2 a1 w1) :
  (behind (findLabel (scopeOf (Tryz.f123.body.getD .skip)) 2)).wp Tryz.prog (jumps J Q) a1 w1:=by
 obtain ⟨k,j,o,t,r,ax,cx,⟨f,rfl,hsz,h0,h2,h3,h4⟩,hS,hR,hkj,hH,hL,hrow,hgood⟩:=hJ
 conv=>arg 2;whnf
 rw [frame111 f hsz,h0,h2,h3,h4]
 clear h0 h2 h3 h4 hsz
 obtain ⟨⟨hk1,hk2,hk3,hk4,hk5⟩,hk6,hk7,hk8⟩:=hH
 obtain ⟨ga,gb,gc⟩:=args_right (o:=(o:Int)) (f:=opF o) (b:=b) (l:=l) (at_:=k) (n:=j) rfl hgood hin (by omega)
 have hlen:=argsN_len (opF o) b l k j
 have hV:=argsV_own7 hrow hlen
 have hok:InstOk ((o:Int),t,r,argsN (opF o) b l k j):=⟨by simp,by simp;omega,hk7,hk8,hk4,hk5,ga,by simp only [hlen];omega⟩
 have hC:=end_any B a n c (k+j) len b o (opF o) o t r (argsN (opF o) b l k j) ax j cx 0 w1 hR hV hlen hok
 have hlr:=fun (hw:wholeN (opF o) (j:Int)=true)=>line_raw (o:=(o:Int)) (f:=opF o) (t:=t) (r:=r) (b:=b) (l:=l) (at_:=k) (n:=j) rfl hk1 hgood hin (by omega) hw hk6 hk3
 have hj:l.length - k=j:=by omega
 have hA:=lineA_ok (o:=(o:Int)) (f:=opF o) (t:=t) (r:=r) (l:=l) (at_:=k) (len:=len) (b:=b) (fun i hi=>hgood i (by omega))
 rw [hj,← hL] at hA
 have hKEY:∀ (w2:World) (E P:Int),w1.grownBy w2 (some B)→EndQ w2 B a n c (k+j) len b o (opF o) ((o:Int),t,r,argsN (opF o) b l k j) (.slice ax j cx) E P→ReadQ w w2 B a n c len b R E P:=by
  intro w2 E P hg hq
  unfold EndQ at hq
  simp only at hq
  rw [hk1] at hq
  have hfit:(fitsI true (lookF refT (o:Int)).1 (kindsL (argsN (opF o) b l k j))).2=wholeN (opF o) (j:Int):=gc
  rw [hfit] at hq
  by_cases hw:wholeN (opF o) (j:Int)=false
  ·rw [if_pos hw] at hq hA
   obtain ⟨rfl,rfl⟩:=hq
   exact .inl ⟨by decide,hA⟩
  ·rw [if_neg hw] at hq hA
   obtain ⟨rfl,rfl,hR2⟩:=hq
   have hw':wholeN (opF o) (j:Int)=true:=by simpa using hw
   by_cases hb:65535 < 1+(rawL (opF o) ((o:Int),t,r,argsN (opF o) b l k j)).length
   ·rw [if_pos hb] at hA
    have:=hlr hw'
    rw [if_pos hb] at this
    rw [this]
    exact .inl ⟨by decide,hA⟩
   ·rw [if_neg hb] at hA
    have:=hlr hw'
    rw [if_neg hb] at this
    refine .inr ⟨this,rfl,o,t,r,_,ax,j,cx,k+j,hA,hR2,?_,hlen,hok,this⟩
    exact hrow.kept hg (own_far7 hrow (by omega))
 have HKEY:=hide hKEY
 have HS:=hide hS
 have hlt:=hS.size
 clear hKEY hlr hA hV hok hrow hgood hR hS ga gb gc hlen hL hk1 hk2 hk3 hk4 hk5 hk6 hk7 hk8 hj hkj hin
 go_wp2_with fail
 refine hC.mono ?_
 rintro x w2 ⟨E,P,rfl,hg,hq⟩
 have HS2:=HS.out.next hB hg
 have HQ:=hide (HKEY.out w2 E P hg hq)
 have kS:=HS2.res
 obtain ⟨cp,fp⟩:=blk_cells kS
 have p0:=cp 0
 have p1:=cp 1
 obtain ⟨x1,x2⟩:=two_putB kS (.int .i64 E) (.int .i64 P)
 have HG:=hide (grown_put HS2.grown x2)
 have HX1:=hide x1
 have HX2:=hide x2
 clear hC hq hg cp kS x1 x2 HS2 HKEY HS
 go_wp2_with fail
 generalize hX:(w2.setCell ⟨w.heap.size,0,none⟩ (.int .i64 E)).setCell ⟨w.heap.size,1,none⟩ (.int .i64 P)=X at *
 refine hret _ X E P rfl rfl HX1.out HG.out ?_
 rcases HQ.out with h | ⟨h1,h2,o',t',r',xs,ax',m',cx',k',q1,q2,q3,q4,q5,q6⟩
 ·exact .inl h
 ·refine .inr ⟨h1,h2,o',t',r',xs,ax',m',cx',k',q1,q2.belowAt HX2.out hB,?_,q4,q5,q6⟩
  rw [← hX]
  exact ownsRow_setCell_below (ownsRow_setCell_below q3 (a:=⟨w.heap.size,0,none⟩) (by simp) _) (a:=⟨w.heap.size,1,none⟩) (by simp) _
attribute [local go_sem] jumps_normal jumps_exit jumps_ret jumps_panic jumps_goto onNormal_normal

theorem ArgI.info:(Tryz.prog.info? 87).map (fun i=>(i.zero,i.size,i.bytes))=some (some (.agg #[.int .u8 0,.int .u32 0,.string ⟨#[]⟩]),3,24):=by kernel_rfl
theorem ReaS.wrote {w w1:World} {B:Nat} (h:ReaS w B w1) (u0 u1 u2 v0 v1:Value):ReaS w B (((((w1.setCell ⟨w.heap.size+1,0,none⟩ u0).setCell ⟨w.heap.size+1,1,none⟩ u1).setCell ⟨w.heap.size+1,2,none⟩ u2).setCell ⟨w.heap.size+2,0,none⟩ v0).setCell ⟨w.heap.size+2,1,none⟩ v1) ∧
  (((((w1.setCell ⟨w.heap.size+1,0,none⟩ u0).setCell ⟨w.heap.size+1,1,none⟩ u1).setCell ⟨w.heap.size+1,2,none⟩ u2).setCell ⟨w.heap.size+2,0,none⟩ v0).setCell ⟨w.heap.size+2,1,none⟩ v1).heap[w.heap.size+1]?=some (.cells #[u0,u1,u2] 87 (0,0)) ∧
  (((((w1.setCell ⟨w.heap.size+1,0,none⟩ u0).setCell ⟨w.heap.size+1,1,none⟩ u1).setCell ⟨w.heap.size+1,2,none⟩ u2).setCell ⟨w.heap.size+2,0,none⟩ v0).setCell ⟨w.heap.size+2,1,none⟩ v1).heap[w.heap.size+2]?=some (.cells #[v0,v1] 28 (0,0)) ∧
  Below (w.heap.size+1) w1 (((((w1.setCell ⟨w.heap.size+1,0,none⟩ u0).setCell ⟨w.heap.size+1,1,none⟩ u1).setCell ⟨w.heap.size+1,2,none⟩ u2).setCell ⟨w.heap.size+2,0,none⟩ v0).setCell ⟨w.heap.size+2,1,none⟩ v1)∧∀ {e size n:Nat} {v:Value} {xs:List Value},w1.ownsRow (w.heap.size+3) e size v n xs→(((((w1.setCell ⟨w.heap.size+1,0,none⟩ u0).setCell ⟨w.heap.size+1,1,none⟩ u1).setCell ⟨w.heap.size+1,2,none⟩ u2).setCell ⟨w.heap.size+2,0,none⟩ v0).setCell ⟨w.heap.size+2,1,none⟩ v1).ownsRow (w.heap.size+3) e size v n xs:=by
 obtain ⟨x0,x1,x2,hx⟩:=h.box
 obtain ⟨y0,y1,hy⟩:=h.spot
 obtain ⟨g1,g2,g3⟩:=five_put hx hy u0 u1 u2 v0 v1
 refine ⟨⟨(g3.block _ (by omega)).trans h.res,⟨u0,u1,u2,g1⟩,⟨v0,v1,g2⟩,grown_put h.grown (g3.mono (by omega))⟩,g1,g2,g3,fun ho=>?_⟩
 exact ownsRow_setCell_below (ownsRow_setCell_below (ownsRow_setCell_below (ownsRow_setCell_below (ownsRow_setCell_below ho (a:=⟨w.heap.size+1,0,none⟩) (by simp) _) (a:=⟨w.heap.size+1,1,none⟩) (by simp) _) (a:=⟨w.heap.size+1,2,none⟩) (by simp) _) (a:=⟨w.heap.size+2,0,none⟩) (by simp) _) (a:=⟨w.heap.size+2,1,none⟩) (by simp) _
theorem ReaS.row {w X Y Z:World} {B:Nat} {row:Option Nat} (hB:B < w.heap.size) (h:ReaS w B X) (hb:Below X.heap.size X Y) (hg:Y.grownBy Z row) (hr:∀ g,row=some g→w.heap.size+3≤g):ReaS w B Z:=by
 have h1:=h.below hB hb
 have hs:=h1.size
 obtain ⟨x0,x1,x2,hx⟩:=h1.box
 obtain ⟨y0,y1,hy⟩:=h1.spot
 have key:∀ i,i < w.heap.size+3→Z.heap[i]?=Y.heap[i]?:=fun i hi=>hg.block i (by omega) (fun e=>by have:=hr i e.symm;omega)
 exact ⟨(key _ (by omega)).trans h1.res,⟨x0,x1,x2,(key _ (by omega)).trans hx⟩,⟨y0,y1,(key _ (by omega)).trans hy⟩,⟨hg.os.trans h1.grown.os,hg.tape.trans h1.grown.tape,hg.output.trans h1.grown.output,Nat.le_trans h1.grown.size hg.size,fun i hi hn=>(key i (by omega)).trans (h1.grown.block i hi hn)⟩⟩
theorem Rea.row {X Y Z:World} {B:Nat} {row:Option Nat} {a:Option Addr} {n c k:Nat} {len b fo:Int} {f:Frm} {io it ir:Int} {av:Value} {wd:Int} (h:Rea X B a n c k len b fo f io it ir av wd) (hb:Below X.heap.size X Y) (hg:Y.grownBy Z row) (hr:∀ g,row=some g→B < g):Rea Z B a n c k len b fo f io it ir av wd :=
 Rea.mk ((hg.block B (Nat.lt_of_lt_of_le h.lt hb.size) (fun e=>by have:=hr B e.symm;omega)).trans ((hb.block B h.lt).trans h.block))
theorem ReaS.setB {w X:World} {B:Nat} (hB:B < w.heap.size) (h:ReaS w B X) (i:Nat) (v:Value):ReaS w B (X.setCell ⟨B,i,none⟩ v):=h.next hB (grown_set (World.grownBy.refl X (some B)) i v)
set_option maxHeartbeats 4000000 in
theorem read_next (w:World) (B:Nat) (a:Option Addr) (n c:Nat) (len b:Int) (l:List TokT) (R:LineR) (Q:Exit→Act→World→Prop) (hB:B < w.heap.size) (hl:l.length=n) (hn:32 * n≤140737488351232) (hin:ToksIn l) (hkd:∀ t ∈ l,t.1≠0) (hv:ToksV w a l) (hfar:∀ g off,a=some ⟨g,off,none⟩→g≠B) (hret:ReadRet w B a n c len b R Q)
  (N:Nat) (a1:Act) (w1:World) (hJ:ReadJ w B a n c len b l R 3 a1 w1) (hN:ReadM B n 3 a1 w1≤N) :
  (behind (findLabel (scopeOf (Tryz.f123.body.getD .skip)) 3)).wp Tryz.prog (jumps (fun l' a' w'=>ReadJ w B a n c len b l R l' a' w'∧ReadM B n l' a' w' < N) Q) a1 w1:=by
 obtain ⟨k,j,o,t,r,ax,cx,⟨f,rfl,hsz,h0,h2,h3,h4⟩,hS,hR,hkj,hH,hL,hrow,hgood⟩:=hJ
 have HN:Hid (n - (k+j)+1≤N):=by
  unfold ReadM at hN
  rw [if_neg (by omega),if_neg (by omega),if_pos rfl,hR.pos] at hN
  exact hN
 clear hN
 conv=>arg 2;whnf
 rw [frame111 f hsz,h0,h2,h3,h4]
 clear h0 h2 h3 h4 hsz
 have HV:=hide hv
 have HH:=hide hH
 have HROW:=hide hrow
 have HL:=hide hL
 have HGOOD:=hide hgood
 have HRET:=hide hret
 have HS:=hide hS
 have HR:=hide hR
 have HIN:=hide hin
 have HKD:=hide hkd
 have HFAR:=hide hfar
 have HLL:=hide hl
 clear hv hH hrow hL hgood hret hS hin hkd hfar hl
 have hE:=ended_any B a n c (k+j) len _ _ w1 hR
 clear hR
 by_cases hend:k+j=n
 ·rw [show (((k+j:Nat):Int) == (n:Int))=true by simp;omega] at hE
  clear hkj
  go_wp2_with fail
  refine hE.mono ?_
  rintro e w2 ⟨rfl,q,rfl⟩
  have hbq:=bel_drewN (Below.refl w1.heap.size w1) q
  have HS2:=hide (HS.out.below hB hbq)
  have HR2:=hide (HR.out.below hbq)
  have HROW2:=hide (own_below HROW.out hbq)
  clear hE hbq
  generalize w1.drewN q=w2 at *
  go_wp2_with fail
  go_step3
  refine ⟨⟨k,j,o,t,r,ax,cx,⟨_,rfl,rfl,rfl,rfl,rfl,rfl⟩,HS2.out,HR2.out,hend,HH.out,HL.out,HROW2.out,HGOOD.out⟩,?_⟩
  have:=HN.out
  show 0 < N
  omega
 ·rw [show (((k+j:Nat):Int) == (n:Int))=false by simp;omega] at hE
  go_wp2_with fail
  refine hE.mono ?_
  rintro e w2 ⟨rfl,q,rfl⟩
  have hbq:=bel_drewN (Below.refl w1.heap.size w1) q
  have HS2:=hide (HS.out.below hB hbq)
  have HR2:=hide (HR.out.below hbq)
  have HROW2:=hide (own_below HROW.out hbq)
  clear hE hbq HS HR HROW
  generalize w1.drewN q=w2 at *
  have hkn:k+j < n:=by omega
  have c4:w2.cell? ⟨B,4,none⟩=some (.int .u16 (o:Int)):=(blk_cells HR2.out.block).1 4
  have c15:w2.cell? ⟨B,15,none⟩=some (.slice ax j cx):=(blk_cells HR2.out.block).1 15
  have hLt:=fun (wx:World)=>grammarLetter_any (o:Int) (j:Int) wx (by omega)
  have hArg:=fun (wx:World) (hb:Below w2.heap.size w2 wx)=>argument_any B a n c (k+j) len b _ (letterI (opF o) j) l wx (HR2.out.below hb) (toks_kept HV.out (grown_bel HS2.out.grown hb) HFAR.out) HLL.out hn HIN.out HKD.out (by omega)
  obtain ⟨A,hA⟩:∃ A,A=argQ (letterI (opF o) j) l (k+j) len b:=⟨_,rfl⟩
  rw [← hA] at hArg
  have elet:letterI (lookF refT (o:Int)).1 (j:Int)=letterI (opF o) j:=rfl
  rw [elet] at hLt
  clear elet
  obtain ⟨ch,hch⟩:∃ ch,ch=letterI (opF o) j:=⟨_,rfl⟩
  rw [← hch] at hArg hLt
  have HCH:=hide hch
  rw [← hch] at hA
  have HA:=hide hA
  clear hch hA
  obtain ⟨⟨A1,A2,A3⟩,E,P⟩:=A
  unfold argV at hArg
  simp only at hArg
  have HARG:=hide hArg
  clear hArg
  go_wp2_with fail
  refine wp_norm ?_
  go_region_with ((first | (go_at_call 72;refine (hLt _).mono ?_;rintro x w3 ⟨rfl,hb3⟩;have hb23:=hide ((below_drew w2).trans hb3);clear hb3) | (go_at_call 150;refine (HARG.out _ hb23.out).mono ?_;rintro x w4 ⟨rfl,hg4,hr4⟩;have HS4:=hide ((HS2.out.below hB hb23.out).next hB hg4);have HR4:=hide hr4;have HG4:=hide hg4;obtain ⟨x0,x1,x2,hx⟩:=HS4.out.box;obtain ⟨y0,y1,hy⟩:=HS4.out.spot;obtain ⟨cx1,fx1⟩:=blk_cells hx;obtain ⟨cy1,fy1⟩:=blk_cells hy;have bx0:=cx1 0;have bx1:=cx1 1;have bx2:=cx1 2;have by0:=cy1 0;have by1:=cy1 1;clear hg4 hr4 cx1 cy1 hx hy)))
  all_goals
   obtain ⟨S5,k5,p5,b5,o5⟩:=HS4.out.wrote (.int .u8 A1) (.int .u32 A2) (.string A3) (.int .i64 E) (.int .i64 P)
   have HS5:=hide S5
   have HK5:=hide k5
   have HP5:=hide p5
   have HROW5:=hide (o5 ((own_below HROW2.out hb23.out).kept HG4.out (own_far7 HROW2.out (by omega))))
   have HRD5:Hid (E=0→Rea _ B a n c (k+j+1) len b o (opF o) o t r (.slice ax j cx) 0):=fun h=>Rea.belowAt (HR4.out h) b5 (by omega)
   clear S5 k5 p5 b5 o5 bx0 bx1 bx2 by0 by1 fx1 fy1 HS4 HR4 HG4 hb23 HROW2 HS2 HR2 HARG hLt c4 c15
   generalize ((((w4.setCell ⟨w.heap.size+1,0,none⟩ (.int .u8 A1)).setCell ⟨w.heap.size+1,1,none⟩ (.int .u32 A2)).setCell ⟨w.heap.size+1,2,none⟩ (.string A3)).setCell ⟨w.heap.size+2,0,none⟩ (.int .i64 E)).setCell ⟨w.heap.size+2,1,none⟩ (.int .i64 P)=X at *
   have p0:X.cell? ⟨w.heap.size+2,0,none⟩=some (.int .i64 E):=(blk_cells HP5.out).1 0
   have p1:X.cell? ⟨w.heap.size+2,1,none⟩=some (.int .i64 P):=(blk_cells HP5.out).1 1
   have hbad:E≠0→R=noLine E P:=fun hE=>by
    have hh:=HA.out
    unfold argQ at hh
    rw [HCH.out,if_neg (by rw [HLL.out];omega)] at hh
    by_cases hz:argE (letterI (opF o) j) (nthT l (k+j)) b=0
    ·rw [if_neg (by simpa using hz)] at hh
     simp only [Prod.mk.injEq] at hh
     exact absurd hh.2.1 hE
    ·rw [if_pos hz] at hh
     simp only [Prod.mk.injEq] at hh
     rw [hh.2.1,hh.2.2,HL.out]
     exact lineA_bad (by rw [HLL.out];omega) HGOOD.out hz
   have hgoodA:E=0→argE (letterI (opF o) j) (nthT l (k+j)) b=0∧argA (letterI (opF o) j) (nthT l (k+j)) b=(A1,A2,A3):=fun hE=>by
    have hh:=HA.out
    unfold argQ at hh
    rw [HCH.out,if_neg (by rw [HLL.out];omega)] at hh
    by_cases hz:argE (letterI (opF o) j) (nthT l (k+j)) b=0
    ·rw [if_neg (by simpa using hz)] at hh
     simp only [Prod.mk.injEq] at hh
     exact ⟨hz,by rw [← hh.1]⟩
    ·rw [if_pos hz] at hh
     simp only [Prod.mk.injEq] at hh
     exact absurd (hh.2.1.symm.trans hE) hz
   have HBAD:=hide hbad
   have HGA:=hide hgoodA
   clear hbad hgoodA HA
   by_cases hE0:E=0
   ·subst hE0
    have HZ:=hide (HGA.out rfl)
    have hrd:=HRD5.out rfl
    have HRD:=hide hrd
    have c15:X.cell? ⟨B,15,none⟩=some (.slice ax j cx):=(blk_cells hrd.block).1 15
    have x0:X.cell? ⟨w.heap.size+1,0,none⟩=some (.int .u8 A1):=(blk_cells HK5.out).1 0
    have x1:X.cell? ⟨w.heap.size+1,1,none⟩=some (.int .u32 A2):=(blk_cells HK5.out).1 1
    have x2:X.cell? ⟨w.heap.size+1,2,none⟩=some (.string A3):=(blk_cells HK5.out).1 2
    obtain ⟨i0,hi,hz0,hz1,hz2⟩:=info_parts ArgI.info
    have hob:∀ g,(Value.slice ax j cx).ownBlock=some g→w.heap.size+3≤g:=fun g e=>(HROW5.out.lt g e).1
    have HOB:=hide hob
    have hsz:w.heap.size+2 < X.heap.size:=HS5.out.size
    have sB5:B < X.heap.size:=by omega
    have hba:Below X.heap.size X (X.alloc (.cells #[.int .u8 A1,.int .u32 A2,.string A3] 87)).drew:=((Below.refl _ X).alloc (Nat.le_refl _) _).drew
    have HBA:=hide hba
    clear hrd hob hba HRD5 hend HGA HBAD
    rw [onNormal_normal]
    go_wp2_with fail
    refine wp_norm ?_
    go_region_law ((refine step_append_lies _ (by rfl) _ _ _ (by rfl) (w.heap.size+3) 87 i0 (.agg #[.int .u8 0,.int .u32 0,.string ⟨#[]⟩]) 3 24 Tryz.underlying47 hi hz0 hz1 hz2 rfl (by omega) (.slice ax j cx) j _ (by rfl) ((HROW5.out.alloc _).drew) ⟨X.heap.size,0,none⟩ 1 1 [.int .u8 A1,.int .u32 A2,.string A3] (by rfl) (by rfl) (World.news_of_block (cs:=#[.int .u8 A1,.int .u32 A2,.string A3]) (t:=87) (fr:=(0,0)) (heap_alloc_new X _)) (by simp [Value.oneCell']) (by omega) (by unfold maxLen;omega) (by omega) (by simp;omega) (X.heap.size+1) (by simp) ?_;intro g2 cap2 w6 hown6 hgrow6 hat6 hlt6;have HR6:=hide (HRD.out.row HBA.out hgrow6 (fun g e=>by have:=HOB.out g e;omega));have HS6:=hide (HS5.out.row hB HBA.out hgrow6 HOB.out);have d15:w6.cell? ⟨B,15,none⟩=some (.slice ax j cx):=(blk_cells HR6.out.block).1 15;have e15:w6.frozen? ⟨B,15,none⟩=false:=(blk_cells HR6.out.block).2 15;have HO6:=hide hown6;clear hgrow6 hown6 hat6))
    all_goals
     have HR7:=hide (HR6.out.setArgs (.slice (some ⟨g2,0,none⟩) (j+1) cap2))
     have HS7:=hide (HS6.out.setB hB 15 (.slice (some ⟨g2,0,none⟩) (j+1) cap2))
     have HO7:=hide (ownsRow_setCell_below HO6.out (a:=⟨B,15,none⟩) (by simp;omega) (.slice (some ⟨g2,0,none⟩) (j+1) cap2))
     clear HR6 HS6 HO6 d15 e15 c15 x0 x1 x2 p0 p1
     generalize w6.setCell ⟨B,15,none⟩ (.slice (some ⟨g2,0,none⟩) (j+1) cap2)=Y at *
     rw [onNormal_normal]
     go_wp2_with fail
     go_step3
     obtain ⟨z1,z2⟩:=HZ.out
     refine ⟨⟨k,j+1,o,t,r,some ⟨g2,0,none⟩,cap2,⟨_,rfl,rfl,rfl,rfl,rfl,rfl⟩,HS7.out,HR7.out,by omega,HH.out,HL.out,?_,?_⟩,?_⟩
     ·rw [argsN_snoc,z2,List.flatMap_append];exact HO7.out
     ·intro i hi
      by_cases hij:i=j
      ·subst hij;exact z1
      ·exact HGOOD.out i (by omega)
     ·unfold ReadM
      rw [if_neg (by omega),if_neg (by omega),if_pos rfl,HR7.out.pos]
      have:=HN.out
      omega
   ·have hE1:(E != 0)=true:=by simpa using hE0
    have HR0:=hide (HBAD.out hE0)
    have kS:=HS5.out.res
    obtain ⟨cp,fp⟩:=blk_cells kS
    have r0:=cp 0
    have r1:=cp 1
    obtain ⟨x1,x2⟩:=two_putB kS (.int .i64 E) (.int .i64 P)
    have HG:=hide (grown_put HS5.out.grown x2)
    have HX1:=hide x1
    clear cp kS x1 x2 hE0 HBAD HGA HRD5 HROW5 HK5 HP5 hend
    rw [onNormal_normal]
    go_wp2_with fail
    generalize (X.setCell ⟨w.heap.size,0,none⟩ (.int .i64 E)).setCell ⟨w.heap.size,1,none⟩ (.int .i64 P)=Z at *
    rw [jumps_ret]
    exact HRET.out _ Z E P rfl rfl HX1.out HG.out (.inl ⟨by simpa using hE1,HR0.out⟩)
attribute [local go_sem] jumps_normal jumps_exit jumps_ret jumps_panic jumps_goto onNormal_normal

set_option maxHeartbeats 4000000 in
theorem read_args (w:World) (B:Nat) (a:Option Addr) (n c:Nat) (len b:Int) (l:List TokT) (R:LineR) (Q:Exit→Act→World→Prop) (hB:B < w.heap.size) (hn:32 * n≤140737488351232)
  (hP:∀ N a1 w1,ReadJ w B a n c len b l R 3 a1 w1→ReadM B n 3 a1 w1≤N→(behind (findLabel (scopeOf (Tryz.f123.body.getD .skip)) 3)).wp Tryz.prog (jumps (fun l' a' w'=>ReadJ w B a n c len b l R l' a' w'∧ReadM B n l' a' w' < N) Q) a1 w1)
  (N:Nat) (a1:Act) (w1:World) (hJ:ReadJ w B a n c len b l R 1 a1 w1) (hN:ReadM B n 1 a1 w1≤N) :
  (behind (findLabel (scopeOf (Tryz.f123.body.getD .skip)) 1)).wp Tryz.prog (jumps (fun l' a' w'=>ReadJ w B a n c len b l R l' a' w'∧ReadM B n l' a' w' < N) Q) a1 w1:=by
 obtain ⟨k,o,t,r,⟨f,rfl,hsz,h0,h2,h3,h4⟩,hS,hR,hkn,hH,hL⟩:=hJ
 have HN:Hid (n+3≤N):=by
  unfold ReadM at hN
  rw [if_neg (by omega),if_pos rfl] at hN
  exact hN
 clear hN
 conv=>arg 2;whnf
 rw [frame111 f hsz,h0,h2,h3,h4]
 clear h0 h2 h3 h4 hsz
 obtain ⟨i0,hi,hz0,hz1,hz2⟩:=info_parts ArgI.info
 obtain ⟨w2,hrun,hown,hgrow⟩:=run_make_own (P:=Tryz.prog) w1.drew (w.heap.size+3) 47 87 i0 (.agg #[.int .u8 0,.int .u32 0,.string ⟨#[]⟩]) 3 Tryz.underlying47 hi hz0 hz1 .i64 .i64 (n - k) (by rw [hz2];omega) (by unfold maxLen;omega) (by show w.heap.size+3≤w1.heap.size;have:=hS.size;omega)
 have hb2:Below w1.heap.size w1 w2:=((below_drew w1).trans ((Below.refl _ w1.drew).grown hgrow (Nat.le_refl _) (by simp)))
 have HS2:=hide (hS.below hB hb2)
 have HR2:=hide (hR.below hb2)
 have HO2:=hide hown
 have HH:=hide hH
 have HL:=hide hL
 have c0:w1.cell? ⟨B,0,none⟩=some (.slice a n c):=(blk_cells hR.block).1 0
 have c1:w1.cell? ⟨B,1,none⟩=some (.int .i64 (k:Int)):=(blk_cells hR.block).1 1
 have d15:w2.cell? ⟨B,15,none⟩=some (.slice none 0 0):=(blk_cells HR2.out.block).1 15
 have e15:w2.frozen? ⟨B,15,none⟩=false:=(blk_cells HR2.out.block).2 15
 have hsub:IntKind.i64.wrap ((n:Int) - (k:Int))=((n - k:Nat):Int):=by rw [IntKind.wrap_i64];omega
 generalize n - k=m at *
 have esz:w1.drew.heap.size=w1.heap.size:=rfl
 rw [esz] at hrun HO2
 clear hown hgrow hb2 hS hR hH hL hi hz0 hz1 hz2 esz
 go_wp2_with fail
 refine wp_norm ?_
 go_region
 all_goals
  have HR3:=hide (HR2.out.setArgs (.slice (some ⟨w1.heap.size,0,none⟩) 0 m))
  have HS3:=hide (HS2.out.setB hB 15 (.slice (some ⟨w1.heap.size,0,none⟩) 0 m))
  have HO3:=hide (ownsRow_setCell_below HO2.out (a:=⟨B,15,none⟩) (by simp;omega) (.slice (some ⟨w1.heap.size,0,none⟩) 0 m))
  clear HR2 HS2 HO2 d15 e15 c0 c1 hrun hsub
  generalize w2.setCell ⟨B,15,none⟩ (.slice (some ⟨w1.heap.size,0,none⟩) 0 m)=Y at *
  rw [onNormal_normal]
  go_wp2_with fail
  refine wp_label ?_
  rename_i Kx hKx
  refine hKx _ _ (hP N _ Y ⟨k,0,o,t,r,some ⟨w1.heap.size,0,none⟩,m,⟨_,rfl,rfl,rfl,rfl,rfl,rfl⟩,HS3.out,HR3.out,by omega,HH.out,HL.out,HO3.out,fun i hi=>by omega⟩ ?_)
  unfold ReadM
  rw [if_neg (by omega),if_neg (by omega),if_pos rfl,HR3.out.pos]
  have:=HN.out
  omega
theorem ReaS.spotted {w w1:World} {B:Nat} (h:ReaS w B w1) (v0 v1:Value):ReaS w B ((w1.setCell ⟨w.heap.size+2,0,none⟩ v0).setCell ⟨w.heap.size+2,1,none⟩ v1) ∧
  ((w1.setCell ⟨w.heap.size+2,0,none⟩ v0).setCell ⟨w.heap.size+2,1,none⟩ v1).heap[w.heap.size+2]?=some (.cells #[v0,v1] 28 (0,0)) ∧
  Below (w.heap.size+2) w1 ((w1.setCell ⟨w.heap.size+2,0,none⟩ v0).setCell ⟨w.heap.size+2,1,none⟩ v1):=by
 obtain ⟨y0,y1,hy⟩:=h.spot
 obtain ⟨g1,g2⟩:=two_putB hy v0 v1
 exact ⟨h.at2 g2 g1,g1,g2⟩
set_option maxHeartbeats 4000000 in
theorem read_op (w:World) (B:Nat) (a:Option Addr) (n c:Nat) (len b:Int) (l:List TokT) (R:LineR) (Q:Exit→Act→World→Prop) (hB:B < w.heap.size) (hl:l.length=n) (hn:32 * n≤140737488351232) (hin:ToksIn l) (hkd:∀ t ∈ l,t.1≠0) (hv:ToksV w a l) (hfar:∀ g off,a=some ⟨g,off,none⟩→g≠B) (h1:0 < n) (hret:ReadRet w B a n c len b R Q)
  (hP:∀ N a1 w1,ReadJ w B a n c len b l R 1 a1 w1→ReadM B n 1 a1 w1≤N→(behind (findLabel (scopeOf (Tryz.f123.body.getD .skip)) 1)).wp Tryz.prog (jumps (fun l' a' w'=>ReadJ w B a n c len b l R l' a' w'∧ReadM B n l' a' w' < N) Q) a1 w1)
  (N:Nat) (a1:Act) (w1:World) (hJ:ReadJ w B a n c len b l R 0 a1 w1) (hN:ReadM B n 0 a1 w1≤N) :
  (behind (findLabel (scopeOf (Tryz.f123.body.getD .skip)) 0)).wp Tryz.prog (jumps (fun l' a' w'=>ReadJ w B a n c len b l R l' a' w'∧ReadM B n l' a' w' < N) Q) a1 w1:=by
 obtain ⟨k,⟨f,rfl,hsz,h0,h2,h3,h4⟩,hS,hR,hkn,hL⟩:=hJ
 have HN:Hid (n+4≤N):=by
  unfold ReadM at hN
  rw [if_pos rfl] at hN
  exact hN
 clear hN
 conv=>arg 2;whnf
 rw [frame111 f hsz,h0,h2,h3,h4]
 clear h0 h2 h3 h4 hsz
 have hOp:=operation_any B a n c k len b 0 noFrm 0 0 (.slice none 0 0) 0 l w1 hR (toks_kept hv hS.grown hfar) hl hn hin hkn h1 hfar
 have HS:=hide hS
 have HV:=hide hv
 have HL:=hide hL
 have HIN:=hide hin
 have HKD:=hide hkd
 have HFAR:=hide hfar
 have HLL:=hide hl
 have HRET:=hide hret
 have HP:=hide hP
 clear hS hv hL hin hkd hfar hl hret hR hP
 go_wp2_with fail
 refine hOp.mono ?_
 rintro x w2 ⟨E,P,rfl,hg2,hq2⟩
 have S2:=HS.out.next hB hg2
 obtain ⟨y0,y1,hy⟩:=S2.spot
 obtain ⟨cy,fy⟩:=blk_cells hy
 have by0:=cy 0
 have by1:=cy 1
 obtain ⟨S3,k3,b3⟩:=S2.spotted (.int .i64 E) (.int .i64 P)
 have HS3:=hide S3
 have HK3:=hide k3
 have HB3:=hide b3
 have HSZ:=hide S2.size
 unfold OpA at hq2
 rcases hq2 with ⟨hE,hO⟩ | ⟨hE,hkn2,o,r,hO,hres,hRd⟩
 ·have hE1:(E != 0)=true:=by simpa using hE
  have HR0:=hide (HL.out.trans hO)
  have HE0:=hide hE
  obtain ⟨cq,fq⟩:=blk_cells S2.res
  have r0:=cq 0
  have r1:=cq 1
  obtain ⟨x1,x2⟩:=two_putB S3.res (.int .i64 E) (.int .i64 P)
  have HG:=hide (grown_put S3.grown x2)
  have HX1:=hide x1
  clear hOp S2 hy cy cq S3 k3 b3 x1 x2 hE hO hg2 HS HB3
  go_wp2_with fail
  generalize (((w2.setCell ⟨w.heap.size+2,0,none⟩ (.int .i64 E)).setCell ⟨w.heap.size+2,1,none⟩ (.int .i64 P)).setCell ⟨w.heap.size,0,none⟩ (.int .i64 E)).setCell ⟨w.heap.size,1,none⟩ (.int .i64 P)=Z at *
  rw [jumps_ret]
  exact HRET.out _ Z E P rfl rfl HX1.out HG.out (.inl ⟨HE0.out,HR0.out⟩)
 ·subst hE
  have HR0:=hide (HL.out.trans hO)
  have HRES:=hide hres
  have HRD:=hide (hRd.belowAt b3 (by omega))
  have c6:w2.cell? ⟨B,6,none⟩=some (.bool (opF o).2.1):=(blk_cells hRd.block).1 6
  have nB:B≠w.heap.size+2:=by omega
  have HKN:=hide hkn2
  clear hO hres hRd HL hOp S2 hy cy S3 k3 b3 hg2 HS hkn2
  generalize hty:(opF o).2.1=ty at c6
  cases ty
  ·have HJ:=hide (show HeadOk o 0 r b from ⟨HRES.out,by rw [hty];simp [idE],by omega,by omega⟩)
   have HR1:=hide (HR0.out.trans (show lineT o (opF o) r l (k+1) len b=_ by unfold lineT;rw [if_pos hty]))
   clear hty
   go_wp2_with fail
   go_step3
   generalize (w2.setCell ⟨w.heap.size+2,0,none⟩ (.int .i64 0)).setCell ⟨w.heap.size+2,1,none⟩ (.int .i64 P)=X at *
   refine ⟨⟨k+1,o,0,r,⟨_,rfl,rfl,rfl,rfl,rfl,rfl⟩,HS3.out,HRD.out,HKN.out,HJ.out,HR1.out⟩,?_⟩
   have:=HN.out
   show n+3 < N
   omega
  ·have HTY:=hide hty
   clear hty
   go_wp2_with fail
   generalize (w2.setCell ⟨w.heap.size+2,0,none⟩ (.int .i64 0)).setCell ⟨w.heap.size+2,1,none⟩ (.int .i64 P)=X at *
   clear by0 by1 fy c6
   have hArg:=argument_any B a n c (k+1) len b _ 105 l X HRD.out (toks_kept HV.out HS3.out.grown HFAR.out) HLL.out hn HIN.out HKD.out HKN.out
   obtain ⟨A,hA⟩:∃ A,A=argQ 105 l (k+1) len b:=⟨_,rfl⟩
   rw [← hA] at hArg
   have HA:=hide hA
   clear hA
   obtain ⟨⟨A1,A2,A3⟩,E,PP⟩:=A
   unfold argV at hArg
   simp only at hArg
   refine hArg.mono ?_
   rintro x w4 ⟨rfl,hg4,hr4⟩
   have S4:=HS3.out.next hB hg4
   obtain ⟨x0,x1,x2,hx⟩:=S4.box
   obtain ⟨y0,y1,hy⟩:=S4.spot
   obtain ⟨cx1,fx1⟩:=blk_cells hx
   obtain ⟨cy1,fy1⟩:=blk_cells hy
   have bx0:=cx1 0
   have bx1:=cx1 1
   have bx2:=cx1 2
   have by0:=cy1 0
   have by1:=cy1 1
   obtain ⟨S5,k5,p5,b5,_⟩:=S4.wrote (.int .u8 A1) (.int .u32 A2) (.string A3) (.int .i64 E) (.int .i64 PP)
   have HS5:=hide S5
   have HK5:=hide k5
   have hbad:E≠0→R=noLine E PP:=fun hE=>by
    have hh:=HA.out
    unfold argQ at hh
    rw [HR0.out]
    unfold lineT
    rw [if_neg (by rw [HTY.out];simp)]
    by_cases hq:l.length≤k+1
    ·rw [if_pos hq] at hh ⊢
     simp only [Prod.mk.injEq] at hh
     rw [hh.2.1,hh.2.2]
    ·rw [if_neg hq] at hh ⊢
     by_cases hz:argE 105 (nthT l (k+1)) b=0
     ·rw [if_neg (by simpa using hz)] at hh
      simp only [Prod.mk.injEq] at hh
      exact absurd hh.2.1 hE
     ·rw [if_pos hz] at hh ⊢
      simp only [Prod.mk.injEq] at hh
      rw [hh.2.1,hh.2.2]
   have hgood:E=0→k+1 < n∧HeadOk o A2 r b∧R=lineA o (opF o) A2 r l (k+2) len b:=fun hE=>by
    have hh:=HA.out
    unfold argQ at hh
    have hR0:=HR0.out
    unfold lineT at hR0
    rw [if_neg (by rw [HTY.out];simp)] at hR0
    by_cases hq:l.length≤k+1
    ·rw [if_pos hq] at hh
     simp only [Prod.mk.injEq] at hh
     omega
    ·rw [if_neg hq] at hh hR0
     by_cases hz:argE 105 (nthT l (k+1)) b=0
     ·rw [if_neg (by simpa using hz)] at hh hR0
      simp only [Prod.mk.injEq] at hh
      obtain ⟨q1,q2,q3,q4⟩:=arg_id hz
      have eA:(argA 105 (nthT l (k+1)) b).2.1=A2:=by rw [← hh.1]
      rw [eA] at q1 q2 q3 hR0
      exact ⟨by have:=HLL.out;omega,⟨HRES.out,by rw [HTY.out];exact q1,q2,q3⟩,hR0⟩
     ·rw [if_pos hz] at hh
      simp only [Prod.mk.injEq] at hh
      exact absurd (hh.2.1.symm.trans hE) hz
   by_cases hE0:E=0
   ·subst hE0
    have HGD:=hide (hgood rfl)
    have hrd4:Rea w4 B a n c (k+2) len b o (opF o) o 0 r (.slice none 0 0) 0:=hr4 rfl
    have d13:w4.cell? ⟨B,13,none⟩=some (.int .u32 0):=(blk_cells hrd4.block).1 13
    have e13:w4.frozen? ⟨B,13,none⟩=false:=(blk_cells hrd4.block).2 13
    have HRD5:=hide (hrd4.belowAt b5 (by omega))
    have nB1:B≠w.heap.size+1:=by omega
    clear hArg hbad hgood S4 hx hy cx1 cy1 S5 k5 p5 b5 hg4 hr4 HR0 HA HS3 HRD hrd4
    go_wp2_with fail
    have HRD6:=hide (HRD5.out.setType A2)
    have HS6:=hide (HS5.out.setB hB 13 (.int .u32 A2))
    generalize (((((w4.setCell ⟨w.heap.size+1,0,none⟩ (.int .u8 A1)).setCell ⟨w.heap.size+1,1,none⟩ (.int .u32 A2)).setCell ⟨w.heap.size+1,2,none⟩ (.string A3)).setCell ⟨w.heap.size+2,0,none⟩ (.int .i64 0)).setCell ⟨w.heap.size+2,1,none⟩ (.int .i64 PP)).setCell ⟨B,13,none⟩ (.int .u32 A2)=Y at *
    refine wp_label ?_
    rename_i Kx hKx
    obtain ⟨q1,q2,q3⟩:=HGD.out
    refine hKx _ _ (HP.out N _ Y ⟨k+2,o,A2,r,⟨_,rfl,rfl,rfl,rfl,rfl,rfl⟩,HS6.out,HRD6.out,q1,q2,q3⟩ ?_)
    have:=HN.out
    show n+3≤N
    omega
   ·have hE1:(E != 0)=true:=by simpa using hE0
    have HR1:=hide (hbad hE0)
    have HE0:=hide hE0
    obtain ⟨cq,fq⟩:=blk_cells S4.res
    have r0:=cq 0
    have r1:=cq 1
    obtain ⟨z1,z2⟩:=two_putB S5.res (.int .i64 E) (.int .i64 PP)
    have HG:=hide (grown_put S5.grown z2)
    have HX1:=hide z1
    clear hArg hbad hgood S4 hx hy cx1 cy1 cq S5 k5 p5 b5 hg4 hr4 HR0 HA HS3 HRD z1 z2 hE0
    go_wp2_with fail
    generalize ((((((w4.setCell ⟨w.heap.size+1,0,none⟩ (.int .u8 A1)).setCell ⟨w.heap.size+1,1,none⟩ (.int .u32 A2)).setCell ⟨w.heap.size+1,2,none⟩ (.string A3)).setCell ⟨w.heap.size+2,0,none⟩ (.int .i64 E)).setCell ⟨w.heap.size+2,1,none⟩ (.int .i64 PP)).setCell ⟨w.heap.size,0,none⟩ (.int .i64 E)).setCell ⟨w.heap.size,1,none⟩ (.int .i64 PP)=Z at *
    rw [jumps_ret]
    exact HRET.out _ Z E PP rfl rfl HX1.out HG.out (.inl ⟨HE0.out,HR1.out⟩)
end Go.Proofs.YtddkapkkjhomkabGreatDoor
