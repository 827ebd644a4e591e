/-
  Texts laid together in one: WordsReaderCalls, CodeRarg, CodeRargs, RowI, FrameSmall, WordsTurned.
-/
import Derived.WalkSpells
import Derived.Deep.QuietTactic
import Derived.BigQuiet
import Derived.Test.YtddkapkkjhomkabGreatDoorM06
import Derived.WalkMore
import Derived.Test.YtddkapkkjhomkabGreatDoorM03
import Derived.Test.YtddkapkkjhomkabGreatDoorM05
import Derived.Laws.AppendOwn
import Derived.Test.YtddkapkkjhomkabGreatDoorM01
import Derived.BigRegion
import Derived.Test.YtddkapkkjhomkabGreatDoorM02
import Derived.Test.YtddkapkkjhomkabGreatDoorProg
set_option linter.unusedVariables false
set_option linter.unusedSimpArgs false
set_option maxRecDepth 10000
namespace Go.Proofs.YtddkapkkjhomkabGreatDoor
open Go.RowKit

set_option maxHeartbeats 1000000 in
/-- A text is asked for, and there is an error. -/
theorem take_text_no {W0 w:World} {gr ga n cw p:Nat} {zs:List Int} (m:Int) (h:Rdr W0 w gr ga n cw p zs) (s:ByteArray) (k er:Int) (her:er≠0)
  (hT:∀ b cb w2,n - p≤cb→View .u32 w2 b (zs.drop p)→Calls Tryz.prog 170 #[.slice b (n - p:Nat) cb] w2 fun e w'=>e=.returned (.tuple #[.string s,.int .i64 k,.int .i64 er])∧Below w2.heap.size w2 w') :
  Calls Tryz.prog 161 #[.pointer (some ⟨gr,0,none⟩),.int .i64 1,.int .i64 m] w fun e w'=>e=.returned (.tuple #[.slice none 0 0,.string ⟨#[]⟩,.int .i64 er])∧Below w.heap.size w w':=by
 obtain ⟨c0,c1,f1⟩:=cell_of_two h.rd.box
 have hle:=h.le
 have hsm:=h.small
 have hrm:=h.room
 have HLZ:Hid (zs.length=n):=h.len
 obtain ⟨sa,hsa,hsav⟩:∃ sa,(if cw=p then some (⟨ga,0,none⟩:Addr) else some ⟨ga,p,none⟩)=some sa∧Hid (∀ wx,View .u32 wx (some ⟨ga,0,none⟩) zs→View .u32 wx (some sa) (zs.drop p)):=by
  by_cases e:cw=p
  ·refine ⟨⟨ga,0,none⟩,by rw [if_pos e],fun wx _=>?_⟩
   rw [List.drop_of_length_le (by rw [HLZ.out];omega)]
   exact view_nil
  ·refine ⟨⟨ga,p,none⟩,by rw [if_neg e],fun wx hv=>?_⟩
   have:=View.drop hv p
   rw [Nat.zero_add] at this
   exact this
 have hpn:(p:Int)≤(n:Int):=by omega
 have he:(er == 0)=false:=by simpa using her
 have H:Hid (Rdr W0 w gr ga n cw p zs):=h
 clear h her
 go_enter Tryz.func161,Tryz.ntmps161
 go_wp2
 go_quiet (fail)
 go_wp2_with fail
 refine (hT (some sa) (cw - p) (w.drewN nq) (by omega) (hsav.out _ (H.out.drew nq).words)).mono ?_
 rintro e w1 ⟨rfl,hb1⟩
 go_wp2
 go_ret3
 exact ⟨rfl,(bel_drewN (Below.refl _ w) nq).trans hb1⟩
set_option maxHeartbeats 1000000 in
/-- A text is taken. -/
theorem take_text_yes {W0 w:World} {gr ga n cw p:Nat} {zs:List Int} (m:Int) (h:Rdr W0 w gr ga n cw p zs) (s:ByteArray) (k:Nat) (hk:p+k≤n)
  (hT:∀ b cb w2,n - p≤cb→View .u32 w2 b (zs.drop p)→Calls Tryz.prog 170 #[.slice b (n - p:Nat) cb] w2 fun e w'=>e=.returned (.tuple #[.string s,.int .i64 k,.int .i64 0])∧Below w2.heap.size w2 w') :
  Calls Tryz.prog 161 #[.pointer (some ⟨gr,0,none⟩),.int .i64 1,.int .i64 m] w fun e w'=>∃ v,e=.returned (.tuple #[v,.string s,.int .i64 0])∧Rdr W0 w' gr ga n cw (p+k) zs∧w.grownBy w' (some gr):=by
 obtain ⟨c0,c1,f1⟩:=cell_of_two h.rd.box
 have hle:=h.le
 have hsm:=h.small
 have hrm:=h.room
 have HLZ:Hid (zs.length=n):=h.len
 obtain ⟨sa,hsa,hsav⟩:∃ sa,(if cw=p then some (⟨ga,0,none⟩:Addr) else some ⟨ga,p,none⟩)=some sa∧Hid (∀ wx,View .u32 wx (some ⟨ga,0,none⟩) zs→View .u32 wx (some sa) (zs.drop p)):=by
  by_cases e:cw=p
  ·refine ⟨⟨ga,0,none⟩,by rw [if_pos e],fun wx _=>?_⟩
   rw [List.drop_of_length_le (by rw [HLZ.out];omega)]
   exact view_nil
  ·refine ⟨⟨ga,p,none⟩,by rw [if_neg e],fun wx hv=>?_⟩
   have:=View.drop hv p
   rw [Nat.zero_add] at this
   exact this
 have hpn:(p:Int)≤(n:Int):=by omega
 have hm':¬ ((n - p:Nat):Int) < (k:Int):=by omega
 have hmc:(k:Int)≤((cw - p:Nat):Int):=by omega
 have H:Hid (Rdr W0 w gr ga n cw p zs):=h
 clear h
 go_enter Tryz.func161,Tryz.ntmps161
 go_wp2
 go_quiet (fail)
 go_wp2_with fail
 refine (hT (some sa) (cw - p) (w.drewN nq) (by omega) (hsav.out _ (H.out.drew nq).words)).mono ?_
 rintro e w1 ⟨rfl,hb1⟩
 have HR1:Hid (Rdr W0 w1 gr ga n cw p zs):=(H.out.drew nq).below hb1
 obtain ⟨d0,d1,g1⟩:=cell_of_two HR1.out.rd.box
 have HB:Hid (Below w.heap.size w w1):=(bel_drewN (Below.refl _ w) nq).trans hb1
 clear hb1 hT
 go_wp2
 go_ret3
 refine ⟨_,rfl,HR1.out.set (p+k) _ (by omega) hk,?_⟩
 have hb:=HB.out
 exact World.grownBy.trans ⟨hb.os,hb.tape,hb.output,hb.size,fun i hi _=>hb.block i hi⟩ (grown_setCell w1 gr 1 _)
theorem word_some {W0 w:World} {gr ga n cw p:Nat} {zs:List Int} (h:Rdr W0 w gr ga n cw p zs) (hp:p < n) :
  Calls Tryz.prog 141 #[.pointer (some ⟨gr,0,none⟩)] w fun e w'=>e=.returned (.tuple #[.int .u32 (nth zs p),.int .i64 0])∧Rdr W0 w' gr ga n cw (p+1) zs:=by
 have hT:=take_word (m:=0) h hp
 have hlen:=h.len
 clear h
 go_enter Tryz.func141,Tryz.ntmps141
 go_wp2_with fail
 refine hT.mono ?_
 rintro e w1 ⟨c,rfl,hR⟩
 obtain ⟨b,off,e1,_,hc⟩:=hR.words p (by rw [hlen];exact hp)
 simp at e1
 obtain ⟨rfl,rfl⟩:=e1
 rw [Nat.zero_add] at hc
 clear hlen
 go_wp2
 go_ret2
 exact ⟨rfl,hR⟩
theorem word_none {W0 w:World} {gr ga n cw:Nat} {zs:List Int} (h:Rdr W0 w gr ga n cw n zs) :
  Calls Tryz.prog 141 #[.pointer (some ⟨gr,0,none⟩)] w fun e w'=>e=.returned (.tuple #[.int .u32 0,.int .i64 14])∧Rdr W0 w' gr ga n cw n zs:=by
 have hT:=take_end (m:=0) h
 go_enter Tryz.func141,Tryz.ntmps141
 go_wp2_with fail
 refine hT.mono ?_
 rintro e w1 ⟨rfl,q,rfl⟩
 go_wp2
 go_ret2
 exact ⟨rfl,h.drew q⟩
theorem rtext_any {W0 w:World} {gr ga n cw p:Nat} {zs:List Int} (h:Rdr W0 w gr ga n cw p zs) (s:ByteArray) (k er:Int) (hk0:0≤k) (hk:k≤(n - p:Nat)) (hz:er≠0→s=⟨#[]⟩∧k=0)
  (hT:∀ b cb w2,n - p≤cb→View .u32 w2 b (zs.drop p)→Calls Tryz.prog 170 #[.slice b (n - p:Nat) cb] w2 fun e w'=>e=.returned (.tuple #[.string s,.int .i64 k,.int .i64 er])∧Below w2.heap.size w2 w') :
  Calls Tryz.prog 162 #[.pointer (some ⟨gr,0,none⟩)] w fun e w'=>e=.returned (.tuple #[.string s,.int .i64 er])∧Rdr W0 w' gr ga n cw (p+k.toNat) zs:=by
 have hle:=h.le
 by_cases her:er=0
 ·subst her
  obtain ⟨kk,rfl⟩:=Int.eq_ofNat_of_zero_le hk0
  have hA:=take_text_yes (m:=0) h s kk (by omega) hT
  rw [Int.toNat_natCast]
  clear hz hT h
  go_enter Tryz.func162,Tryz.ntmps162
  go_wp2_with fail
  refine hA.mono ?_
  rintro e w1 ⟨v,rfl,hR,_⟩
  go_wp2
  go_ret2
  exact ⟨rfl,hR⟩
 ·obtain ⟨rfl,rfl⟩:=hz her
  have hA:=take_text_no (m:=0) h ⟨#[]⟩ 0 er her hT
  have H:Hid (Rdr W0 w gr ga n cw p zs):=h
  clear hz hT h her
  go_enter Tryz.func162,Tryz.ntmps162
  go_wp2_with fail
  refine hA.mono ?_
  rintro e w1 ⟨rfl,hb⟩
  go_wp2
  go_ret2
  exact ⟨rfl,H.out.below hb⟩
def rdrC (o:Int) (f:Frm) (b:Int) (gr:Nat):Array Value:=#[.int .u16 o,.string f.1,.bool f.2.1,.bool f.2.2.1,.string f.2.2.2.1,.string f.2.2.2.2.1,.int .i64 f.2.2.2.2.2.1,.int .u8 f.2.2.2.2.2.2,.int .u32 b,.pointer (some ⟨gr,0,none⟩)]
structure RdS (w : World) (R : Nat) (o : Int) (f : Frm) (b : Int) (gr ga n cw p : Nat) (zs : List Int) : Prop where
  box : w.heap[R]? = some (.cells (rdrC o f b gr) 165 (0, 0))
  ne : R ≠ gr
  rd : Rdr w w gr ga n cw p zs
theorem Rdr.rebase {W0 w:World} {gr ga n cw p:Nat} {zs:List Int} (h:Rdr W0 w gr ga n cw p zs):Rdr w w gr ga n cw p zs :=
 ⟨⟨World.grownBy.refl _ _,h.rd.box⟩,h.words,h.apart,h.len,h.le,h.room,h.small,h.within⟩
theorem RdS.step {w w':World} {R:Nat} {o:Int} {f:Frm} {b:Int} {gr ga n cw p q:Nat} {zs:List Int} (h:RdS w R o f b gr ga n cw p zs) (h':Rdr w w' gr ga n cw q zs):RdS w' R o f b gr ga n cw q zs :=
 ⟨(h'.rd.grown.block R (Array.getElem?_eq_some_iff.1 h.box).1 (fun e=>h.ne (by cases e;rfl))).trans h.box,h.ne,h'.rebase⟩
theorem RdS.below {w w':World} {R:Nat} {o:Int} {f:Frm} {b:Int} {gr ga n cw p:Nat} {zs:List Int} (h:RdS w R o f b gr ga n cw p zs) (hb:Below w.heap.size w w'):RdS w' R o f b gr ga n cw p zs :=
 ⟨(hb.block R (Array.getElem?_eq_some_iff.1 h.box).1).trans h.box,h.ne,(h.rd.below hb).rebase⟩
theorem RdS.cells {w:World} {R:Nat} {o:Int} {f:Frm} {b:Int} {gr ga n cw p:Nat} {zs:List Int} (h:RdS w R o f b gr ga n cw p zs) :
  w.cell? ⟨R,0,none⟩=some (.int .u16 o)∧w.cell? ⟨R,2,none⟩=some (.bool f.2.1)∧w.cell? ⟨R,3,none⟩=some (.bool f.2.2.1)∧w.cell? ⟨R,8,none⟩=some (.int .u32 b)∧w.cell? ⟨R,9,none⟩=some (.pointer (some ⟨gr,0,none⟩)):=by
 obtain ⟨hc,_⟩:=one_block h.box
 exact ⟨hc 0,hc 2,hc 3,hc 8,hc 9⟩
theorem RdS.lt {w:World} {R:Nat} {o:Int} {f:Frm} {b:Int} {gr ga n cw p:Nat} {zs:List Int} (h:RdS w R o f b gr ga n cw p zs):R < w.heap.size∧gr < w.heap.size :=
 ⟨(Array.getElem?_eq_some_iff.1 h.box).1,h.rd.rd.lt⟩
def ownI (has:Bool) (lacks:Int) (zs:List Int) (b:Int) (p:Nat):Int × Int:=if has then (if zs.length≤p then (0,lacks) else (nth zs p,if noneB (nth zs p) b then 43 else 0)) else (0,0)
set_option maxHeartbeats 1000000 in
theorem ownIdR_any (w:World) (R:Nat) (o:Int) (f:Frm) (b:Int) (gr ga n cw p:Nat) (zs:List Int) (has:Bool) (lacks:Int) (h:RdS w R o f b gr ga n cw p zs) (hlk:lacks≠0) :
  Calls Tryz.prog 120 #[.pointer (some ⟨R,0,none⟩),.bool has,.int .i64 lacks] w fun e w'=>e=.returned (.tuple #[.int .u32 (ownI has lacks zs b p).1,.int .i64 (ownI has lacks zs b p).2])∧w.grownBy w' (some gr) ∧
   ((ownI has lacks zs b p).2=0→RdS w' R o f b gr ga n cw (p+has.toNat) zs):=by
 have hlen:=h.rd.len
 have hle:=h.rd.le
 cases has
 ·have e1:ownI false lacks zs b p=(0,0):=rfl
  rw [e1]
  go_enter Tryz.func120,Tryz.ntmps120
  go_wp2
  refine bodyPost_ret (v:=.tuple #[.int .u32 0,.int .i64 0]) ?_ rfl ⟨rfl,World.grownBy.refl _ _,fun _=>h⟩
  simp [results,Tryz.results120,go_sem]
 ·have c9:=h.cells.2.2.2.2
  by_cases hp:p=n
  ·subst hp
   have e1:ownI true lacks zs b p=(0,lacks):=by unfold ownI;simp [hlen]
   have hWd:=word_none h.rd
   rw [e1]
   go_enter Tryz.func120,Tryz.ntmps120
   go_wp2_with fail
   refine hWd.mono ?_
   rintro e w1 ⟨rfl,hr1⟩
   have hg:=hr1.rd.grown
   clear hWd hr1
   go_wp2
   refine bodyPost_ret (v:=.tuple #[.int .u32 0,.int .i64 lacks]) ?_ rfl ⟨rfl,hg,fun h0=>absurd h0 hlk⟩
   simp [results,Tryz.results120,go_sem]
  ·have hlt:p < n:=by omega
   have e1:ownI true lacks zs b p=(nth zs p,if noneB (nth zs p) b then 43 else 0):=by unfold ownI;rw [if_pos rfl,if_neg (by omega)]
   have hWd:=word_some h.rd hlt
   have hF:=fun wx hx=>idFault_any R (nth zs p) b wx hx
   rw [e1]
   generalize nth zs p=x at *
   generalize (if noneB x b=true then (43:Int) else 0)=r at *
   clear e1
   go_enter Tryz.func120,Tryz.ntmps120
   go_wp2_with fail
   refine hWd.mono ?_
   rintro e w1 ⟨rfl,hr1⟩
   have hg:=hr1.rd.grown
   have hS1:=h.step hr1
   have hF1:=hF _ hS1.cells.2.2.2.1
   clear hWd hr1 hF
   go_wp2_with fail
   refine hF1.mono ?_
   rintro e w2 ⟨rfl,rfl⟩
   clear hF1
   go_wp2
   refine bodyPost_ret (v:=.tuple #[.int .u32 x,.int .i64 r]) ?_ rfl ⟨rfl,hg,fun _=>hS1⟩
   simp [results,Tryz.results120,go_sem]
theorem three_put {w:World} {B T:Nat} {z0 z1 z2:Value} (h:w.heap[B]?=some (.cells #[z0,z1,z2] T (0,0))) (u0 u1 u2:Value) :
  (((w.setCell ⟨B,0,none⟩ u0).setCell ⟨B,1,none⟩ u1).setCell ⟨B,2,none⟩ u2).heap[B]?=some (.cells #[u0,u1,u2] T (0,0)):=by
 simp only [World.setCell,Array.getElem?_modify,h];simp
theorem three_keep (w:World) (B:Nat) (u0 u1 u2:Value):Below B w (((w.setCell ⟨B,0,none⟩ u0).setCell ⟨B,1,none⟩ u1).setCell ⟨B,2,none⟩ u2) :=
 (((Below.refl B w).setCell (Nat.le_refl _) _).setCell (Nat.le_refl _) _).setCell (Nat.le_refl _) _
theorem three_cells {w:World} {G T:Nat} {a b c:Value} (h:w.heap[G]?=some (.cells #[a,b,c] T (0,0))):w.cell? ⟨G,0,none⟩=some a∧w.cell? ⟨G,1,none⟩=some b∧w.cell? ⟨G,2,none⟩=some c∧∀ i,w.frozen? ⟨G,i,none⟩=false:=by
 obtain ⟨hc,hf⟩:=one_block h
 exact ⟨hc 0,hc 1,hc 2,hf⟩
theorem setFar1' {w:World} {B T:Nat} {z0 z1 z2:Value} (h:w.heap[B]?=some (.cells #[z0,z1,z2] T (0,0))) (i:Nat) (u:Value):(w.setCell ⟨B,i,none⟩ u).heap[B]?=some (.cells (#[z0,z1,z2].setIfInBounds i u) T (0,0)):=by
 simp [World.setCell,Array.getElem?_modify,h]
theorem grown_then {w w' w'':World} {g:Nat} (h:w.grownBy w' (some g)) (hb:Below w.heap.size w' w''):w.grownBy w'' (some g) :=
 ⟨hb.os.trans h.os,hb.tape.trans h.tape,hb.output.trans h.output,Nat.le_trans h.size hb.size,fun k hk hne=>(hb.block k hk).trans (h.block k hk hne)⟩
theorem below_then {w w' w'':World} {g:Nat} (hb:Below w.heap.size w w') (h:w'.grownBy w'' (some g)):w.grownBy w'' (some g) :=
 ⟨h.os.trans hb.os,h.tape.trans hb.tape,h.output.trans hb.output,Nat.le_trans hb.size h.size,fun k hk hne=>(h.block k (Nat.lt_of_lt_of_le hk hb.size) hne).trans (hb.block k hk)⟩
theorem RdS.keep {w w':World} {R:Nat} {o:Int} {f:Frm} {b:Int} {gr ga n cw p:Nat} {zs:List Int} {B:Nat} (h:RdS w R o f b gr ga n cw p zs) (hb:Below B w w') (hR:R < B) (hg:gr < B) (ha:0 < n→ga < B):RdS w' R o f b gr ga n cw p zs:=by
 refine ⟨(hb.block R hR).trans h.box,h.ne,⟨⟨World.grownBy.refl _ _,(hb.block gr hg).trans h.rd.rd.box⟩,?_,h.rd.apart,h.rd.len,h.rd.le,h.rd.room,h.rd.small,h.rd.within⟩⟩
 intro j hj
 obtain ⟨b',off,e,hlt,hc⟩:=h.rd.words j hj
 cases e
 exact ⟨ga,0,rfl,Nat.lt_of_lt_of_le hlt hb.size,(hb.cell (p:=⟨ga,0+j,none⟩) (ha (by have:=h.rd.len;omega))).trans hc⟩
theorem RdS.ga {w:World} {R:Nat} {o:Int} {f:Frm} {b:Int} {gr ga n cw p:Nat} {zs:List Int} (h:RdS w R o f b gr ga n cw p zs) (hn:0 < n):ga < w.heap.size:=by
 obtain ⟨b',off,e,hlt,_⟩:=h.rd.words 0 (by rw [h.rd.len];exact hn)
 cases e
 exact hlt
theorem argI_word {c:Int} {zs:List Int} {b:Int} (hc:c≠0) (hz:zs.length≠0) (hk:kindI c≠3):(argI c zs b).2.2=faultW c (nth zs 0) b∧(faultW c (nth zs 0) b=0→argI c zs b=((kindI c,nth zs 0,⟨#[]⟩),1,0)):=by
 unfold argI faultW
 rw [if_neg (by simp [hc,hz]),if_neg hk]
 by_cases h1:kindI c=1
 ·cases h2:noneB (nth zs 0) b <;> simp [h1,h2]
 ·by_cases h4:kindI c=4
  ·cases h2:enumB c (nth zs 0) <;> simp [h4,h2]
  ·simp [h1,h4]
theorem argI_zero (zs:List Int) (b:Int):(argI 0 zs b).2.2=42:=by unfold argI;rw [if_pos (.inl rfl)]
set_option maxHeartbeats 2000000 in
theorem rarg_any (w:World) (R:Nat) (o:Int) (f:Frm) (b:Int) (gr ga n cw p:Nat) (zs:List Int) (c:Int) (h:RdS w R o f b gr ga n cw p zs) (hp:p < n) (hkd:c≠0→kindI c≠0) :
  Calls Tryz.prog 144 #[.pointer (some ⟨R,0,none⟩),.int .u8 c] w fun e w'=>∃ y,e=.returned (.tuple #[argV y,.int .i64 (argI c (zs.drop p) b).2.2])∧w.grownBy w' (some gr) ∧
   ((argI c (zs.drop p) b).2.2=0→y=(argI c (zs.drop p) b).1∧RdS w' R o f b gr ga n cw (p+(argI c (zs.drop p) b).2.1.toNat) zs):=by
 have hlen:=h.rd.len
 have hga:=h.ga (by omega)
 have hlt:=h.lt
 have hdl:(zs.drop p).length=n - p:=by rw [List.length_drop,hlen]
 have hB1:Below w.heap.size w (w.alloc (.cells #[.int .u8 0,.int .u32 0,.string ⟨#[]⟩] 87)):=(Below.refl _ w).alloc (Nat.le_refl _) _
 have kX:=alloc_new w #[.int .u8 0,.int .u32 0,.string ⟨#[]⟩] 87
 have lX:w.heap.size < (w.alloc (.cells #[.int .u8 0,.int .u32 0,.string ⟨#[]⟩] 87)).heap.size:=by simp
 by_cases hc0:c=0
 ·subst hc0
  rw [argI_zero]
  go_enter Tryz.func144,Tryz.ntmps144
  go_wp2
  refine bodyPost_ret (v:=.tuple #[argV noArg,.int .i64 42]) ?_ rfl ⟨noArg,rfl,?_,fun h0=>by cases h0⟩
  ·simp [results,Tryz.results144,go_sem,argV,noArg]
  ·exact below_then (g:=gr) hB1 (World.grownBy.refl _ _)
 ·have hc0':(c == 0)=false:=by simpa using hc0
  have hK:=fun w=>kind_any c w
  have hkn:=hkd hc0
  have hkr:=kindI_range c
  have hb2:Below (w.heap.size+1) (w.alloc (.cells #[.int .u8 0,.int .u32 0,.string ⟨#[]⟩] 87)) ((w.alloc (.cells #[.int .u8 0,.int .u32 0,.string ⟨#[]⟩] 87)).alloc (.cells #[.int .u8 (kindI c),.int .u32 0,.string ⟨#[]⟩] 87)):=(Below.refl _ _).alloc (by simp) _
  have kA:((w.alloc (.cells #[.int .u8 0,.int .u32 0,.string ⟨#[]⟩] 87)).alloc (.cells #[.int .u8 (kindI c),.int .u32 0,.string ⟨#[]⟩] 87)).heap[w.heap.size+1]?=some (.cells #[.int .u8 (kindI c),.int .u32 0,.string ⟨#[]⟩] 87 (0,0)):=by simpa using alloc_new (w.alloc (.cells #[.int .u8 0,.int .u32 0,.string ⟨#[]⟩] 87)) #[.int .u8 (kindI c),.int .u32 0,.string ⟨#[]⟩] 87
  have kX2:=(hb2.block _ (by omega)).trans kX
  have hbW:=hB1.trans (hb2.mono (by omega))
  have hSW:=h.below hbW
  by_cases k3:kindI c=3
  ·have eA:argI c (zs.drop p) b=((3,0,(textI (zs.drop p)).1),(textI (zs.drop p)).2.1,(textI (zs.drop p)).2.2):=by
    unfold argI;rw [if_neg (by simp only [hc0,false_or];omega),if_pos k3]
   rw [eA]
   simp only
   rw [k3] at hK kA kX2 hbW hSW
   have hr:=textI_range (zs.drop p)
   have hw':Within 4294967296 (zs.drop p):=fun z hz=>h.rd.within z (List.mem_of_mem_drop hz)
   have hsm:=h.rd.small
   have hT:=fun wx (hx:Rdr wx wx gr ga n cw p zs)=>rtext_any hx (textI (zs.drop p)).1 (textI (zs.drop p)).2.1 (textI (zs.drop p)).2.2 hr.1 (by have:=hr.2.1;rw [hdl] at this;exact this) (fun h0=>hr.2.2.2.1 h0) (fun b' cb w2 hcb hv2=>text_any b' (n - p) cb (zs.drop p) w2 hv2 hdl hw' (by omega) hcb)
   generalize (textI (zs.drop p)).1=st at *
   generalize (textI (zs.drop p)).2.1=tk at *
   generalize (textI (zs.drop p)).2.2=te at *
   clear hr eA hkr hkn hkd
   go_enter Tryz.func144,Tryz.ntmps144
   go_wp2_with fail
   refine (hK _).mono ?_
   rintro e w1 ⟨rfl,rfl⟩
   have c9:=hSW.cells.2.2.2.2
   obtain ⟨a0,a1,a2,af⟩:=three_cells kA
   have hT2:=hT _ hSW.rd
   have hsz:((w.alloc (.cells #[.int .u8 0,.int .u32 0,.string ⟨#[]⟩] 87)).alloc (.cells #[.int .u8 3,.int .u32 0,.string ⟨#[]⟩] 87)).heap.size=w.heap.size+2:=by simp
   clear hK kX hb2 hT
   go_wp2_with fail
   generalize (w.alloc (.cells #[.int .u8 0,.int .u32 0,.string ⟨#[]⟩] 87)).alloc (.cells #[.int .u8 3,.int .u32 0,.string ⟨#[]⟩] 87)=W at *
   refine hT2.mono ?_
   rintro e w2 ⟨rfl,hr2⟩
   have hg2:=hr2.rd.grown
   have hS2:=hSW.step hr2
   have kA2:=(hg2.block _ (by omega) (fun e=>by cases e;omega)).trans kA
   have kX3:=(hg2.block _ (by omega) (fun e=>by cases e;omega)).trans kX2
   obtain ⟨b0,b1,b2,bf⟩:=three_cells kA2
   have kA3:=setFar1' kA2 2 (.string st)
   have kX4:(w2.setCell ⟨w.heap.size+1,2,none⟩ (.string st)).heap[w.heap.size]?=_:=(Below.heap_setCell _ _ _ _ (by simp)).trans kX3
   obtain ⟨d0,d1,d2,df⟩:=three_cells kA3
   obtain ⟨x0,x1,x2,xf⟩:=three_cells kX4
   clear hT2 a0 a1 a2 af kA kX2 hr2 c9 hSW
   go_wp2
   have hB5:=three_put kX4 (.int .u8 3) (.int .u32 0) (.string st)
   have hBel:=((Below.refl w.heap.size w2).setCell (p:=⟨w.heap.size+1,2,none⟩) (by simp) (.string st)).trans (three_keep (w2.setCell ⟨w.heap.size+1,2,none⟩ (.string st)) w.heap.size (.int .u8 3) (.int .u32 0) (.string st))
   have hS5:=hS2.keep hBel hlt.1 hlt.2 (fun _=>hga)
   have hgf:=grown_then (below_then hbW hg2) hBel
   clear b0 b1 b2 bf d0 d1 d2 df x0 x1 x2 xf kX4 kA3 kA2 kX3 hS2
   generalize (((w2.setCell _ _).setCell _ _).setCell _ _).setCell _ _=WF at hB5 hBel hS5 hgf ⊢
   obtain ⟨g0,g1,g2,_⟩:=three_cells hB5
   refine bodyPost_ret (v:=.tuple #[argV (3,0,st),.int .i64 te]) ?_ rfl ⟨(3,0,st),rfl,hgf,fun _=>⟨rfl,hS5⟩⟩
   simp [results,Tryz.results144,go_sem,argV,g0,g1,g2]
  ·obtain ⟨eW,hE⟩:=argI_word hc0 (show (zs.drop p).length≠0 by omega) k3 (b:=b)
   rw [eW]
   have eN:nth (zs.drop p) 0=nth zs p:=by simp [nth,List.getD]
   rw [eN] at hE ⊢
   obtain ⟨x,hx⟩:∃ x,x=nth zs p:=⟨_,rfl⟩
   rw [← hx] at hE ⊢
   obtain ⟨r,hr⟩:∃ r,r=faultW c x b:=⟨_,rfl⟩
   rw [← hr] at hE ⊢
   have HX:Hid (x=nth zs p):=hx
   have HR:Hid (r=faultW c x b):=hr
   have HEE:Hid (r=0→argI c (zs.drop p) b=((kindI c,x,⟨#[]⟩),1,0)):=hE
   clear hx hr hE eN eW
   rcases hkr with hkc | hkc | hkc | hkc | hkc
   ·exact absurd hkc hkn
   ·have eK:kindI c=1:=hkc
    have HE1:=HEE.out
    rw [eK] at hK kA kX2 hbW hSW HE1
    have HE:Hid _:=HE1
    clear HE1 HEE
    clear eK hkc hkd hkn k3
    go_enter Tryz.func144,Tryz.ntmps144
    go_wp2_with fail
    refine (hK _).mono ?_
    rintro e w1 ⟨rfl,rfl⟩
    have c9:=hSW.cells.2.2.2.2
    obtain ⟨a0,a1,a2,af⟩:=three_cells kA
    have hT2:=word_some hSW.rd hp
    have hsz:((w.alloc (.cells #[.int .u8 0,.int .u32 0,.string ⟨#[]⟩] 87)).alloc (.cells #[.int .u8 1,.int .u32 0,.string ⟨#[]⟩] 87)).heap.size=w.heap.size+2:=by simp
    rw [← HX.out] at hT2
    clear hK kX hb2
    go_wp2_with fail
    generalize (w.alloc (.cells #[.int .u8 0,.int .u32 0,.string ⟨#[]⟩] 87)).alloc (.cells #[.int .u8 1,.int .u32 0,.string ⟨#[]⟩] 87)=W at *
    refine hT2.mono ?_
    rintro e w2 ⟨rfl,hr2⟩
    have hg2:=hr2.rd.grown
    have hS2:=hSW.step hr2
    have kA2:=(hg2.block _ (by omega) (fun e=>by cases e;omega)).trans kA
    have kX3:=(hg2.block _ (by omega) (fun e=>by cases e;omega)).trans kX2
    have s2:=hg2.size
    obtain ⟨b0,b1,b2,bf⟩:=three_cells kA2
    have kA3:=setFar1' kA2 1 (.int .u32 x)
    have kX4:(w2.setCell ⟨w.heap.size+1,1,none⟩ (.int .u32 x)).heap[w.heap.size]?=_:=(Below.heap_setCell _ _ _ _ (by simp)).trans kX3
    have hB3:Below w.heap.size w2 (w2.setCell ⟨w.heap.size+1,1,none⟩ (.int .u32 x)):=(Below.refl _ _).setCell (by simp) _
    have hS3:=hS2.keep hB3 hlt.1 hlt.2 (fun _=>hga)
    have hsz3:w.heap.size+2≤(w2.setCell ⟨w.heap.size+1,1,none⟩ (.int .u32 x)).heap.size:=by rw [World.size_setCell];omega
    clear hT2 a0 a1 a2 af kA kX2 hr2 c9 hSW hS2
    go_wp2
    generalize w2.setCell ⟨w.heap.size+1,1,none⟩ (.int .u32 x)=W3 at *
    obtain ⟨d0,d1,d2,df⟩:=three_cells kA3
    change W3.cell? _=some (Value.int .u32 x) at d1
    have q1:=fun s:InC (Below W3.heap.size W3)=>s.cell (p:=⟨w.heap.size+1,1,none⟩) (by show w.heap.size+1 < _;omega) d1
    have hF:=fun s:InC (Below W3.heap.size W3)=>Calls.inC s (faultW_any R c x b s.w (by have:=s.ok.size;omega) (s.cell (p:=⟨R,8,none⟩) (by show R < _;omega) hS3.cells.2.2.2.1))
    rw [← HR.out] at hF
    clear b0 b1 b2 bf
    refine wp_region_class (C:=Below W3.heap.size W3) (by kernel_rfl) (by kernel_rfl) (below_drew W3) ?_
    have hne:Nonempty (InC (Below W3.heap.size W3)):=⟨⟨W3,Below.refl _ _⟩⟩
    repeat (go_big_quiet_step ((go_at_call 134;exact hF _)))
    refine wpQuiet_nil ?_
    rintro _ ⟨s,rfl⟩
    have kA4:=(s.ok.block _ (by omega)).trans kA3
    have kX5:=(s.ok.block _ (by omega)).trans kX4
    have hS4:=hS3.below s.ok
    have hB4:=hB3.trans (s.ok.mono (by omega))
    obtain ⟨s,hs⟩:=s
    simp only at *
    obtain ⟨f0,f1,f2,ff⟩:=three_cells kA4
    obtain ⟨x0,x1,x2,xf⟩:=three_cells kX5
    change s.cell? _=some (Value.int .u8 1) at f0
    change s.cell? _=some (Value.int .u32 x) at f1
    change s.cell? _=some (Value.string ⟨#[]⟩) at f2
    clear hne hF q1 d0 d1 d2 df hs kA3 kX4 hB3 hS3 kA2 kX3
    go_wp2
    have hB5:=three_put kX5 (.int .u8 1) (.int .u32 x) (.string ⟨#[]⟩)
    have hBel:=hB4.trans (three_keep s w.heap.size (.int .u8 1) (.int .u32 x) (.string ⟨#[]⟩))
    have hS5:=hS4.keep (three_keep s w.heap.size (.int .u8 1) (.int .u32 x) (.string ⟨#[]⟩)) hlt.1 hlt.2 (fun _=>hga)
    have hgf:=grown_then (below_then hbW hg2) hBel
    clear f0 f1 f2 ff x0 x1 x2 xf kX5 kA4 hB4 hS4
    generalize ((s.setCell _ _).setCell _ _).setCell _ _=WF at hB5 hBel hS5 hgf ⊢
    obtain ⟨g0,g1,g2,_⟩:=three_cells hB5
    refine bodyPost_ret (v:=.tuple #[argV (1,x,⟨#[]⟩),.int .i64 r]) ?_ rfl ⟨(1,x,⟨#[]⟩),rfl,hgf,fun h0=>?_⟩
    ·simp [results,Tryz.results144,go_sem,argV,g0,g1,g2]
    ·rw [HE.out h0]
     exact ⟨rfl,hS5⟩
   ·have eK:kindI c=2:=hkc
    have HE1:=HEE.out
    rw [eK] at hK kA kX2 hbW hSW HE1
    have HE:Hid _:=HE1
    clear HE1 HEE
    clear eK hkc hkd hkn k3
    go_enter Tryz.func144,Tryz.ntmps144
    go_wp2_with fail
    refine (hK _).mono ?_
    rintro e w1 ⟨rfl,rfl⟩
    have c9:=hSW.cells.2.2.2.2
    obtain ⟨a0,a1,a2,af⟩:=three_cells kA
    have hT2:=word_some hSW.rd hp
    have hsz:((w.alloc (.cells #[.int .u8 0,.int .u32 0,.string ⟨#[]⟩] 87)).alloc (.cells #[.int .u8 2,.int .u32 0,.string ⟨#[]⟩] 87)).heap.size=w.heap.size+2:=by simp
    rw [← HX.out] at hT2
    clear hK kX hb2
    go_wp2_with fail
    generalize (w.alloc (.cells #[.int .u8 0,.int .u32 0,.string ⟨#[]⟩] 87)).alloc (.cells #[.int .u8 2,.int .u32 0,.string ⟨#[]⟩] 87)=W at *
    refine hT2.mono ?_
    rintro e w2 ⟨rfl,hr2⟩
    have hg2:=hr2.rd.grown
    have hS2:=hSW.step hr2
    have kA2:=(hg2.block _ (by omega) (fun e=>by cases e;omega)).trans kA
    have kX3:=(hg2.block _ (by omega) (fun e=>by cases e;omega)).trans kX2
    have s2:=hg2.size
    obtain ⟨b0,b1,b2,bf⟩:=three_cells kA2
    have kA3:=setFar1' kA2 1 (.int .u32 x)
    have kX4:(w2.setCell ⟨w.heap.size+1,1,none⟩ (.int .u32 x)).heap[w.heap.size]?=_:=(Below.heap_setCell _ _ _ _ (by simp)).trans kX3
    have hB3:Below w.heap.size w2 (w2.setCell ⟨w.heap.size+1,1,none⟩ (.int .u32 x)):=(Below.refl _ _).setCell (by simp) _
    have hS3:=hS2.keep hB3 hlt.1 hlt.2 (fun _=>hga)
    have hsz3:w.heap.size+2≤(w2.setCell ⟨w.heap.size+1,1,none⟩ (.int .u32 x)).heap.size:=by rw [World.size_setCell];omega
    clear hT2 a0 a1 a2 af kA kX2 hr2 c9 hSW hS2
    go_wp2
    generalize w2.setCell ⟨w.heap.size+1,1,none⟩ (.int .u32 x)=W3 at *
    obtain ⟨d0,d1,d2,df⟩:=three_cells kA3
    change W3.cell? _=some (Value.int .u32 x) at d1
    have q1:=fun s:InC (Below W3.heap.size W3)=>s.cell (p:=⟨w.heap.size+1,1,none⟩) (by show w.heap.size+1 < _;omega) d1
    have hF:=fun s:InC (Below W3.heap.size W3)=>Calls.inC s (faultW_any R c x b s.w (by have:=s.ok.size;omega) (s.cell (p:=⟨R,8,none⟩) (by show R < _;omega) hS3.cells.2.2.2.1))
    rw [← HR.out] at hF
    clear b0 b1 b2 bf
    refine wp_region_class (C:=Below W3.heap.size W3) (by kernel_rfl) (by kernel_rfl) (below_drew W3) ?_
    have hne:Nonempty (InC (Below W3.heap.size W3)):=⟨⟨W3,Below.refl _ _⟩⟩
    repeat (go_big_quiet_step ((go_at_call 134;exact hF _)))
    refine wpQuiet_nil ?_
    rintro _ ⟨s,rfl⟩
    have kA4:=(s.ok.block _ (by omega)).trans kA3
    have kX5:=(s.ok.block _ (by omega)).trans kX4
    have hS4:=hS3.below s.ok
    have hB4:=hB3.trans (s.ok.mono (by omega))
    obtain ⟨s,hs⟩:=s
    simp only at *
    obtain ⟨f0,f1,f2,ff⟩:=three_cells kA4
    obtain ⟨x0,x1,x2,xf⟩:=three_cells kX5
    change s.cell? _=some (Value.int .u8 2) at f0
    change s.cell? _=some (Value.int .u32 x) at f1
    change s.cell? _=some (Value.string ⟨#[]⟩) at f2
    clear hne hF q1 d0 d1 d2 df hs kA3 kX4 hB3 hS3 kA2 kX3
    go_wp2
    have hB5:=three_put kX5 (.int .u8 2) (.int .u32 x) (.string ⟨#[]⟩)
    have hBel:=hB4.trans (three_keep s w.heap.size (.int .u8 2) (.int .u32 x) (.string ⟨#[]⟩))
    have hS5:=hS4.keep (three_keep s w.heap.size (.int .u8 2) (.int .u32 x) (.string ⟨#[]⟩)) hlt.1 hlt.2 (fun _=>hga)
    have hgf:=grown_then (below_then hbW hg2) hBel
    clear f0 f1 f2 ff x0 x1 x2 xf kX5 kA4 hB4 hS4
    generalize ((s.setCell _ _).setCell _ _).setCell _ _=WF at hB5 hBel hS5 hgf ⊢
    obtain ⟨g0,g1,g2,_⟩:=three_cells hB5
    refine bodyPost_ret (v:=.tuple #[argV (2,x,⟨#[]⟩),.int .i64 r]) ?_ rfl ⟨(2,x,⟨#[]⟩),rfl,hgf,fun h0=>?_⟩
    ·simp [results,Tryz.results144,go_sem,argV,g0,g1,g2]
    ·rw [HE.out h0]
     exact ⟨rfl,hS5⟩
   ·exact absurd hkc k3
   ·have eK:kindI c=4:=hkc
    have HE1:=HEE.out
    rw [eK] at hK kA kX2 hbW hSW HE1
    have HE:Hid _:=HE1
    clear HE1 HEE
    clear eK hkc hkd hkn k3
    go_enter Tryz.func144,Tryz.ntmps144
    go_wp2_with fail
    refine (hK _).mono ?_
    rintro e w1 ⟨rfl,rfl⟩
    have c9:=hSW.cells.2.2.2.2
    obtain ⟨a0,a1,a2,af⟩:=three_cells kA
    have hT2:=word_some hSW.rd hp
    have hsz:((w.alloc (.cells #[.int .u8 0,.int .u32 0,.string ⟨#[]⟩] 87)).alloc (.cells #[.int .u8 4,.int .u32 0,.string ⟨#[]⟩] 87)).heap.size=w.heap.size+2:=by simp
    rw [← HX.out] at hT2
    clear hK kX hb2
    go_wp2_with fail
    generalize (w.alloc (.cells #[.int .u8 0,.int .u32 0,.string ⟨#[]⟩] 87)).alloc (.cells #[.int .u8 4,.int .u32 0,.string ⟨#[]⟩] 87)=W at *
    refine hT2.mono ?_
    rintro e w2 ⟨rfl,hr2⟩
    have hg2:=hr2.rd.grown
    have hS2:=hSW.step hr2
    have kA2:=(hg2.block _ (by omega) (fun e=>by cases e;omega)).trans kA
    have kX3:=(hg2.block _ (by omega) (fun e=>by cases e;omega)).trans kX2
    have s2:=hg2.size
    obtain ⟨b0,b1,b2,bf⟩:=three_cells kA2
    have kA3:=setFar1' kA2 1 (.int .u32 x)
    have kX4:(w2.setCell ⟨w.heap.size+1,1,none⟩ (.int .u32 x)).heap[w.heap.size]?=_:=(Below.heap_setCell _ _ _ _ (by simp)).trans kX3
    have hB3:Below w.heap.size w2 (w2.setCell ⟨w.heap.size+1,1,none⟩ (.int .u32 x)):=(Below.refl _ _).setCell (by simp) _
    have hS3:=hS2.keep hB3 hlt.1 hlt.2 (fun _=>hga)
    have hsz3:w.heap.size+2≤(w2.setCell ⟨w.heap.size+1,1,none⟩ (.int .u32 x)).heap.size:=by rw [World.size_setCell];omega
    clear hT2 a0 a1 a2 af kA kX2 hr2 c9 hSW hS2
    go_wp2
    generalize w2.setCell ⟨w.heap.size+1,1,none⟩ (.int .u32 x)=W3 at *
    obtain ⟨d0,d1,d2,df⟩:=three_cells kA3
    change W3.cell? _=some (Value.int .u32 x) at d1
    have q1:=fun s:InC (Below W3.heap.size W3)=>s.cell (p:=⟨w.heap.size+1,1,none⟩) (by show w.heap.size+1 < _;omega) d1
    have hF:=fun s:InC (Below W3.heap.size W3)=>Calls.inC s (faultW_any R c x b s.w (by have:=s.ok.size;omega) (s.cell (p:=⟨R,8,none⟩) (by show R < _;omega) hS3.cells.2.2.2.1))
    rw [← HR.out] at hF
    clear b0 b1 b2 bf
    refine wp_region_class (C:=Below W3.heap.size W3) (by kernel_rfl) (by kernel_rfl) (below_drew W3) ?_
    have hne:Nonempty (InC (Below W3.heap.size W3)):=⟨⟨W3,Below.refl _ _⟩⟩
    repeat (go_big_quiet_step ((go_at_call 134;exact hF _)))
    refine wpQuiet_nil ?_
    rintro _ ⟨s,rfl⟩
    have kA4:=(s.ok.block _ (by omega)).trans kA3
    have kX5:=(s.ok.block _ (by omega)).trans kX4
    have hS4:=hS3.below s.ok
    have hB4:=hB3.trans (s.ok.mono (by omega))
    obtain ⟨s,hs⟩:=s
    simp only at *
    obtain ⟨f0,f1,f2,ff⟩:=three_cells kA4
    obtain ⟨x0,x1,x2,xf⟩:=three_cells kX5
    change s.cell? _=some (Value.int .u8 4) at f0
    change s.cell? _=some (Value.int .u32 x) at f1
    change s.cell? _=some (Value.string ⟨#[]⟩) at f2
    clear hne hF q1 d0 d1 d2 df hs kA3 kX4 hB3 hS3 kA2 kX3
    go_wp2
    have hB5:=three_put kX5 (.int .u8 4) (.int .u32 x) (.string ⟨#[]⟩)
    have hBel:=hB4.trans (three_keep s w.heap.size (.int .u8 4) (.int .u32 x) (.string ⟨#[]⟩))
    have hS5:=hS4.keep (three_keep s w.heap.size (.int .u8 4) (.int .u32 x) (.string ⟨#[]⟩)) hlt.1 hlt.2 (fun _=>hga)
    have hgf:=grown_then (below_then hbW hg2) hBel
    clear f0 f1 f2 ff x0 x1 x2 xf kX5 kA4 hB4 hS4
    generalize ((s.setCell _ _).setCell _ _).setCell _ _=WF at hB5 hBel hS5 hgf ⊢
    obtain ⟨g0,g1,g2,_⟩:=three_cells hB5
    refine bodyPost_ret (v:=.tuple #[argV (4,x,⟨#[]⟩),.int .i64 r]) ?_ rfl ⟨(4,x,⟨#[]⟩),rfl,hgf,fun h0=>?_⟩
    ·simp [results,Tryz.results144,go_sem,argV,g0,g1,g2]
    ·rw [HE.out h0]
     exact ⟨rfl,hS5⟩
theorem flat_arg:∀ (l:List ArgT) (k j:Nat),k < l.length→j < 3→(l.flatMap argC)[k * 3+j]?=(argC (nthA l k))[j]?
 | x :: l,0,j,_,hj=>by
  rw [List.flatMap_cons,Nat.zero_mul,Nat.zero_add,List.getElem?_append_left (by simp [argC];omega)];rfl
 | x :: l,k+1,j,hk,hj=>by
  rw [List.flatMap_cons,List.getElem?_append_right (by simp [argC];omega)]
  have:=flat_arg l k j (by simpa using hk) hj
  rw [show (k+1) * 3+j - (argC x).length=k * 3+j by simp [argC];omega]
  exact this
theorem flat_push (l:List ArgT) (x:ArgT):(l ++ [x]).flatMap argC=l.flatMap argC ++ argC x:=by simp
theorem argsV_own {w:World} {B T n cap:Nat} {a:Option Addr} {l:List ArgT} (h:w.ownsRow B T 3 (.slice a n cap) n (l.flatMap argC)) (hl:l.length=n):ArgsV w a l:=by
 intro j hj
 rcases h.2 with ⟨hv,hn⟩ | ⟨g,cap',cur,hv,_,hg,_⟩
 ·omega
 ·cases hv
  have c0:=h.cellAt (j * 3+0) (by omega)
  have c1:=h.cellAt (j * 3+1) (by omega)
  have c2:=h.cellAt (j * 3+2) (by omega)
  rw [flat_arg l j 0 hj (by omega)] at c0
  rw [flat_arg l j 1 hj (by omega)] at c1
  rw [flat_arg l j 2 hj (by omega)] at c2
  exact ⟨g,0,rfl,(Array.getElem?_eq_some_iff.1 hg).1,by rw [Nat.zero_add];exact c0,by rw [Nat.zero_add];exact c1,by rw [Nat.zero_add];exact c2⟩
theorem argI_kind {c:Int} {zs:List Int} {b:Int} (h:(argI c zs b).2.2=0):c≠0∧(argI c zs b).1.1=kindI c∧1≤(argI c zs b).2.1∧(argI c zs b).2.1≤zs.length:=by
 unfold argI at h ⊢
 by_cases h0:c=0 ∨ zs.length=0
 ·rw [if_pos h0] at h;cases h
 ·rw [if_neg h0] at h ⊢
  by_cases h3:kindI c=3
  ·rw [if_pos h3] at h ⊢
   have:=textI_range zs
   exact ⟨fun e=>h0 (.inl e),h3.symm,this.2.2.1 h,this.2.1⟩
  ·rw [if_neg h3] at h ⊢
   split at h
   ·cases h
   ·rename_i h1
    rw [if_neg h1]
    split at h
    ·cases h
    ·rename_i h4
     rw [if_neg h4]
     exact ⟨fun e=>h0 (.inl e),rfl,by simp,by simp;omega⟩
def lenV:Value→Nat
 | .slice _ n _=>n
 | _=>0
theorem Rargs.info:(Tryz.prog.info? 87).map (fun i=>(i.zero,i.size,i.bytes))=some (some (.agg #[.int .u8 0,.int .u32 0,.string ⟨#[]⟩]),3,24):=by kernel_rfl
theorem alloc_newAt (w:World) (o:Obj) {n:Nat} (h:w.heap.size=n):(w.alloc o).heap[n]?=some o:=by subst h;exact heap_alloc_new w o
theorem grown_own {w w':World} {B e size n g:Nat} {v:Value} {xs:List Value} (h:w.ownsRow B e size v n xs) (hg:w.grownBy w' (some g)) (hB:g < B):w'.ownsRow B e size v n xs:=by
 refine ⟨h.1,?_⟩
 rcases h.2 with hn | ⟨g',cap,cur,rfl,hb,hgg,rest⟩
 ·exact .inl hn
 ·exact .inr ⟨g',cap,cur,rfl,hb,(hg.block g' (Array.getElem?_eq_some_iff.1 hgg).1 (fun e=>by cases e;omega)).trans hgg,rest⟩
set_option maxHeartbeats 2000000 in
theorem rargs_any (w:World) (R:Nat) (o:Int) (f:Frm) (b:Int) (gr ga n cw p:Nat) (zs:List Int) (K:Nat) (h:RdS w R o f b gr ga n cw p zs) (hf:lookF refT o=(f,true)) (hn:n≤65535) (hK:n - p < K) :
  Calls Tryz.prog 121 #[.pointer (some ⟨R,0,none⟩)] w fun e w'=>w.grownBy w' (some gr)∧∃ a m c,e=.returned (.tuple #[.slice a m c,.int .i64 (argsI f b K (zs.drop p) []).2])∧(argsI f b K (zs.drop p) []).1.length=m ∧
   w'.ownsRow w.heap.size 87 3 (.slice a m c) m ((argsI f b K (zs.drop p) []).1.flatMap argC):=by
 obtain ⟨i0,hi,hz0,hz1,hz2⟩:=info_parts Rargs.info
 have HI:Hid (Tryz.prog.info? 87=some i0∧i0.zero=some (.agg #[.int .u8 0,.int .u32 0,.string ⟨#[]⟩])∧i0.size=3∧i0.bytes=24):=⟨hi,hz0,hz1,hz2⟩
 clear hi hz0 hz1 hz2
 have hlt:=h.lt
 have hga:0 < n→ga < w.heap.size:=fun hn0=>h.ga hn0
 have HLEN:Hid (zs.length=n):=h.rd.len
 have hL:=fun (k:Nat) (hk:k < 140737488351232) w=>grammarLetter_any o k w (by omega)
 rw [hf] at hL
 have hLK:=fun (k:Nat)=>letter_kind o k
 rw [hf] at hLK
 have hWh:=fun (a:Option Addr) (m cap:Nat) (l:List ArgT) wx (hB:R < wx.heap.size) (h0:wx.cell? ⟨R,0,none⟩=some (.int .u16 o)) (hv:ArgsV wx a l) (hl:l.length=m) (hm:24 * m≤140737488351232)=>formWhole_any R o a m cap l wx hB h0 hv hl hm
 rw [hf] at hWh
 have HWH:Hid _:=hWh
 obtain ⟨Rr,hRr⟩:∃ r,r=argsI f b K (zs.drop p) []:=⟨_,rfl⟩
 rw [← hRr]
 have HP:Hid (RdS w R o f b gr ga n cw p zs):=h
 clear hf hWh h
 go_enter Tryz.func121,Tryz.ntmps121
 go_wp2
 go_loopw [4] (fun v wr=>∃ (acc:List ArgT) (q k:Nat),wr.ownsRow w.heap.size 87 3 v acc.length (acc.flatMap argC)∧RdS wr R o f b gr ga n cw q zs∧w.grownBy wr (some gr)∧acc.length≤q∧n - q < k∧Rr=argsI f b k (zs.drop q) acc ∧
   ∀ i,i < acc.length→letterI f (i:Int)≠0∧(nthA acc i).1=kindI (letterI f (i:Int))) (fun v _=>n - lenV v)
 case atStart=>exact ⟨[],p,K,World.ownsRow_nil _ _ _ _,HP.out,World.grownBy.refl _ _,Nat.zero_le _,hK,hRr,fun i hi=>by simp at hi⟩
 case round =>
  obtain ⟨acc,q,k,hown,hS,hg,hal,hqk,hR,hall⟩:=hrel
  clear hRr HP
  have HR:Hid (Rr=argsI f b k (zs.drop q) acc):=hR
  have HALL:Hid (∀ i,i < acc.length→letterI f (i:Int)≠0∧(nthA acc i).1=kindI (letterI f (i:Int))):=hall
  obtain ⟨a',cap',rfl⟩:∃ a cap,u4=.slice a acc.length cap:=by
   rcases hown.2 with ⟨rfl,h0⟩ | ⟨g,cap,cur,rfl,_⟩
   ·exact ⟨none,0,by rw [h0]⟩
   ·exact ⟨_,_,rfl⟩
  have hle:=hS.rd.le
  have c9:=hS.cells.2.2.2.2
  have hLf:=left_any hS.rd
  have hgs:=hg.size
  clear hR hall
  go_wp2_with fail
  refine hLf.mono ?_
  rintro e w1 ⟨rfl,dd,hd⟩
  have hb1:Below wr.heap.size wr w1:=by rw [hd];exact bel_drewN (Below.refl _ _) dd
  have hS1:=hS.below hb1
  have hown1:=own_below hown hb1
  have hg1:=grown_then hg (hb1.mono hgs)
  have s1:=hb1.size
  clear hLf hd hS hown hg hb1 c9
  by_cases hq:q < n
  ·have hq':(q:Int) < (n:Int):=by omega
   have w0:=hS1.cells.1
   have hdl:(zs.drop q).length≠0:=by rw [List.length_drop,HLEN.out];omega
   obtain ⟨k,rfl⟩:∃ k',k=k'+1:=⟨k - 1,by omega⟩
   have hRu:=HR.out
   rw [argsI,if_neg hdl] at hRu
   have hkd:=hLK acc.length
   have hLl:=hL acc.length (by omega)
   have hAr:=fun wx (hx:RdS wx R o f b gr ga n cw q zs)=>rarg_any wx R o f b gr ga n cw q zs (letterI f (acc.length:Int)) hx hq hkd
   have hkA:=argI_kind (c:=letterI f (acc.length:Int)) (zs:=zs.drop q) (b:=b)
   rw [List.length_drop,HLEN.out] at hkA
   have hdd:∀ m,(zs.drop q).drop m=zs.drop (q+m):=fun m=>by rw [List.drop_drop]
   rw [hdd] at hRu
   generalize argI (letterI f (acc.length:Int)) (zs.drop q) b=A at hRu hAr hkA
   have HRU:Hid _:=hRu
   have HKA:Hid _:=hkA
   clear hRu hkA hdd hdl HR hkd hL hLK
   generalize hcc:letterI f (acc.length:Int)=cc at hLl hAr HKA
   have HCC:Hid (letterI f (acc.length:Int)=cc):=hcc
   clear hcc
   go_wp2_with fail
   refine (hLl _).mono ?_
   rintro e w2 ⟨rfl,hb2⟩
   have hS2:=hS1.below hb2
   have hown2:=own_below hown1 hb2
   have hg2:=grown_then hg1 (hb2.mono (by omega))
   have s2:=hb2.size
   have hA2:=hAr w2 hS2
   clear hS1 hown1 hg1 hb2 hAr hLl w0
   go_wp2_with fail
   refine hA2.mono ?_
   rintro e w3 ⟨y,rfl,hg3,hy3⟩
   have hown3:=grown_own hown2 hg3 hlt.2
   have hgw3:w.grownBy w3 (some gr):=hg2.trans hg3
   have s3:=hg3.size
   clear hA2 hown2 hg2 hS2
   obtain ⟨y1,y2,y3⟩:=y
   unfold argV
   obtain ⟨A1,A2,r⟩:=A
   simp only at hy3
   have hb4:Below w3.heap.size w3 (w3.alloc (.cells #[.int .u8 y1,.int .u32 y2,.string y3] 87)):=(Below.refl _ _).alloc (Nat.le_refl _) _
   have kY:=alloc_new w3 #[.int .u8 y1,.int .u32 y2,.string y3] 87
   have hown4:=own_below hown3 hb4
   have hgw4:=grown_then hgw3 (hb4.mono (by omega))
   by_cases hr:r=0
   ·subst hr
    obtain ⟨hy,hS3⟩:=hy3 rfl
    have hS4:=hS3.below hb4
    obtain ⟨q0,q1,q2,qf⟩:=three_cells kY
    have hRu:Rr=argsI f b k (zs.drop (q+A2.toNat)) (acc ++ [A1]):=by have:=HRU.out;simpa using this
    obtain ⟨ka1,ka2,ka3,ka4⟩:=HKA.out rfl
    simp only at ka2 ka3 ka4
    have HRR:Hid _:=hRu
    have HKK:Hid (cc≠0∧A1.1=kindI cc):=⟨ka1,ka2⟩
    have HY:Hid ((y1,y2,y3)=A1):=hy
    have HS4:Hid _:=hS4
    have HG4:Hid _:=hgw4
    have HO4:Hid _:=hown4
    have s4:=hb4.size
    clear hRu ka1 ka2 hy hS3 hS4 hgw4 hown4 hown3 hgw3 hy3 HRU HKA hb4 kY hg3
    have hsz4:(w3.alloc (.cells #[.int .u8 y1,.int .u32 y2,.string y3] 87)).heap.size=w3.heap.size+1:=by simp
    have N1:Hid (((w3.alloc (.cells #[.int .u8 y1,.int .u32 y2,.string y3] 87)).alloc (.cells #[.int .u8 y1,.int .u32 y2,.string y3] 87)).ownsRow w.heap.size 87 3 (.slice a' acc.length cap') acc.length (acc.flatMap argC)):=own_below (e:=87) (size:=3) (v:=.slice a' acc.length cap') (n:=acc.length) (B:=w.heap.size) (xs:=acc.flatMap argC) HO4.out ((Below.refl _ _).alloc (Nat.le_refl _) _)
    have N2:Hid (∀ (j:Nat) (u:Value),[Value.int .u8 y1,.int .u32 y2,.string y3][j]?=some u→((w3.alloc (.cells #[.int .u8 y1,.int .u32 y2,.string y3] 87)).alloc (.cells #[.int .u8 y1,.int .u32 y2,.string y3] 87)).cell? ((⟨w3.heap.size+1,0,none⟩:Addr).add j)=some u):=World.news_of_block (cs:=#[.int .u8 y1,.int .u32 y2,.string y3]) (t:=87) (fr:=(0,0)) (alloc_newAt _ _ (by simp))
    have N3:Hid (∀ u:Value,u ∈ [Value.int .u8 y1,.int .u32 y2,.string y3]→u.oneCell'=true):=by intro u hu;simp at hu;rcases hu with rfl | rfl | rfl <;> rfl
    have N4:acc.length+1≤maxLen:=by unfold maxLen;omega
    have N5:(acc.length+1) * 24≤140737488355328:=by omega
    have N6:Hid (w.heap.size≤((w3.alloc (.cells #[.int .u8 y1,.int .u32 y2,.string y3] 87)).alloc (.cells #[.int .u8 y1,.int .u32 y2,.string y3] 87)).heap.size):=by show _≤_;rw [World.size_alloc,World.size_alloc];omega
    go_wp2_with (at_builtin;refine wpList_append_own _ rfl (.tmp 30) (.tmp 32) 47 rfl w.heap.size 87 i0 (.agg #[.int .u8 0,.int .u32 0,.string ⟨#[]⟩]) 3 24 Tryz.underlying47 HI.out.1 HI.out.2.1 HI.out.2.2.1 HI.out.2.2.2 rfl (by decide) _ acc.length (acc.flatMap argC) rfl N1.out ⟨w3.heap.size+1,0,none⟩ 1 1 [.int .u8 y1,.int .u32 y2,.string y3] rfl rfl N2.out N3.out N4 N5 N6.out ?_)
    intro v5 w5 hown5 hgr5 _
    have hb5:w.grownBy ((w3.alloc (.cells #[.int .u8 y1,.int .u32 y2,.string y3] 87)).alloc (.cells #[.int .u8 y1,.int .u32 y2,.string y3] 87)) (some gr):=grown_then HG4.out ((Below.refl _ _).alloc (by simp;omega) _)
    have hRow:∀ g,(Value.slice a' acc.length cap').ownBlock=some g→w.heap.size≤g:=fun g e=>(N1.out.lt g e).1
    have hbel:Below w.heap.size ((w3.alloc (.cells #[.int .u8 y1,.int .u32 y2,.string y3] 87)).alloc (.cells #[.int .u8 y1,.int .u32 y2,.string y3] 87)) w5:=(Below.refl _ _).grown hgr5 N6.out hRow
    have hg6:=grown_then hb5 hbel
    have hS6:=(HS4.out.below ((Below.refl _ _).alloc (Nat.le_refl _) (.cells #[.int .u8 y1,.int .u32 y2,.string y3] 87))).keep hbel hlt.1 hlt.2 hga
    obtain ⟨a6,cap6,rfl⟩:∃ a cap,v5=.slice a (acc.length+1) cap:=by
     rcases hown5.2 with ⟨_,h0⟩ | ⟨g,cap,cur,rfl,_⟩
     ·omega
     ·exact ⟨_,_,rfl⟩
    have hown6:w5.ownsRow w.heap.size 87 3 (.slice a6 (acc.length+1) cap6) (acc ++ [A1]).length ((acc ++ [A1]).flatMap argC):=by
     rw [flat_push,← HY.out,List.length_append];exact hown5
    clear hown5 hgr5 hb5 hRow hbel q0 q1 q2 qf N1 N2 N3 N6 HS4 HG4 HO4
    go_wp2
    go_roundw
    case rel =>
     refine ⟨acc ++ [A1],q+A2.toNat,k,hown6,hS6,hg6,by rw [List.length_append,List.length_singleton];omega,by omega,HRR.out,fun i hi=>?_⟩
     rw [List.length_append,List.length_singleton] at hi
     by_cases hil:i < acc.length
     ·rw [nthA_lo _ _ _ hil];exact HALL.out i hil
     ·obtain rfl:i=acc.length:=by omega
      rw [nthA_hi,HCC.out];exact HKK.out
    case measure=>simp [lenV];omega
   ·have hRu:Rr=([],r):=by have:=HRU.out;simp [hr] at this;exact this
    subst hRu
    clear hy3 HRU HKA
    go_wp2
    refine bodyPost_ret (v:=.tuple #[.slice none 0 0,.int .i64 r]) ?_ rfl ⟨hgw4,none,0,0,rfl,rfl,World.ownsRow_nil _ _ _ _⟩
    simp [results,Tryz.results121,go_sem]
  ·obtain rfl:q=n:=by omega
   have hdl:(zs.drop q).length=0:=by rw [List.length_drop,HLEN.out];omega
   obtain ⟨k,rfl⟩:∃ k',k=k'+1:=⟨k - 1,by omega⟩
   have hRu:=HR.out
   rw [argsI,if_pos hdl] at hRu
   have hV:=argsV_own hown1 rfl
   have hfw:=fits_whole (f:=f) (l:=acc) HALL.out
   have hW:=HWH.out a' acc.length cap' acc w1 (by omega) hS1.cells.1 hV rfl (by omega)
   rw [hfw] at hW
   clear hfw HR HALL hdl
   go_wp2_with fail
   refine hW.mono ?_
   rintro e w2 ⟨rfl,hb2⟩
   have hown2:=own_below hown1 hb2
   have hg2:=grown_then hg1 (hb2.mono (by omega))
   clear hW hown1 hg1 hb2 hV
   cases hwh:wholeN f acc.length
   ·rw [hwh] at hRu
    have hRu':Rr=([],42):=by simpa using hRu
    subst hRu'
    clear hRu
    go_wp2
    refine bodyPost_ret (v:=.tuple #[.slice none 0 0,.int .i64 42]) ?_ rfl ⟨hg2,none,0,0,rfl,rfl,World.ownsRow_nil _ _ _ _⟩
    simp [results,Tryz.results121,go_sem]
   ·rw [hwh] at hRu
    have hRu':Rr=(acc,0):=by simpa using hRu
    subst hRu'
    clear hRu
    go_wp2
    refine bodyPost_ret (v:=.tuple #[.slice a' acc.length cap',.int .i64 0]) ?_ rfl ⟨hg2,a',acc.length,cap',rfl,rfl,hown2⟩
    simp [results,Tryz.results121,go_sem]
def OwnI (w:World) (lo:Nat) (a:Option Addr) (k:Nat) (rs:List InstT):Prop :=
 ∀ j,k≤j→j < rs.length→∃ b off aj cj nj,a=some ⟨b,off,none⟩∧lo≤b∧b < w.heap.size∧w.cell? ⟨b,off+j * 4,none⟩=some (.int .u16 (nthI rs j).1)∧w.cell? ⟨b,off+j * 4+1,none⟩=some (.int .u32 (nthI rs j).2.1)∧w.cell? ⟨b,off+j * 4+2,none⟩=some (.int .u32 (nthI rs j).2.2.1)∧w.cell? ⟨b,off+j * 4+3,none⟩=some (.slice aj nj cj)∧(nthI rs j).2.2.2.length=nj ∧
  w.ownsRow lo 87 3 (.slice aj nj cj) nj ((nthI rs j).2.2.2.flatMap argC)∧Value.ownBlock (.slice aj nj cj)≠some b ∧
  ∀ i,k≤i→i < rs.length→i≠j→∀ ai ci ni g,w.cell? ⟨b,off+i * 4+3,none⟩=some (.slice ai ni ci)→Value.ownBlock (.slice ai ni ci)=some g→Value.ownBlock (.slice aj nj cj)≠some g
theorem ownI_nil {w:World} {lo k:Nat} {a:Option Addr}:OwnI w lo a k []:=fun j _ hj=>by simp at hj
theorem OwnI.kept {w w':World} {lo lo' k:Nat} {a:Option Addr} {rs:List InstT} {ob:Option Nat} (h:OwnI w lo a k rs) (hg:w.grownBy w' ob) (hob:∀ g,ob=some g→g < lo) (hlo:lo'≤lo):OwnI w' lo' a k rs:=by
 intro j hj hjl
 obtain ⟨b,off,aj,cj,nj,e1,hlo1,hb1,c1,d1,d2,c2,c3,c4,c5,c6⟩:=h j hj hjl
 have hne:some b≠ob:=fun e=>by have:=hob b e.symm;omega
 have cell:∀ o,w'.cell? ⟨b,o,none⟩=w.cell? ⟨b,o,none⟩:=fun o=>World.cell?_of_block (hg.block b hb1 hne)
 have c4':=own_grown c4 hg (fun g e e2=>by have:=(c4.lt g e2).1;have:=hob g e;omega)
 refine ⟨b,off,aj,cj,nj,e1,Nat.le_trans hlo hlo1,Nat.lt_of_lt_of_le hb1 hg.size,(cell _).trans c1,(cell _).trans d1,(cell _).trans d2,(cell _).trans c2,c3,⟨c4'.1,?_⟩,c5,fun i hi hil hij ai ci ni g hci=>by rw [cell] at hci;exact c6 i hi hil hij ai ci ni g hci⟩
 rcases c4'.2 with h0 | ⟨g,cap,cur,e,hb,rest⟩
 ·exact .inl h0
 ·exact .inr ⟨g,cap,cur,e,Nat.le_trans hlo hb,rest⟩
theorem OwnI.below {w w':World} {lo k:Nat} {a:Option Addr} {rs:List InstT} (h:OwnI w lo a k rs) (hb:Below w.heap.size w w'):OwnI w' lo a k rs :=
 h.kept (ob:=none) ⟨hb.os,hb.tape,hb.output,hb.size,fun k hk _=>hb.block k hk⟩ (fun g e=>by cases e) (Nat.le_refl _)
theorem OwnI.view {w:World} {lo:Nat} {a:Option Addr} {rs:List InstT} (h:OwnI w lo a 0 rs):InstsV w a rs:=by
 intro j hj
 obtain ⟨b,off,aj,cj,nj,e,_,hb,c1,d1,d2,c2,c3,c4,_⟩:=h j (Nat.zero_le _) hj
 refine ⟨b,off,aj,cj,nj,e,hb,c1,d1,d2,c2,c3,argsV_own c4 c3,?_⟩
 rcases c4.2 with ⟨e1,e2⟩ | ⟨g,c',cur,e1,_,_,e4,_⟩
 ·omega
 ·cases e1;exact e4
structure RowI (w : World) (lo : Nat) (ob : Option Nat) (rs : List InstT) (cs : List Value) : Prop where
  len : cs.length = rs.length * 4
  each : ∀ j, j < rs.length → ∃ aj cj nj, cs[j * 4]? = some (.int .u16 (nthI rs j).1) ∧ cs[j * 4 + 1]? = some (.int .u32 (nthI rs j).2.1) ∧ cs[j * 4 + 2]? = some (.int .u32 (nthI rs j).2.2.1) ∧ cs[j * 4 + 3]? = some (.slice aj nj cj) ∧ (nthI rs j).2.2.2.length = nj ∧
    w.ownsRow lo 87 3 (.slice aj nj cj) nj ((nthI rs j).2.2.2.flatMap argC) ∧ (∀ g, Value.ownBlock (.slice aj nj cj) = some g → ob ≠ some g) ∧
    ∀ i, i < rs.length → i ≠ j → ∀ ai ci ni g, cs[i * 4 + 3]? = some (.slice ai ni ci) → Value.ownBlock (.slice ai ni ci) = some g → Value.ownBlock (.slice aj nj cj) ≠ some g
theorem rowI_nil {w:World} {lo:Nat} {ob:Option Nat}:RowI w lo ob [] []:=⟨rfl,fun j hj=>by simp at hj⟩
theorem RowI.grown {w w':World} {lo:Nat} {ob:Option Nat} {rs:List InstT} {cs:List Value} {row:Option Nat} (h:RowI w lo ob rs cs) (hg:w.grownBy w' row) (hr:Apartly w lo row):RowI w' lo ob rs cs:=by
 refine ⟨h.len,fun j hj=>?_⟩
 obtain ⟨aj,cj,nj,h1,d1,d2,h2,h3,h4,h5,h6⟩:=h.each j hj
 exact ⟨aj,cj,nj,h1,d1,d2,h2,h3,own_apartly h4 hg hr,h5,h6⟩
theorem RowI.below {w w':World} {lo:Nat} {ob:Option Nat} {rs:List InstT} {cs:List Value} (h:RowI w lo ob rs cs) (hb:Below w.heap.size w w'):RowI w' lo ob rs cs :=
 h.grown (grown_of_below hb none) (fun g e=>by cases e)
theorem RowI.push {w0 w w':World} {v:Value} {g' lo:Nat} {rs:List InstT} {cs:List Value} {x:InstT} {a:Option Addr} {n c:Nat}
  (h:RowI w0 lo v.ownBlock rs cs) (hb:Below w0.heap.size w0 w) (hs:w.ownsRow w0.heap.size 87 3 (.slice a n c) n (x.2.2.2.flatMap argC)) (hl:x.2.2.2.length=n) (hv:∀ b,v.ownBlock=some b→b < w0.heap.size) (hlo:lo≤w0.heap.size)
  (hg:w.grownBy w' v.ownBlock) (hat:v.ownBlock=some g' ∨ g'=w.heap.size):RowI w' lo (some g') (rs ++ [x]) (cs ++ [.int .u16 x.1,.int .u32 x.2.1,.int .u32 x.2.2.1,.slice a n c]):=by
 have hcl:=h.len
 have hnew:∀ g,Value.ownBlock (.slice a n c)=some g→w0.heap.size≤g∧g < w.heap.size:=fun g e=>hs.lt g e
 have hold:∀ i,i < rs.length→∀ ai ci ni g,cs[i * 4+3]?=some (.slice ai ni ci)→Value.ownBlock (.slice ai ni ci)=some g→g < w0.heap.size:=fun i hi ai ci ni g hc e=>by
  obtain ⟨aj,cj,nj,_,_,_,h2,_,h4,_⟩:=h.each i hi
  rw [hc] at h2
  cases h2
  exact (h4.lt g e).2
 have hown:∀ {sv:Value} {m:Nat} {xs:List Value} {B:Nat},w.ownsRow B 87 3 sv m xs→(∀ g,sv.ownBlock=some g→v.ownBlock≠some g)→w'.ownsRow B 87 3 sv m xs:=fun h1 h2=>own_grown h1 hg (fun g e e2=>h2 g e2 e)
 have hne:∀ g,g < w.heap.size→v.ownBlock≠some g→some g'≠some g:=fun g h1 h2 e=>by
  cases e
  rcases hat with h3 | h3
  ·exact h2 h3
  ·omega
 refine ⟨by simp [hcl];omega,fun j hj=>?_⟩
 rw [List.length_append,List.length_singleton] at hj
 by_cases hjl:j < rs.length
 ·obtain ⟨aj,cj,nj,h1,d1,d2,h2,h3,h4,h5,h6⟩:=h.each j hjl
  rw [nthI_lo _ _ _ hjl]
  refine ⟨aj,cj,nj,by rw [List.getElem?_append_left (by omega)];exact h1,by rw [List.getElem?_append_left (by omega)];exact d1,by rw [List.getElem?_append_left (by omega)];exact d2,by rw [List.getElem?_append_left (by omega)];exact h2,h3,hown (own_below h4 hb) h5,fun g e=>hne g (by have:=(h4.lt g e).2;have:=hb.size;omega) (h5 g e),?_⟩
  intro i hi hij ai ci ni g hci e
  rw [List.length_append,List.length_singleton] at hi
  by_cases hil:i < rs.length
  ·rw [List.getElem?_append_left (by omega)] at hci
   exact h6 i hil hij ai ci ni g hci e
  ·obtain rfl:i=rs.length:=by omega
   rw [List.getElem?_append_right (by omega),show rs.length * 4+3 - cs.length=3 by omega] at hci
   simp at hci
   obtain ⟨rfl,rfl,rfl⟩:=hci
   intro e2
   have h7:=(hnew g e).1
   have h8:=hold j hjl aj cj nj g h2 e2
   omega
 ·obtain rfl:j=rs.length:=by omega
  rw [nthI_hi]
  refine ⟨a,c,n,?_,?_,?_,?_,hl,?_,fun g e=>hne g (hnew g e).2 (fun e2=>by have:=hv g e2;have:=(hnew g e).1;omega),?_⟩
  ·rw [List.getElem?_append_right (by omega),show rs.length * 4 - cs.length=0 by omega];rfl
  ·rw [List.getElem?_append_right (by omega),show rs.length * 4+1 - cs.length=1 by omega];rfl
  ·rw [List.getElem?_append_right (by omega),show rs.length * 4+2 - cs.length=2 by omega];rfl
  ·rw [List.getElem?_append_right (by omega),show rs.length * 4+3 - cs.length=3 by omega];rfl
  ·refine hown ⟨hs.1,?_⟩ (fun g e e2=>by have:=hv g e2;have:=(hnew g e).1;omega)
   rcases hs.2 with h0 | ⟨g,cap,cur,e,hb',rest⟩
   ·exact .inl h0
   ·exact .inr ⟨g,cap,cur,e,Nat.le_trans hlo hb',rest⟩
  ·intro i hi hij ai ci ni g hci e e2
   rw [List.length_append,List.length_singleton] at hi
   have hil:i < rs.length:=by omega
   rw [List.getElem?_append_left (by omega)] at hci
   have:=hold i hil ai ci ni g hci e
   have:=(hnew g e2).1
   omega
theorem RowI.own {w:World} {T n cap lo:Nat} {a:Option Addr} {rs:List InstT} {cs:List Value} (h:RowI w lo (Value.ownBlock (.slice a n cap)) rs cs) (hown:w.ownsRow lo T 4 (.slice a n cap) n cs) (hl:rs.length=n):OwnI w lo a 0 rs:=by
 intro j _ hj
 rcases hown.2 with ⟨_,hn⟩ | ⟨g,cap',cur,hv,hb,hgg,_⟩
 ·omega
 ·cases hv
  obtain ⟨aj,cj,nj,h1,d1,d2,h2,h3,h4,h5,h6⟩:=h.each j hj
  have hcl:=h.len
  have c1:=hown.cellAt (j * 4) (by omega)
  have e1:=hown.cellAt (j * 4+1) (by omega)
  have e2:=hown.cellAt (j * 4+2) (by omega)
  have c2:=hown.cellAt (j * 4+3) (by omega)
  rw [h1] at c1
  rw [d1] at e1
  rw [d2] at e2
  rw [h2] at c2
  refine ⟨g,0,aj,cj,nj,rfl,hb,(Array.getElem?_eq_some_iff.1 hgg).1,by rw [Nat.zero_add];exact c1,by rw [Nat.zero_add];exact e1,by rw [Nat.zero_add];exact e2,by rw [Nat.zero_add];exact c2,h3,h4,fun e=>h5 g e rfl,?_⟩
  intro i _ hi hij ai ci ni g2 hci e
  have c3:=hown.cellAt (i * 4+3) (by omega)
  rw [Nat.zero_add,c3] at hci
  exact h6 i hi hij ai ci ni g2 hci e
theorem partFirst_any (x:Int) (w:World) (h0:0≤x) (h1:x < 4294967296) :
  Calls Tryz.prog 119 #[.int .u32 x] w fun e w'=>e=.returned (.tuple #[.int .u16 (x % 65536),.int .i64 (x / 65536)])∧w=w':=by
 go_enter Tryz.func119,Tryz.ntmps119
 go_wp2
 refine bodyPost_ret (v:=.tuple #[.int .u16 (IntKind.u16.wrap x),.int .i64 (x / 65536)]) (by simp [results,Tryz.results119,go_sem]) rfl ⟨?_,rfl⟩
 rw [show IntKind.u16.wrap x=x % 65536 by simp [IntKind.wrap,IntKind.bits,IntKind.signed]]
theorem mayBeBound_any (x : Int) (w : World) (h0 : 0 ≤ x) (h1 : x < 4294967296) :
    Calls Tryz.prog 88 #[.int .u32 x] w fun e w' => e = .returned (.bool (!(decide (x = 0) || decide (65536 < x)))) ∧ w = w' := by
  go_enter Tryz.func88, Tryz.ntmps88
  go_wp2
  · go_ret
    refine ⟨?_, rfl⟩
    have hx : 1 ≤ x := by assumption
    show Ending.returned (.bool (decide (x ≤ 65536))) = _
    congr 2
    by_cases h : x ≤ 65536
    · simp [h, show ¬ x = 0 by omega]
    · simp [h]; omega
  · go_ret
    refine ⟨?_, rfl⟩
    have hx : ¬ 1 ≤ x := by first | assumption | (have : x < 1 := by assumption
                                                  omega)
    obtain rfl : x = 0 := by omega
    rfl
theorem wordsOf_any (op:Int) (a:Option Addr) (n cap:Nat) (w:World) (hn:n≤140737488351232) :
  Calls Tryz.prog 83 #[.agg #[.int .u16 op,.slice a n cap]] w fun e w'=>e=.returned (.int .i64 ((n:Int)+1))∧w.alloc (.cells #[.int .u16 op,.slice a n cap] 54)=w':=by
 go_enter Tryz.func83,Tryz.ntmps83
 go_wp2
 go_ret
 exact ⟨ret_int (by omega),rfl⟩
theorem firstWord_any (op:Int) (a:Option Addr) (n cap:Nat) (w:World) (hn:n < 65535) (ho:0≤op) (ho2:op < 65536) :
  Calls Tryz.prog 90 #[.agg #[.int .u16 op,.slice a n cap]] w fun e w'=>e=.returned (.int .u32 (((n:Int)+1) * 65536+op))∧Below w.heap.size w w':=by
 have hW:=fun w=>wordsOf_any op a n cap w (by omega)
 go_enter Tryz.func90,Tryz.ntmps90
 go_wp2_with fail
 go_region_with (go_at_call 83;refine (hW _).mono ?_;rintro e w' ⟨rfl,rfl⟩)
 all_goals go_wp2
 all_goals go_ret
 all_goals refine ⟨?_,(((Below.refl _ _).alloc (Nat.le_refl _) _).alloc (by simp) _).drew⟩
 all_goals
  show Ending.returned (.int .u32 (bits .or .u32 (IntKind.u32.wrap (IntKind.u32.wrap ((n:Int)+1) * 65536)) (IntKind.u32.wrap op)))=_
  apply ret_int
  rw [show IntKind.u32.wrap ((n:Int)+1)=(n:Int)+1 by rw [IntKind.wrap_u32'];omega,show IntKind.u32.wrap (((n:Int)+1) * 65536)=((n:Int)+1) * 65536 by rw [IntKind.wrap_u32'];omega,show IntKind.u32.wrap op=op by rw [IntKind.wrap_u32'];omega]
  exact or_high ((n:Int)+1) op 16 (by omega) ho (by omega) (by omega)
theorem turned_any (x:Int) (w:World) (hx:0≤x) (hx2:x < 4294967296) :
  Calls Tryz.prog 140 #[.int .u32 x] w fun e w'=>e=.returned (.int .u32 (turnI x))∧w=w':=by
 have a0:=byt_lo x 0
 have b0:=byt_hi x 0
 have a1:=byt_lo x 1
 have b1:=byt_hi x 1
 have a2:=byt_lo x 2
 have b2:=byt_hi x 2
 have a3:=byt_lo x 3
 have b3:=byt_hi x 3
 go_enter Tryz.func140,Tryz.ntmps140
 go_wp2
 refine wp_loop_rounds 5 ?_
 rw [rounds_succ]
 go_wp2_with (first | (go_at_call 91;refine (byteAt_any _ _ _ hx hx2 (by omega) (by omega)).mono ?_;rintro e w' ⟨rfl,rfl⟩) | (go_at_call 79;refine (atPlace_any _ _ _ (by assumption) (by assumption) (by omega) (by omega)).mono ?_;rintro e w' ⟨rfl,rfl⟩))
 rw [rounds_succ]
 go_wp2_with (first | (go_at_call 91;refine (byteAt_any _ _ _ hx hx2 (by omega) (by omega)).mono ?_;rintro e w' ⟨rfl,rfl⟩) | (go_at_call 79;refine (atPlace_any _ _ _ (by assumption) (by assumption) (by omega) (by omega)).mono ?_;rintro e w' ⟨rfl,rfl⟩))
 rw [rounds_succ]
 go_wp2_with (first | (go_at_call 91;refine (byteAt_any _ _ _ hx hx2 (by omega) (by omega)).mono ?_;rintro e w' ⟨rfl,rfl⟩) | (go_at_call 79;refine (atPlace_any _ _ _ (by assumption) (by assumption) (by omega) (by omega)).mono ?_;rintro e w' ⟨rfl,rfl⟩))
 rw [rounds_succ]
 go_wp2_with (first | (go_at_call 91;refine (byteAt_any _ _ _ hx hx2 (by omega) (by omega)).mono ?_;rintro e w' ⟨rfl,rfl⟩) | (go_at_call 79;refine (atPlace_any _ _ _ (by assumption) (by assumption) (by omega) (by omega)).mono ?_;rintro e w' ⟨rfl,rfl⟩))
 rw [rounds_succ]
 go_wp2
 go_ret
 exact ⟨ret_int (or_four_high _ _ _ _ a0 b0 a1 b1 a2 b2 a3 b3),rfl⟩
end Go.Proofs.YtddkapkkjhomkabGreatDoor
