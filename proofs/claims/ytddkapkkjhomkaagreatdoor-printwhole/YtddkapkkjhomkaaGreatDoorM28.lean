/-
  Texts laid together in one: AsmParseL, Law08Keep, MathE, PrintBytes, KitCopyBytes, KitBytes, KitBytesAny, LawPrintWhole, PrintWholeProof.
-/
import Derived.WalkSpells
import Derived.WalkMore
import Derived.BigRegion
import Derived.Test.YtddkapkkjhomkaaGreatDoorProg
import Derived.Test.YtddkapkkjhomkaaGreatDoorM26
import Derived.Test.YtddkapkkjhomkaaGreatDoorM27
import Derived.Test.YtddkapkkjhomkaaGreatDoorM01
import Derived.Test.YtddkapkkjhomkaaGreatDoorM19
import Derived.Test.YtddkapkkjhomkaaGreatDoorM12
import Derived.Test.YtddkapkkjhomkaaGreatDoorM15
import Derived.Test.YtddkapkkjhomkaaGreatDoorM14
import Derived.Deep.QuietTactic
import Derived.BigQuiet
import Derived.Test.YtddkapkkjhomkaaGreatDoorM11
import Derived.Test.YtddkapkkjhomkaaGreatDoorRows
import Derived.ProofKit
import Derived.LaidMore
import Derived.Stop.Joined
import Derived.Stop.LaidErr
import Derived.Lib.LaidTab
import Derived.OpenShut
import Derived.ShutString
import Derived.ChangeOld
import Derived.Below
import Derived.SizedLaws
set_option linter.unusedVariables false
set_option linter.unusedSimpArgs false
set_option maxRecDepth 10000
/-
  What Parse of the layer asm returns, for every text.
-/
namespace Go.Proofs.YtddkapkkjhomkaaGreatDoor
open Go.RowKit

set_option maxHeartbeats 2000000 in
theorem asmParse_large (s:ByteArray) (w:World) (hs:16777216 < s.size) :
  Calls Tryz.prog 23 #[.string s] w fun e w'=>ParQ w w' (parseS s) e:=by
 have hsi:decide ((16777216:Int) < (s.size:Int))=true:=by simpa using (by omega:(16777216:Int) < (s.size:Int))
 have HR:Hid (parseS s=((0,0,[]),4,0)):=by show _=_;unfold parseS;rw [if_pos hs]
 clear hs
 go_enter Tryz.func23,Tryz.ntmps23
 go_wp2_with fail
 refine bodyPost_ret (v:=.tuple #[.agg #[.int .u32 0,.int .u32 0,.slice none 0 0],.agg #[.int .i64 4,.int .i64 0]]) ?_ rfl ?_
 ·simp [results,Tryz.results23,go_sem]
 ·unfold ParQ
  rw [HR.out]
  exact ⟨none,0,0,rfl,instsV_nil,rfl,fun j hj=>by simp at hj,((Below.refl _ w).alloc (Nat.le_refl _) _).alloc (by simp) _⟩
theorem asmParse_any (s:ByteArray) (w:World):Calls Tryz.prog 23 #[.string s] w fun e w'=>ParQ w w' (parseS s) e:=by
 by_cases hs:s.size≤16777216
 ·exact asmParse_main s w hs
 ·exact asmParse_large s w (by omega)
end Go.Proofs.YtddkapkkjhomkaaGreatDoor
/-
  What stands while a law of layer 8 goes on.
-/
namespace Go.Proofs.YtddkapkkjhomkaaGreatDoor
open Go.RowKit

structure PrB (w W : World) (g : Int) (N : Nat) (a : Option Addr) (n c : Nat) (l : List InstT) : Prop where
  mbox : W.heap[w.heap.size]? = some (.cells #[.int .u32 g, .int .u32 (N : Int), .slice a n c] 25 (0, 0))
  lv : InstsV W a l
  bel : Below w.heap.size w W
  pw : Pow10 W
theorem PrB.below {w W W':World} {g:Int} {N:Nat} {a:Option Addr} {n c:Nat} {l:List InstT} (h:PrB w W g N a n c l) (hb:Below W.heap.size W W'):PrB w W' g N a n c l :=
 ⟨(hb.block _ (Array.getElem?_eq_some_iff.1 h.mbox).1).trans h.mbox,h.lv.below hb,h.bel.trans (hb.mono h.bel.size),h.pw.below hb⟩
theorem PrB.cells {w W:World} {g:Int} {N:Nat} {a:Option Addr} {n c:Nat} {l:List InstT} (h:PrB w W g N a n c l):W.cell? ⟨w.heap.size,0,none⟩=some (.int .u32 g)∧W.cell? ⟨w.heap.size,1,none⟩=some (.int .u32 (N:Int))∧W.cell? ⟨w.heap.size,2,none⟩=some (.slice a n c) :=
 ⟨(one_block h.mbox).1 0,(one_block h.mbox).1 1,(one_block h.mbox).1 2⟩
theorem PrB.start {w:World} {g:Int} {N:Nat} {a:Option Addr} {n:Nat} (c:Nat) {l:List InstT} (hv:InstsV w a l) (ht:Pow10 w):PrB w (w.alloc (.cells #[.int .u32 g,.int .u32 (N:Int),.slice a n c] 25)) g N a n c l :=
 have hba:Below w.heap.size w (w.alloc (.cells #[.int .u32 g,.int .u32 (N:Int),.slice a n c] 25)):=(Below.refl _ w).alloc (Nat.le_refl _) _
 ⟨heap_alloc_new w _,hv.below hba,hba,ht.below hba⟩
theorem below_one8 (w:World) (o:Obj):Below w.heap.size w (w.alloc o):=(Below.refl _ w).alloc (Nat.le_refl _) _
theorem blocks2P (w:World) (o0 o1:Obj):((w.alloc o0).alloc o1).heap[w.heap.size]?=some o0∧((w.alloc o0).alloc o1).heap[w.heap.size+1]?=some o1∧Below w.heap.size w ((w.alloc o0).alloc o1):=by
 refine ⟨?_,?_,((Below.refl _ w).alloc (Nat.le_refl _) _).alloc (by simp) _⟩
 ·rw [Below.heap_alloc _ _ _ (by simp)];exact heap_alloc_new _ _
 ·have:=heap_alloc_new (w.alloc o0) o1;simpa using this
theorem Below.kept {W W':World} (hb:Below W.heap.size W W') {p:Nat} {o:Obj} (h:W.heap[p]?=some o):W'.heap[p]?=some o:=(hb.block _ (Array.getElem?_eq_some_iff.1 h).1).trans h
structure MdB (W : World) (p : Nat) (g : Int) (N : Nat) (a : Option Addr) (n c : Nat) (l : List InstT) : Prop where
  mbox : W.heap[p]? = some (.cells #[.int .u32 g, .int .u32 (N : Int), .slice a n c] 25 (0, 0))
  lv : InstsV W a l
theorem MdB.below {W W':World} {p:Nat} {g:Int} {N:Nat} {a:Option Addr} {n c:Nat} {l:List InstT} (h:MdB W p g N a n c l) (hb:Below W.heap.size W W'):MdB W' p g N a n c l:=⟨Below.kept hb h.mbox,h.lv.below hb⟩
theorem MdB.cells {W:World} {p:Nat} {g:Int} {N:Nat} {a:Option Addr} {n c:Nat} {l:List InstT} (h:MdB W p g N a n c l):W.cell? ⟨p,0,none⟩=some (.int .u32 g)∧W.cell? ⟨p,1,none⟩=some (.int .u32 (N:Int))∧W.cell? ⟨p,2,none⟩=some (.slice a n c) :=
 ⟨(one_block h.mbox).1 0,(one_block h.mbox).1 1,(one_block h.mbox).1 2⟩
structure BgB (w W : World) : Prop where
  bel : Below w.heap.size w W
  pw : Pow10 W
theorem BgB.below {w W W':World} (h:BgB w W) (hb:Below W.heap.size W W'):BgB w W':=⟨h.bel.trans (hb.mono h.bel.size),h.pw.below hb⟩
theorem facts8 {g:Int} {N n:Nat} {l:List InstT} (hl:l.length=n) (hok:InstsOk l) (hr:40 * n≤140737488351232) (hg:0≤g∧g < 4294967296) (hN:(N:Int) < 4294967296) (h:(shapeE (N:Int) l).1=0) :
  ∃ S:ByteArray,S=strOfNums (textP g (N:Int) l)∧S.size≤16777216 ∧
   (∀ wx p c,InstsV wx (some ⟨p,0,none⟩) l→Pow10 wx→Calls Tryz.prog 11 #[.agg #[.int .u32 g,.int .u32 N,.slice (some ⟨p,0,none⟩) n c]] wx fun e w'=>e=.returned (.tuple #[.string S,.agg #[.int .i64 0,.int .i64 0]])∧Below wx.heap.size wx w') ∧
   (∀ wx,Calls Tryz.prog 23 #[.string S] wx fun e w'=>∃ a c,e=.returned (.tuple #[.agg #[.int .u32 g,.int .u32 N,.slice a n c],.agg #[.int .i64 0,.int .i64 0]])∧InstsV w' a l∧Below wx.heap.size wx w') ∧
   (∀ wx p c,InstsV wx (some ⟨p,0,none⟩) l→Calls Tryz.prog 22 #[.agg #[.int .u32 g,.int .u32 N,.slice (some ⟨p,0,none⟩) n c]] wx fun e w'=>e=.returned (.agg #[.int .i64 0,.int .i64 0])∧Below wx.heap.size wx w'):=by
 have hz:=textP_size hg.2 hok h
 have hpp:=print_parse hg.1 hg.2 hok h hz
 have h2:(((shapeE (N:Int) l).2:Nat):Int)=0:=by rw [shape_none h];rfl
 refine ⟨_,rfl,hz,fun wx p c hx hp=>?_,fun wx=>?_,fun wx p c hx=>?_⟩
 ·have:=printTextM_any g N (some ⟨p,0,none⟩) n c l wx hx hok hl hr hg.1 hg.2 hN hp
  rw [h,h2,show txtP g (N:Int) l=strOfNums (textP g (N:Int) l) from if_pos h] at this
  exact this
 ·refine (asmParse_any (strOfNums (textP g (N:Int) l)) wx).mono ?_
  rw [hpp]
  rintro e w' ⟨a,m,c,rfl,hv,hm,_,hb⟩
  simp only at hm hv
  obtain rfl:m=n:=by rw [← hm];exact hl
  exact ⟨a,c,rfl,hv,hb⟩
 ·have:=codeShape_any g (N:Int) (some ⟨p,0,none⟩) n c l wx hg.1 hg.2 (by omega) hN hx hok hl hr
  rw [h,h2] at this
  exact this
end Go.Proofs.YtddkapkkjhomkaaGreatDoor
/-
  Plain facts: bytes to module and back are the bytes; modules to bytes and back are the modules.
-/
namespace Go.Proofs.YtddkapkkjhomkaaGreatDoor
open Go.RowKit

theorem shape_faultF (b:Int) (l:List InstT) (hE:∀ k,k < l.length→rawE (nthI l k) b=0):∀ d k,l.length - k=d→fault (rawsL b l) k=(0,0)→shapeF b k (sizeTo (rawsL b l) k) (l.drop k)=(0,0)
 | 0,k,hd,_=>shape_end b l k _ (by omega)
 | d+1,k,hd,h=>by
  have hk:k < l.length:=by omega
  rw [shape_step b l k hk,if_neg (by simp [hE k hk])]
  rw [fault_step _ _ (by rw [rawsL_len];exact hk),nthR_raws b l k hk] at h
  have hs:=rawWs_len (nthI l k) b
  rw [if_neg (by simp only;omega)] at h
  by_cases h2:1048576 < sizeTo (rawsL b l) (k+1)
  ·rw [if_pos h2] at h;cases h
  ·rw [if_neg h2] at h ⊢
   exact shape_faultF b l hE d (k+1) (by omega) h
theorem shape_of_fault {b : Int} {l : List InstT} (h0 : ¬ b = 0) (h1 : ¬ 65536 < b) (hE : ∀ k, k < l.length → rawE (nthI l k) b = 0) (h : fault (rawsL b l) 0 = (0, 0)) : shapeE b l = (0, 0) := by
  unfold shapeE
  rw [if_neg (by rintro (h | h)
                 · exact h0 h
                 · exact h1 h)]
  exact shape_faultF b l hE _ 0 rfl h
theorem split_len {bs:List Int} (h:splitErr bs=0):bs.length≤4194304∧bs.length % 4=0:=by
 unfold splitErr at h
 by_cases h1:4194304 < bs.length
 ·rw [if_pos h1] at h;cases h
 ·rw [if_neg h1] at h
  by_cases h2:bs.length % 4=0
  ·exact ⟨by omega,h2⟩
  ·rw [if_neg h2] at h;cases h
theorem enc_dec {bs:List Int} (hw:Within 256 bs) (h:(decE bs).1=0):decH bs 3≠0∧¬ 65536 < decH bs 3∧shapeE (decH bs 3) (decL bs)=(0,0)∧encL (decH bs 2) (decH bs 3) (decL bs)=bs:=by
 obtain ⟨h1,h2,h3,h4,h5,h6⟩:=decE_ok h
 have hww:=splitL_within bs hw
 obtain ⟨w1,w2,w3,w4,w5,w6⟩:=write_read (splitL bs) hww h2
 obtain ⟨s1,s2⟩:=split_len h1
 have hj:=join_split bs s2 hw
 rw [h4,h5,h6]
 generalize splitL bs=zs at *
 generalize hb:nth zs 3=b at *
 have hre:∀ p ∈ rest zs 5,(instAt zs b p).1.1=(rawAt zs p).1∧rawE (instAt zs b p).1 b=0∧rawWs (instAt zs b p).1 b=(rawAt zs p).2:=fun p hp=>rawE_instI (rawAt_within hww p) (h3 p hp)
 have hR:rawsL b (instsAt zs b (rest zs 5))=readR zs:=by
  unfold rawsL instsAt readR
  rw [List.map_map]
  refine List.map_congr_left fun p hp=>?_
  obtain ⟨e1,_,e3⟩:=hre p hp
  simp only [Function.comp]
  rw [e1,e3]
 have hE:∀ k,k < (instsAt zs b (rest zs 5)).length→rawE (nthI (instsAt zs b (rest zs 5)) k) b=0:=fun k hk=>by
  rw [nthI_lt _ _ hk]
  simp only [instsAt,List.getElem_map]
  exact (hre _ (List.getElem_mem _)).2.1
 have hS:shapeE b (instsAt zs b (rest zs 5))=(0,0):=shape_of_fault w2 w3 hE (by rw [hR];exact w4)
 refine ⟨w2,w3,hS,?_⟩
 unfold encL encW
 rw [hS,if_pos rfl,hR,show (instsAt zs b (rest zs 5)).length=(readR zs).length by simp [instsAt,readR],w6,hj]
end Go.Proofs.YtddkapkkjhomkaaGreatDoor
/-
  What Bytes of the layer print returns, for all bytes.
-/
namespace Go.Proofs.YtddkapkkjhomkaaGreatDoor
open Go.RowKit

def txtB (bs : List Int) : ByteArray := if (decE bs).1 = 0 then strOfNums (textP (decH bs 2) (decH bs 3) (decL bs)) else ⟨#[]⟩
theorem blocks2B (w:World) (o0 o1:Obj):((w.alloc o0).alloc o1).heap[w.heap.size]?=some o0∧((w.alloc o0).alloc o1).heap[w.heap.size+1]?=some o1∧Below w.heap.size w ((w.alloc o0).alloc o1):=by
 refine ⟨?_,?_,((Below.refl _ w).alloc (Nat.le_refl _) _).alloc (by simp) _⟩
 ·rw [Below.heap_alloc _ _ _ (by simp)];exact heap_alloc_new _ _
 ·have:=heap_alloc_new (w.alloc o0) o1;simpa using this
set_option maxHeartbeats 8000000 in
theorem printBytes_any (a:Option Addr) (n cap:Nat) (bs:List Int) (w:World) (ha:View .u8 w a bs) (hl:bs.length=n) (hw:Within 256 bs) (ht:Pow10 w) :
  Calls Tryz.prog 20 #[.slice a n cap] w fun e w'=>e=.returned (.tuple #[.string (txtB bs),.agg #[.int .i64 (decE bs).1,.int .i64 (decE bs).2]])∧Below w.heap.size w w':=by
 have hD:=fun W (hb:Below w.heap.size w W)=>decode_any a n cap bs W (ha.below hb) hl hw
 have HB0:=hide ((Below.refl w.heap.size w).alloc (Nat.le_refl _) (.cells #[.int .i64 0,.int .i64 0] 28))
 have HX:=hide (alloc_new w #[.int .i64 0,.int .i64 0] 28)
 rcases decE_any bs with he | he
 ·obtain ⟨m1,m2,m3,m4⟩:=enc_dec hw (by rw [he])
  have hdl:=shape_few (l:=decL bs) (b:=decH bs 3) (by rw [m3])
  have hdo:=decL_ok hw
  have hg:=decH_range hw 2
  have hb:=decH_range hw 3
  have ez:txtB bs=strOfNums (textP (decH bs 2) (decH bs 3) (decL bs)):=if_pos (by rw [he])
  rw [ez,he]
  rw [he] at hD
  obtain ⟨N,hN⟩:∃ N:Nat,decH bs 3=(N:Int):=⟨(decH bs 3).toNat,by omega⟩
  rw [hN] at m3 hb ⊢
  rw [hN] at hD
  have hT:=fun W ax m cx (hm:(decL bs).length=m) (hv:InstsV W ax (decL bs)) (hp:Pow10 W)=>textOf_any (decH bs 2) N ax m cx (decL bs) W hv hdo hm (by omega) hg.1 hg.2 (by rw [m3]) hb.2 hp
  generalize strOfNums (textP (decH bs 2) (N:Int) (decL bs))=S at *
  generalize decH bs 2=gen at *
  generalize decL bs=l at *
  have HT:=hide hT
  have HPW:=hide ht
  unfold modV at *
  clear ha hl hw he m1 m2 m3 m4 hdl hdo hg hb ez hN hT ht
  go_enter Tryz.func20,Tryz.ntmps20
  go_wp2_with fail
  generalize w.alloc (.cells #[.int .i64 0,.int .i64 0] 28)=W0 at *
  refine (hD _ HB0.out).mono ?_
  rintro e w1 ⟨hb1,ax,m,cx,rfl,hm,hO⟩
  have l0:=(Array.getElem?_eq_some_iff.1 HX.out).1
  have hba:Below w1.heap.size w1 ((w1.alloc (.cells #[.int .u32 gen,.int .u32 N,.slice ax m cx] 25)).alloc (.cells #[.int .i64 0,.int .i64 0] 28)):=((Below.refl _ w1).alloc (Nat.le_refl _) _).alloc (by simp) _
  have hb2:=hb1.trans (hba.mono hb1.size)
  have HB2:=hide (HB0.out.trans (hb2.mono HB0.out.size))
  have HX2:=hide ((hb2.block _ l0).trans HX.out)
  have hc:=HT.out _ ax m cx hm (hO.view.below hba) (HPW.out.below HB2.out)
  have hz:((0:Nat):Int)=0:=rfl
  clear hb1 hb2 hba hD HT l0 hO hm
  go_wp2_with fail
  refine hc.mono ?_
  rintro e w3 ⟨rfl,hb3⟩
  have lx:=(Array.getElem?_eq_some_iff.1 HX2.out).1
  have kX3:=(hb3.block _ lx).trans HX2.out
  obtain ⟨hcX,hfX⟩:=one_block kX3
  have c0:=hcX 0
  have c1:=hcX 1
  have f0:=hfX 0
  have f1:=hfX 1
  have hBel:=HB2.out.trans (hb3.mono HB2.out.size)
  have HB3:=hide (two_put2 kX3 (.int .i64 0) (.int .i64 0))
  have HBel2:=hide (hBel.trans ((two_below w3 w.heap.size (.int .i64 0) (.int .i64 0)).mono (by omega)))
  clear hb3 kX3 hcX hfX hBel hc
  go_wp2
  have hB3:=HB3.out
  have hBel:=HBel2.out
  clear HB3 HBel2 c0 c1 f0 f1
  generalize (w3.setCell _ _).setCell _ _=W at hB3 hBel ⊢
  obtain ⟨hd,_⟩:=one_block hB3
  have d0:=hd 0
  have d1:=hd 1
  refine bodyPost_ret (v:=.tuple #[.string S,.agg #[.int .i64 0,.int .i64 0]]) ?_ rfl ⟨rfl,hBel⟩
  simp [results,Tryz.results20,go_sem,d0,d1]
 ·have ez:txtB bs=⟨#[]⟩:=if_neg he
  have heb:((decE bs).1 == 0)=false:=by simpa using he
  rw [ez]
  generalize (decE bs).1=e1 at *
  generalize (decE bs).2=e2 at *
  generalize decH bs 2=gen at *
  generalize decH bs 3=bnd at *
  generalize decL bs=l at *
  unfold modV at *
  clear ha hl hw ez ht he
  go_enter Tryz.func20,Tryz.ntmps20
  go_wp2_with fail
  generalize w.alloc (.cells #[.int .i64 0,.int .i64 0] 28)=W0 at *
  refine (hD _ HB0.out).mono ?_
  rintro e w1 ⟨hb1,ax,m,cx,rfl,hm,hO⟩
  have l0:=(Array.getElem?_eq_some_iff.1 HX.out).1
  obtain ⟨kA,kB,hba⟩:=blocks2B w1 (.cells #[.int .u32 gen,.int .u32 bnd,.slice ax m cx] 25) (.cells #[.int .i64 e1,.int .i64 (e2:Int)] 28)
  have hb2:=hb1.trans (hba.mono hb1.size)
  have HB2:=hide (HB0.out.trans (hb2.mono HB0.out.size))
  have kX2:=(hb2.block _ l0).trans HX.out
  obtain ⟨hcX,hfX⟩:=one_block kX2
  have c0:=hcX 0
  have c1:=hcX 1
  have f0:=hfX 0
  have f1:=hfX 1
  obtain ⟨d0,d1,_⟩:=cell_of_two kB
  have HB3:=hide (two_put2 kX2 (.int .i64 e1) (.int .i64 (e2:Int)))
  have HBel2:=hide (HB2.out.trans ((two_below _ w.heap.size (.int .i64 e1) (.int .i64 (e2:Int))).mono (by omega))).drew
  have hne:w1.heap.size+1≠w.heap.size:=by have:=hb1.size;omega
  have HC:=hide (And.intro c0 (And.intro c1 (And.intro f0 (And.intro f1 hne))))
  clear hb1 hb2 hba hD l0 hO hm kX2 kA kB hcX hfX c0 c1 f0 f1 hne HB0 HX
  go_wp2_with fail
  obtain ⟨c0,c1,f0,f1,hne⟩:=HC.out
  go_region
  go_wp2
  have hB3:(((((w1.alloc (.cells #[.int .u32 gen,.int .u32 bnd,.slice ax m cx] 25)).alloc (.cells #[.int .i64 e1,.int .i64 (e2:Int)] 28)).setCell ⟨w.heap.size,0,none⟩ (.int .i64 e1)).setCell ⟨w.heap.size,1,none⟩ (.int .i64 (e2:Int))).drew).heap[w.heap.size]?=some (.cells #[.int .i64 e1,.int .i64 (e2:Int)] 28 (0,0)):=HB3.out
  have hBel:=HBel2.out
  clear HB3 HBel2 c0 c1 f0 f1 d0 d1
  generalize ((((w1.alloc _).alloc _).setCell _ _).setCell _ _).drew=W at hB3 hBel ⊢
  obtain ⟨hd,_⟩:=one_block hB3
  have d0:=hd 0
  have d1:=hd 1
  refine bodyPost_ret (v:=.tuple #[.string ⟨#[]⟩,.agg #[.int .i64 e1,.int .i64 e2]]) ?_ rfl ⟨rfl,hBel⟩
  simp [results,Tryz.results20,go_sem,d0,d1]
end Go.Proofs.YtddkapkkjhomkaaGreatDoor
/-
  CopyBytes of the kit answers the bytes in new memory.
-/
namespace Go.Proofs.YtddkapkkjhomkaaGreatDoor
open Go.RowKit

theorem CopyBytes.info:(Tryz.prog.info? 5).map (fun i=>(i.zero,i.size,i.bytes))=some (some (.int .u8 0),1,1):=by kernel_rfl
set_option maxHeartbeats 400000 in
theorem copyBytes_any (a:Option Addr) (n cap:Nat) (zs:List Int) (w:World) (ha:View .u8 w a zs) (hl:zs.length=n) (hn:n≤140737488351232) :
  Calls Tryz.prog 19 #[.slice a n cap] w fun e w'=>e=.returned (.slice (some ⟨w.heap.size,0,none⟩) n n) ∧
   w'.ownsRow w.heap.size 5 1 (.slice (some ⟨w.heap.size,0,none⟩) n n) n (zs.map (Value.int .u8))∧Below w.heap.size w w':=by
 obtain ⟨i0,hi,hz0,hz1,hz2⟩:=info_parts CopyBytes.info
 have HL:Hid (zs.length=n):=hl
 clear hl
 go_enter Tryz.func19,Tryz.ntmps19
 go_wp2_with (at_make;refine wpList_make_full _ rfl _ _ 44 rfl w.heap.size 5 i0 (.int .u8 0) 1 Tryz.underlying44 hi hz0 hz1 _ _ _ _ n rfl rfl (by omega) (by omega) (by rw [hz2];omega) (by unfold maxLen;omega) (Nat.le_refl _) ?_)
 intro w1 hown1 hgrow1
 have hb1:Below w.heap.size w w1:=(Below.refl _ w).grown hgrow1 (Nat.le_refl _) (by simp)
 have hr1:=made_row zs hown1
 clear hown1 hgrow1
 go_wp2
 go_loopw [4] (fun i wr=>∃ k:Nat,k≤n∧i=.int .i64 k∧wr.ownsRow w.heap.size 5 1 (.slice (some ⟨w.heap.size,0,none⟩) n n) n ((filled zs k n).map (Value.int .u8))∧Below w.heap.size w wr)
  (fun i _=>n - (intOf i).toNat)
 case atStart=>exact ⟨0,Nat.zero_le _,rfl,hr1,hb1⟩
 case round =>
  obtain ⟨k,hk,rfl,hown,hnx⟩:=hrel
  clear hr1 hb1
  by_cases hlt:k < n
  ·obtain ⟨b,off,rfl,hbs,hc⟩:=ha k (by rw [HL.out];exact hlt)
   obtain ⟨d1,d2,d3⟩:=fill_step hown hlt (by rw [HL.out];exact hlt)
   have hcr:wr.cell? ⟨b,off+k,none⟩=some (.int .u8 (nth zs k)):=(hnx.cell (p:=⟨b,off+k,none⟩) hbs).trans hc
   generalize nth zs k=x at hcr d3
   clear hc ha hown
   go_wp2
   go_roundw
   case rel=>exact ⟨k+1,by omega,by go_num,d3,hnx.setCell (Nat.le_refl _) _⟩
   case measure=>simp [intOf];omega
  ·go_wp2
   go_ret
   obtain rfl:k=n:=by omega
   rw [filled_whole zs k HL.out] at hown
   exact ⟨rfl,hown,hnx⟩
end Go.Proofs.YtddkapkkjhomkaaGreatDoor
/-
  Bytes of the kit answers true of two lists that are the same.
-/
namespace Go.Proofs.YtddkapkkjhomkaaGreatDoor
open Go.RowKit

set_option maxHeartbeats 400000 in
theorem bytes_true (a b:Option Addr) (n ca cb:Nat) (zs:List Int) (w:World) (ha:View .u8 w a zs) (hb:View .u8 w b zs) (hl:zs.length=n) (hn:n≤140737488351232) :
  Calls Tryz.prog 21 #[.slice a n ca,.slice b n cb] w fun e w'=>e=.returned (.bool true)∧∃ q,w'=w.drewN q:=by
 have HL:Hid (zs.length=n):=hl
 clear hl
 go_enter Tryz.func21,Tryz.ntmps21
 go_wp2
 go_loopw [5] (fun i wr=>∃ k q:Nat,k≤n∧i=.int .i64 k∧wr=w.drewN q) (fun i _=>n - (intOf i).toNat)
 case atStart=>exact ⟨0,0,Nat.zero_le _,rfl,rfl⟩
 case round =>
  obtain ⟨k,q,hk,rfl,rfl⟩:=hrel
  by_cases hlt:k < n
  ·obtain ⟨b1,o1,rfl,_,c1⟩:=ha k (by rw [HL.out];exact hlt)
   obtain ⟨b2,o2,rfl,_,c2⟩:=hb k (by rw [HL.out];exact hlt)
   have hk0:(0:Int)≤(k:Int):=by omega
   have hki:(k:Int) < (n:Int):=by omega
   clear ha hb
   go_wp2
   go_quiet (fail)
   go_wp2
   go_roundw
   case rel=>exact ⟨k+1,_,by omega,by go_num,rfl⟩
   case measure=>simp [intOf];omega
  ·go_wp2
   go_ret
   exact ⟨rfl,q,rfl⟩
end Go.Proofs.YtddkapkkjhomkaaGreatDoor
/-
  Bytes of the kit tells whether bytes are the same.
-/
namespace Go.Proofs.YtddkapkkjhomkaaGreatDoor
open Go.RowKit

end Go.Proofs.YtddkapkkjhomkaaGreatDoor
/-
  The law PrintWhole answers true, for all bytes, where the table of powers of ten is laid.
-/
namespace Go.Proofs.YtddkapkkjhomkaaGreatDoor
open Go.RowKit

set_option maxHeartbeats 8000000 in
theorem printWhole_bad (w:World) (a:Option Addr) (n cap:Nat) (zs:List Int) (hl:zs.length=n) (hv:View .u8 w a zs) (hw:Within 256 zs) (hr:1 * n≤140737488351232) (ht:Pow10 w) (he:(decE zs).1≠0) :
  Calls Tryz.prog 8 #[.slice a n cap] w fun e w'=>e=.returned (.bool true)∧Below w.heap.size w w':=by
 have hC:=fun wx (hb:Below w.heap.size w wx)=>copyBytes_any a n cap zs wx (hv.below hb) hl (by omega)
 have hB:=fun wx g (h:View .u8 wx (some ⟨g,0,none⟩) zs) (hp:Pow10 wx)=>printBytes_any (some ⟨g,0,none⟩) n n zs wx h hl hw hp
 have hD:=fun wx g (h:View .u8 wx (some ⟨g,0,none⟩) zs)=>decode_any (some ⟨g,0,none⟩) n n zs wx h hl hw
 have ez:txtB zs=⟨#[]⟩:=if_neg he
 rw [ez] at hB
 have heb:((decE zs).1 == 0)=false:=by simpa using he
 generalize (decE zs).1=er at *
 generalize (decE zs).2=ea at *
 have HL:=hide hl
 have HC:=hide hC
 have HPW:=hide ht
 unfold modV at *
 clear hl hv hw he hC ht ez
 go_enter Tryz.func8,Tryz.ntmps8
 go_wp2_with fail
 refine (HC.out w (Below.refl _ _)).mono ?_
 rintro e w1 ⟨rfl,hown1,hb1⟩
 have hc1:=hB w1 w.heap.size (View.ofOwn hown1 HL.out) (HPW.out.below hb1)
 have HB1:=hide (BgB.mk hb1 (HPW.out.below hb1))
 clear hb1 hown1 hB HPW
 go_wp2_with fail
 refine hc1.mono ?_
 rintro e w2 ⟨rfl,hb2⟩
 have hb3:=below_one8 w2 (.cells #[.int .i64 er,.int .i64 (ea:Int)] 28)
 have HB3:=hide ((HB1.out.below hb2).below hb3)
 have HT3:=hide (alloc_new w2 #[.int .i64 er,.int .i64 (ea:Int)] 28)
 clear hc1 hb2 hb3 HB1
 go_wp2_with fail
 generalize w2.alloc (.cells #[.int .i64 er,.int .i64 (ea:Int)] 28)=W3 at *
 generalize w2.heap.size=q2 at *
 refine (HC.out W3 HB3.out.bel).mono ?_
 rintro e w4 ⟨rfl,hown4,hb4⟩
 have hc4:=hD w4 _ (View.ofOwn hown4 HL.out)
 have HB4:=hide (HB3.out.below hb4)
 have HT4:=hide (Below.kept hb4 HT3.out)
 clear hb4 hown4 hD HB3 HT3 HC
 go_wp2_with fail
 refine hc4.mono ?_
 rintro e w5 ⟨hb5,ax,m,cx,rfl,hm,_⟩
 obtain ⟨_,ku,hb6⟩:=blocks2P w5 (.cells #[.int .u32 (decH zs 2),.int .u32 (decH zs 3),.slice ax m cx] 25) (.cells #[.int .i64 er,.int .i64 (ea:Int)] 28)
 have HB6:=hide ((HB4.out.below hb5).below hb6)
 obtain ⟨t0,t1,_⟩:=cell_of_two (Below.kept hb6 (Below.kept hb5 HT4.out))
 obtain ⟨u0,u1,_⟩:=cell_of_two ku
 have hAw:=awake8_true _ HB6.out.pw
 clear hc4 hb5 hb6 HB4 HT4 hm HL ku
 generalize decH zs 2=gen at *
 generalize decH zs 3=bnd at *
 go_wp2_with fail
 refine hAw.mono ?_
 rintro e w7 ⟨rfl,hb7⟩
 go_wp2_with fail
 go_ret
 exact ⟨rfl,(HB6.out.below hb7).bel⟩
set_option maxHeartbeats 8000000 in
theorem printWhole_ok (w:World) (a:Option Addr) (n cap:Nat) (zs:List Int) (hl:zs.length=n) (hv:View .u8 w a zs) (hw:Within 256 zs) (hr:1 * n≤140737488351232) (ht:Pow10 w) (he:decE zs=(0,0)) :
  Calls Tryz.prog 8 #[.slice a n cap] w fun e w'=>e=.returned (.bool true)∧Below w.heap.size w w':=by
 have hC:=fun wx (hb:Below w.heap.size w wx)=>copyBytes_any a n cap zs wx (hv.below hb) hl (by omega)
 have hB:=fun wx g (h:View .u8 wx (some ⟨g,0,none⟩) zs) (hp:Pow10 wx)=>printBytes_any (some ⟨g,0,none⟩) n n zs wx h hl hw hp
 obtain ⟨m1,m2,m3,m4⟩:=enc_dec hw (by rw [he])
 have hdl:=(shape_few (l:=decL zs) (b:=decH zs 3) (by rw [m3])).1
 have hdo:=decL_ok hw
 have hg:=decH_range hw 2
 have hb:=decH_range hw 3
 have ez:txtB zs=strOfNums (textP (decH zs 2) (decH zs 3) (decL zs)):=if_pos (by rw [he])
 rw [ez,he] at hB
 obtain ⟨N,hN⟩:∃ N:Nat,decH zs 3=(N:Int):=⟨(decH zs 3).toNat,by omega⟩
 rw [hN] at m3 m4 hb hB
 obtain ⟨S,hS,_,_,hP,_⟩:=facts8 (n:=(decL zs).length) (g:=decH zs 2) (N:=N) rfl hdo (by omega) hg hb.2 (by rw [m3])
 have hEn:=fun wx ax c (h:InstsV wx ax (decL zs))=>encode_any (decH zs 2) (N:Int) ax (decL zs).length c (decL zs) wx hg.1 hg.2 hb.1 hb.2 h hdo rfl (by omega)
 rw [m3,m4] at hEn
 rw [← hS] at hB
 generalize decH zs 2=gen at *
 generalize decL zs=l at *
 generalize l.length=k at *
 have HBy:=hide fun wx ax (h1:View .u8 wx ax zs) (hb:Below w.heap.size w wx)=>bytes_true ax a n n cap zs wx h1 (hv.below hb) hl (by omega)
 have HL:=hide hl
 have HC:=hide hC
 have HPW:=hide ht
 have HP:=hide hP
 have HEn:=hide hEn
 unfold modV at *
 clear hl hv hw he hC ht ez m1 m2 m3 m4 hdl hdo hg hb hN hS hP hEn
 go_enter Tryz.func8,Tryz.ntmps8
 go_wp2_with fail
 refine (HC.out w (Below.refl _ _)).mono ?_
 rintro e w1 ⟨rfl,hown1,hb1⟩
 have hc1:=hB w1 w.heap.size (View.ofOwn hown1 HL.out) (HPW.out.below hb1)
 have HB1:=hide (BgB.mk hb1 (HPW.out.below hb1))
 have hz:((0:Nat):Int)=0:=rfl
 clear hb1 hown1 hB HPW HC
 go_wp2_with fail
 refine hc1.mono ?_
 rintro e w2 ⟨rfl,hb2⟩
 have hb3:=below_one8 w2 (.cells #[.int .i64 0,.int .i64 0] 28)
 have HB3:=hide ((HB1.out.below hb2).below hb3)
 clear hc1 hb2 hb3 HB1
 go_wp2_with fail
 generalize w2.alloc (.cells #[.int .i64 0,.int .i64 0] 28)=W3 at *
 refine (HP.out W3).mono ?_
 rintro e w4 ⟨a4,c4,rfl,hv4,hb4⟩
 obtain ⟨kn,ku,hb5⟩:=blocks2P w4 (.cells #[.int .u32 gen,.int .u32 (N:Int),.slice a4 k c4] 25) (.cells #[.int .i64 0,.int .i64 0] 28)
 have HB5:=hide ((HB3.out.below hb4).below hb5)
 have HU5:=hide ku
 have hc5:=HEn.out _ a4 c4 (hv4.below hb5)
 clear hv4 hb4 hb5 kn ku HB3 HP HEn
 go_wp2_with fail
 generalize (w4.alloc (.cells #[.int .u32 gen,.int .u32 (N:Int),.slice a4 k c4] 25)).alloc (.cells #[.int .i64 0,.int .i64 0] 28)=W5 at *
 generalize w4.heap.size=q4 at *
 refine hc5.mono ?_
 rintro e w6 ⟨hb6,ax,m,rfl,hm,hown⟩
 obtain rfl:n=m:=by rw [← HL.out];exact hm
 have hb7:=below_one8 w6 (.cells #[.int .i64 0,.int .i64 0] 28)
 have HB7:=hide ((HB5.out.below hb6).below hb7)
 have hBy:=HBy.out _ ax ((View.ofOwn hown HL.out).below hb7) HB7.out.bel
 obtain ⟨u0,u1,_⟩:=cell_of_two (Below.kept hb7 (Below.kept hb6 HU5.out))
 clear hc5 hb6 hb7 hm hown HB5 HU5 HL HBy
 go_wp2_with fail
 refine hBy.mono ?_
 rintro e w8 ⟨rfl,q8,rfl⟩
 have HB8:=hide (HB7.out.below (bel_drewN (Below.refl _ _) q8))
 have hAw:=awake8_true _ HB8.out.pw
 clear hBy HB7 u0 u1
 go_wp2_with fail
 refine hAw.mono ?_
 rintro e w9 ⟨rfl,hb9⟩
 go_wp2_with fail
 go_ret
 exact ⟨rfl,(HB8.out.below hb9).bel⟩
theorem printWhole_true (w:World) (a:Option Addr) (n cap:Nat) (zs:List Int) (hl:zs.length=n) (hv:View .u8 w a zs) (hw:Within 256 zs) (hr:1 * n≤140737488351232) (ht:Pow10 w) :
  Calls Tryz.prog 8 #[.slice a n cap] w fun e w'=>e=.returned (.bool true)∧Below w.heap.size w w':=by
 rcases decE_any zs with h | h
 ·exact printWhole_ok w a n cap zs hl hv hw hr ht h
 ·exact printWhole_bad w a n cap zs hl hv hw hr ht h
end Go.Proofs.YtddkapkkjhomkaaGreatDoor
/-
  The law PrintWhole holds where the three listed tables hold what the program lays in them: called with any arguments it returns true, and each argument reads behind the call as it read before.
-/
namespace Go.Proofs.YtddkapkkjhomkaaGreatDoor.printWhole
open Go.ChangeShapes Go.WideShapes Go.ChangeAt Go.RowKit
open Go.ChangeMaps (open_string shut_string)

theorem own:ownKnob Tryz.prog.godebug=none:=by kernel_rfl
theorem laidOut:laidOutB Tryz.prog=true:=by kernel_rfl
theorem cells0:Tryz.prog.cellsOf 5=1:=by kernel_rfl
theorem bytes0:Tryz.prog.bytesOf 5=1:=by kernel_rfl
theorem gPow : Tryz.prog.globalNamed "internal/strconv.uint64pow10" = some 1 := by kernel_rfl
theorem tPow:(Tryz.prog.globals[1]?).map (·.type)=some 277:=by kernel_rfl
theorem cPow:Tryz.prog.cellsOf 277=20:=by kernel_rfl
theorem cElem:Tryz.prog.cellsOf 161=1:=by kernel_rfl
abbrev laid3 : List (String × DataW Unit) := [("math/bits.deBruijn32tab", Rows.laid_math_bits_deBruijn32tab), ("math/bits.deBruijn64tab", Rows.laid_math_bits_deBruijn64tab), ("internal/strconv.uint64pow10", Rows.laid_internal_strconv_uint64pow10)]
theorem door_met (os:Os) (args:Array Value):laidMetH Tryz.prog laid3 ((World.doorLaid Tryz.prog 400 os).forCall (fun _ _=>0) ⟨#[],args,[]⟩).memory :=
 laidMetH_of_parts3 (fuel:=8) (laidMet_of_run' 8 (by kernel_rfl) (by kernel_rfl)) (by kernel_rfl) (by kernel_rfl)
theorem of_laid {W:World} (h:laidMetH Tryz.prog laid3 W):Pow10 W:=by
 rw [MakeChecks.laidMetH_plain _ _ _ (by kernel_rfl)] at h
 have h3:=(laidMet.tail (laidMet.tail h))
 exact Lib.tabIs_of_head (k:=.u64) (zs:=Lib.pow10Tab) gPow tPow Tryz.underlying277 Tryz.underlying161 cElem cPow h3
set_option maxRecDepth 100000 in
theorem lifted (os : Os) (started : os.Started) (H : Type) (enc : TypeId × Value → H) :
    ReturnsInHanded {} Tryz.checked os 8 .any (fun w args => (Rows.printWholeSpec.pre enc Tryz.prog Tryz.f8 [] false w args ∧ laidMetH Tryz.prog laid3 w) ∧ sizedMet enc Tryz.prog Tryz.f8 (OpenSpec.ofChange Rows.printWholeSpec) false w args) (Rows.printWholeSpec.post enc Tryz.prog Tryz.f8 false true false false) := by
  refine returnsInHanded_of_change_and (C := Tryz.checked) (X := fun w _ => laidMetH Tryz.prog laid3 w) (fun _ _ _ hh h => h.of_heap hh) own started (by kernel_rfl) Tryz.func8
    (ChangeSpec.witness_shaped (enc := enc) (C := Tryz.checked) (os := os) (X := fun w _ => laidMetH Tryz.prog laid3 w) false (World.doorLaid Tryz.prog 400 os) #[.slice none 0 0] 8 rfl (World.shaped_of_RefB (by kernel_rfl) (by kernel_rfl)) (by kernel_rfl) (by kernel_rfl) (by kernel_rfl) (door_met os _)) ?_
  intro W base args ds gs before hval0 hW _ hsz0 hL _
  have hsz : (DataW.weightsEach Tryz.prog (Tryz.f8.params.toList ++ Rows.printWholeSpec.plain.varTypes Tryz.prog) (ds ++ gs)).all (· ≤ reachBytes) = true := hsz0
  clear hsz0
  have hval : ∀ (j : Nat) t v, Tryz.f8.params[j]? = some t → args[j]? = some v → Value.okWide Tryz.prog W .any base t v := hval0
  have hW' := hW
  obtain ⟨p, q, hA0, hV, rfl, hfz, hnd⟩ := hW
  have hA : DataW.TrodAll enc Tryz.prog W 0 (fun _ => true) true Tryz.f8.params.toList args.toList ds p := hA0
  rw [Tryz.params8] at hA hval hsz
  obtain ⟨v0, vs0, d0, ds0, p0, q0, hargs, rfl, rfl, h0, r0⟩ := trodAll_cons hA
  obtain ⟨rfl, rfl, rfl⟩ := trodAll_nil r0
  obtain rfl : args = #[v0] := by cases args; simp_all
  obtain ⟨rfl, rfl⟩ := trodVars_none hV
  obtain ⟨a0, len0, cap0, rfl⟩ := okWide_slice Tryz.underlying44 (hval 0 44 v0 rfl rfl)
  have k0 := h0
  have lt0 : ∀ x ∈ p0, x.block < W.heap.size := by obtain ⟨m, hm⟩ := k0; exact DataW.trod_lt m _ _ _ hm
  obtain ⟨z0, hl0, hv0, hw0, hr0⟩ : ∃ zs : List Int, zs.length = len0 ∧ View .u8 W a0 zs ∧ Within 256 zs ∧ 1 * len0 ≤ 140737488351232 := by
    obtain ⟨fuel, hf⟩ := h0
    rcases open_ints Tryz.underlying44 Tryz.underlying5 cells0 hf with ⟨hcs, _⟩ | ⟨x, l, c, zs, hcs, _, hl, hm, hz, hx, hcell, hwz⟩
    · simp [Value.cells] at hcs
      obtain ⟨rfl, rfl, rfl⟩ := hcs
      exact ⟨[], rfl, view_nil, within_nil, by omega⟩
    · simp [Value.cells] at hcs
      obtain ⟨rfl, rfl, rfl⟩ := hcs
      simp only [Prod.mk.injEq] at hx
      obtain ⟨rfl, rfl⟩ := hx
      simp only [if_true] at hz
      have hs := sized_slice hsz (j := 0) (t := 44) (e := 5) rfl rfl Tryz.underlying44
      rw [bytes0] at hs
      simp only [lits, List.length_map, List.length_take, List.length_drop, reachBytes] at hs
      exact ⟨zs.take len0, by rw [List.length_take]; omega, view_take hcell (by omega), within_take fun z hz => by have := bounds_u8 (hwz z hz); omega, by omega⟩
  clear hA0 hval0
  refine (printWhole_true W a0 len0 cap0 z0 hl0 hv0 hw0 hr0 (of_laid hL)).mono fun e W' ⟨he, bel⟩ => ?_
  subst he
  exact ⟨_, rfl, _, _, _, [], _, [], hW', trodAll_mk1 (shut_bool Tryz.underlying4 _), (trodAll_cons_mk (Below.trod laidOut (by kernel_rfl) (of_decide_eq_true (by kernel_rfl)) k0 bel lt0) trodAll_mk0), rfl, bel.frame _, fun h => by cases h⟩
theorem over : Rows.printWholeRow.holds Tryz.pinned (OpenSpec.ofChange Rows.printWholeSpec) :=
  OpenClaim.holds_of_wide 8 Tryz.f8 rfl rfl rfl rfl rfl rfl rfl ⟨rfl, rfl, rfl, rfl, rfl⟩ rfl rfl rfl rfl rfl (by kernel_rfl) Tryz.func8 (by kernel_rfl)
    (of_decide_eq_true (by kernel_rfl)) (by unfold Func.isWrapper; first | (rw [if_pos (by decide +kernel)]; kernel_rfl) | (rw [if_neg (by decide +kernel)]; exact ⟨rfl, rfl⟩))
    (fun os started H enc _ => lifted os started H enc)
end Go.Proofs.YtddkapkkjhomkaaGreatDoor.printWhole

namespace Go.Proofs.YtddkapkkjhomkaaGreatDoor
theorem printWhole_holds:Rows.PrintWholeSaid:=printWhole.over
#print axioms printWhole_holds
end Go.Proofs.YtddkapkkjhomkaaGreatDoor
