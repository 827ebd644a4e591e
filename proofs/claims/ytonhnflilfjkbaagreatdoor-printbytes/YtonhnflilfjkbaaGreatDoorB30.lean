/-
  Texts laid together in one: MathE, PrintBytes, Ref08Bytes, KitCopyBytes, KitBytesAny, LawPrintBytes, PrintBytesProof.
-/
import Derived.Test.YtonhnflilfjkbaaGreatDoorB29
import Derived.Test.YtonhnflilfjkbaaGreatDoorRows
import Derived.LaidMore
import Derived.Stop.Joined
import Derived.Stop.LaidErr
import Derived.Lib.LaidTab
import Derived.ShutString
import Derived.ChangeOld
import Derived.Below
import Derived.SizedLaws
/-
  Plain facts: bytes to module and back are the bytes; modules to bytes and back are the modules.
-/
namespace Go.Proofs.YtonhnflilfjkbaaGreatDoor
open Go.RowKit
set_option linter.unusedVariables false

theorem shape_faultF (b:Int) (l:List InstT) (hE:∀ k,k<l.length→rawE (nthI l k) b=0):∀ d k,l.length - k=d→fault (rawsL b l) k=(0,0)→shapeF b k (sizeTo (rawsL b l) k) (l.drop k)=(0,0)
 | 0,k,hd,_=>shape_end b l k _ (by omega)
 | d+1,k,hd,h=>by
  have hk:k<l.length:=by omega
  rw [shape_step b l k hk,if_neg (by simp [hE k hk])]
  rw [fault_step _ _ (by rw [rawsL_len];exact hk),nthR_raws b l k hk] at h
  have hs:=rawWs_len (nthI l k) b
  rw [if_neg (by simp only;omega)] at h
  by_cases h2:1048576<sizeTo (rawsL b l) (k+1)
  ·rw [if_pos h2] at h;cases h
  ·rw [if_neg h2] at h ⊢
   exact shape_faultF b l hE d (k+1) (by omega) h
theorem shape_of_fault {b : Int} {l : List InstT} (h0 : ¬ b = 0) (h1 : ¬ 65536 < b) (hE : ∀ k, k < l.length → rawE (nthI l k) b = 0) (h : fault (rawsL b l) 0 = (0, 0)) : shapeE b l = (0, 0) := by
  unfold shapeE
  rw [if_neg (by rintro (h | h)
                 · exact h0 h
                 · exact h1 h)]
  exact shape_faultF b l hE _ 0 rfl h
theorem split_len {bs:List Int} (h:splitErr bs=0):bs.length≤4194304∧bs.length % 4=0:=by
 unfold splitErr at h
 by_cases h1:4194304<bs.length
 ·rw [if_pos h1] at h;cases h
 ·rw [if_neg h1] at h
  by_cases h2:bs.length % 4=0
  ·exact⟨by omega,h2⟩
  ·rw [if_neg h2] at h;cases h
theorem enc_dec {bs:List Int} (hw:Within 256 bs) (h:(decE bs).1=0):decH bs 3≠0∧¬ 65536<decH bs 3∧shapeE (decH bs 3) (decL bs)=(0,0)∧encL (decH bs 2) (decH bs 3) (decL bs)=bs:=by
 obtain⟨h1,h2,h3,h4,h5,h6⟩:=decE_ok h
 have hww:=splitL_within bs hw
 obtain⟨w1,w2,w3,w4,w5,w6⟩:=write_read (splitL bs) hww h2
 obtain⟨s1,s2⟩:=split_len h1
 have hj:=join_split bs s2 hw
 rw [h4,h5,h6]
 generalize splitL bs=zs at *
 generalize hb:nth zs 3=b at *
 have hre:∀ p∈rest zs 5,(instAt zs b p).1.1=(rawAt zs p).1∧rawE (instAt zs b p).1 b=0∧rawWs (instAt zs b p).1 b=(rawAt zs p).2:=fun p hp=>rawE_instI (rawAt_within hww p) (h3 p hp)
 have hR:rawsL b (instsAt zs b (rest zs 5))=readR zs:=by
  unfold rawsL instsAt readR
  rw [List.map_map]
  refine List.map_congr_left fun p hp=>?_
  obtain⟨e1,_,e3⟩:=hre p hp
  simp only [Function.comp]
  rw [e1,e3]
 have hE:∀ k,k<(instsAt zs b (rest zs 5)).length→rawE (nthI (instsAt zs b (rest zs 5)) k) b=0:=fun k hk=>by
  rw [nthI_lt _ _ hk]
  simp only [instsAt,List.getElem_map]
  exact (hre _ (List.getElem_mem _)).2.1
 have hS:shapeE b (instsAt zs b (rest zs 5))=(0,0):=shape_of_fault w2 w3 hE (by rw [hR];exact w4)
 refine⟨w2,w3,hS,?_⟩
 unfold encL encW
 rw [hS,if_pos rfl,hR,show (instsAt zs b (rest zs 5)).length=(readR zs).length by simp [instsAt,readR],w6,hj]
end Go.Proofs.YtonhnflilfjkbaaGreatDoor

/-
  What Bytes of the layer print returns, for all bytes.
-/
namespace Go.Proofs.YtonhnflilfjkbaaGreatDoor
open Go.RowKit
set_option linter.unusedVariables false
set_option linter.unusedSimpArgs false
set_option maxRecDepth 10000

def txtB (bs:List Int):ByteArray:=if (decE bs).1=0 then strOfNums (textP (decH bs 2) (decH bs 3) (decL bs)) else ⟨#[]⟩
theorem blocks2B (w:World) (o0 o1:Obj):((w.alloc o0).alloc o1).heap[w.heap.size]?=some o0∧((w.alloc o0).alloc o1).heap[w.heap.size+1]?=some o1∧Below w.heap.size w ((w.alloc o0).alloc o1):=by
 refine⟨?_,?_,((Below.refl _ w).alloc (Nat.le_refl _) _).alloc (by simp) _⟩
 ·rw [Below.heap_alloc _ _ _ (by simp)];exact heap_alloc_new _ _
 ·have:=heap_alloc_new (w.alloc o0) o1;simpa using this
set_option maxHeartbeats 8000000 in
theorem printBytes_any (a:Option Addr) (n cap:Nat) (bs:List Int) (w:World) (ha:View .u8 w a bs) (hl:bs.length=n) (hw:Within 256 bs) (ht:Pow10 w) :
  Calls Tryz.prog 17 #[.slice a n cap] w fun e w'=>e=.returned (.tuple #[.string (txtB bs),.agg #[.int .i64 (decE bs).1,.int .i64 (decE bs).2]])∧Below w.heap.size w w':=by
 have hD:=fun W (hb:Below w.heap.size w W)=>decode_any a n cap bs W (ha.below hb) hl hw
 have HB0:=hide ((Below.refl w.heap.size w).alloc (Nat.le_refl _) (.cells #[.int .i64 0,.int .i64 0] 28))
 have HX:=hide (alloc_new w #[.int .i64 0,.int .i64 0] 28)
 rcases decE_any bs with he | he
 ·obtain⟨m1,m2,m3,m4⟩:=enc_dec hw (by rw [he])
  have hdl:=shape_few (l:=decL bs) (b:=decH bs 3) (by rw [m3])
  have hdo:=decL_ok hw
  have hg:=decH_range hw 2
  have hb:=decH_range hw 3
  have ez:txtB bs=strOfNums (textP (decH bs 2) (decH bs 3) (decL bs)):=if_pos (by rw [he])
  rw [ez,he]
  rw [he] at hD
  obtain⟨N,hN⟩:∃ N:Nat,decH bs 3=(N:Int):=⟨(decH bs 3).toNat,by omega⟩
  rw [hN] at m3 hb ⊢
  rw [hN] at hD
  have hT:=fun W ax m cx (hm:(decL bs).length=m) (hv:InstsV W ax (decL bs)) (hp:Pow10 W)=>textOf_any (decH bs 2) N ax m cx (decL bs) W hv hdo hm (by omega) hg.1 hg.2 (by rw [m3]) hb.2 hp
  generalize strOfNums (textP (decH bs 2) (N:Int) (decL bs))=S at *
  generalize decH bs 2=gen at *
  generalize decL bs=l at *
  have HT:=hide hT
  have HPW:=hide ht
  unfold modV at *
  clear ha hl hw he m1 m2 m3 m4 hdl hdo hg hb ez hN hT ht
  go_enter Tryz.func17,Tryz.ntmps17
  go_wp2_with fail
  generalize w.alloc (.cells #[.int .i64 0,.int .i64 0] 28)=W0 at *
  refine (hD _ HB0.out).mono ?_
  rintro e w1 ⟨hb1,ax,m,cx,rfl,hm,hO⟩
  have l0:=(Array.getElem?_eq_some_iff.1 HX.out).1
  have hba:Below w1.heap.size w1 ((w1.alloc (.cells #[.int .u32 gen,.int .u32 N,.slice ax m cx] 25)).alloc (.cells #[.int .i64 0,.int .i64 0] 28)):=((Below.refl _ w1).alloc (Nat.le_refl _) _).alloc (by simp) _
  have hb2:=hb1.trans (hba.mono hb1.size)
  have HB2:=hide (HB0.out.trans (hb2.mono HB0.out.size))
  have HX2:=hide ((hb2.block _ l0).trans HX.out)
  have hc:=HT.out _ ax m cx hm (hO.view.below hba) (HPW.out.below HB2.out)
  have hz:((0:Nat):Int)=0:=rfl
  clear hb1 hb2 hba hD HT l0 hO hm
  go_wp2_with fail
  refine hc.mono ?_
  rintro e w3 ⟨rfl,hb3⟩
  have lx:=(Array.getElem?_eq_some_iff.1 HX2.out).1
  have kX3:=(hb3.block _ lx).trans HX2.out
  obtain⟨hcX,hfX⟩:=one_block kX3
  have c0:=hcX 0
  have c1:=hcX 1
  have f0:=hfX 0
  have f1:=hfX 1
  have hBel:=HB2.out.trans (hb3.mono HB2.out.size)
  have HB3:=hide (two_put2 kX3 (.int .i64 0) (.int .i64 0))
  have HBel2:=hide (hBel.trans ((two_below w3 w.heap.size (.int .i64 0) (.int .i64 0)).mono (by omega)))
  clear hb3 kX3 hcX hfX hBel hc
  go_wp2
  have hB3:=HB3.out
  have hBel:=HBel2.out
  clear HB3 HBel2 c0 c1 f0 f1
  generalize (w3.setCell _ _).setCell _ _=W at hB3 hBel ⊢
  obtain⟨hd,_⟩:=one_block hB3
  have d0:=hd 0
  have d1:=hd 1
  refine bodyPost_ret (v:=.tuple #[.string S,.agg #[.int .i64 0,.int .i64 0]]) ?_ rfl ⟨rfl,hBel⟩
  simp [results,Tryz.results17,go_sem,d0,d1]
 ·have ez:txtB bs=⟨#[]⟩:=if_neg he
  have heb:((decE bs).1==0)=false:=by simpa using he
  rw [ez]
  generalize (decE bs).1=e1 at *
  generalize (decE bs).2=e2 at *
  generalize decH bs 2=gen at *
  generalize decH bs 3=bnd at *
  generalize decL bs=l at *
  unfold modV at *
  clear ha hl hw ez ht he
  go_enter Tryz.func17,Tryz.ntmps17
  go_wp2_with fail
  generalize w.alloc (.cells #[.int .i64 0,.int .i64 0] 28)=W0 at *
  refine (hD _ HB0.out).mono ?_
  rintro e w1 ⟨hb1,ax,m,cx,rfl,hm,hO⟩
  have l0:=(Array.getElem?_eq_some_iff.1 HX.out).1
  obtain⟨kA,kB,hba⟩:=blocks2B w1 (.cells #[.int .u32 gen,.int .u32 bnd,.slice ax m cx] 25) (.cells #[.int .i64 e1,.int .i64 (e2:Int)] 28)
  have hb2:=hb1.trans (hba.mono hb1.size)
  have HB2:=hide (HB0.out.trans (hb2.mono HB0.out.size))
  have kX2:=(hb2.block _ l0).trans HX.out
  obtain⟨hcX,hfX⟩:=one_block kX2
  have c0:=hcX 0
  have c1:=hcX 1
  have f0:=hfX 0
  have f1:=hfX 1
  obtain⟨d0,d1,_⟩:=cell_of_two kB
  have HB3:=hide (two_put2 kX2 (.int .i64 e1) (.int .i64 (e2:Int)))
  have HBel2:=hide (HB2.out.trans ((two_below _ w.heap.size (.int .i64 e1) (.int .i64 (e2:Int))).mono (by omega))).drew
  have hne:w1.heap.size+1≠w.heap.size:=by have:=hb1.size;omega
  have HC:=hide (And.intro c0 (And.intro c1 (And.intro f0 (And.intro f1 hne))))
  clear hb1 hb2 hba hD l0 hO hm kX2 kA kB hcX hfX c0 c1 f0 f1 hne HB0 HX
  go_wp2_with fail
  obtain⟨c0,c1,f0,f1,hne⟩:=HC.out
  go_region
  go_wp2
  have hB3:(((((w1.alloc (.cells #[.int .u32 gen,.int .u32 bnd,.slice ax m cx] 25)).alloc (.cells #[.int .i64 e1,.int .i64 (e2:Int)] 28)).setCell ⟨w.heap.size,0,none⟩ (.int .i64 e1)).setCell ⟨w.heap.size,1,none⟩ (.int .i64 (e2:Int))).drew).heap[w.heap.size]?=some (.cells #[.int .i64 e1,.int .i64 (e2:Int)] 28 (0,0)):=HB3.out
  have hBel:=HBel2.out
  clear HB3 HBel2 c0 c1 f0 f1 d0 d1
  generalize ((((w1.alloc _).alloc _).setCell _ _).setCell _ _).drew=W at hB3 hBel ⊢
  obtain⟨hd,_⟩:=one_block hB3
  have d0:=hd 0
  have d1:=hd 1
  refine bodyPost_ret (v:=.tuple #[.string ⟨#[]⟩,.agg #[.int .i64 e1,.int .i64 e2]]) ?_ rfl ⟨rfl,hBel⟩
  simp [results,Tryz.results17,go_sem,d0,d1]
end Go.Proofs.YtonhnflilfjkbaaGreatDoor

/-
  The document's Bytes: the text of a module's bytes.
-/
namespace Go.Proofs.YtonhnflilfjkbaaGreatDoor
open Go.RowKit
set_option linter.unusedVariables false
set_option linter.unusedSimpArgs false
set_option maxRecDepth 10000

set_option maxHeartbeats 8000000 in
theorem refBytes8_any (a:Option Addr) (n cap:Nat) (bs:List Int) (w:World) (ha:View .u8 w a bs) (hl:bs.length=n) (hw:Within 256 bs) (ht:Pow10 w) :
  Calls Tryz.prog 15 #[.slice a n cap] w fun e w'=>e=.returned (.tuple #[.string (txtB bs),.agg #[.int .i64 (decE bs).1,.int .i64 (decE bs).2]])∧Below w.heap.size w w':=by
 have hD:=fun W (hb:Below w.heap.size w W)=>refDecode4_any a n cap bs W (ha.below hb) hl hw
 unfold DecQ at hD
 have HB0:=hide ((Below.refl w.heap.size w).alloc (Nat.le_refl _) (.cells #[.int .i64 0,.int .i64 0] 28))
 have HX:=hide (alloc_new w #[.int .i64 0,.int .i64 0] 28)
 rcases decE_any bs with he | he
 ·obtain⟨m1,m2,m3,m4⟩:=enc_dec hw (by rw [he])
  have hdl:=shape_few (l:=decL bs) (b:=decH bs 3) (by rw [m3])
  have hdo:=decL_ok hw
  have hg:=decH_range hw 2
  have hb:=decH_range hw 3
  have ez:txtB bs=strOfNums (textP (decH bs 2) (decH bs 3) (decL bs)):=if_pos (by rw [he])
  rw [ez,he]
  rw [he] at hD
  obtain⟨N,hN⟩:∃ N:Nat,decH bs 3=(N:Int):=⟨(decH bs 3).toNat,by omega⟩
  rw [hN] at m3 hb ⊢
  rw [hN] at hD
  have hT:=fun W ax m cx (hm:(decL bs).length=m) (hv:InstsV W ax (decL bs)) (hp:Pow10 W)=>refText8_any (decH bs 2) N ax m cx (decL bs) W hv hdo hm (by omega) hg.1 hg.2 hb.2 hp
  have t1:(shapeE (N:Int) (decL bs)).1=0:=by rw [m3]
  have t2:(((shapeE (N:Int) (decL bs)).2:Nat):Int)=0:=by rw [m3];rfl
  have t3:txtP (decH bs 2) (N:Int) (decL bs)=strOfNums (textP (decH bs 2) (N:Int) (decL bs)):=if_pos t1
  rw [t3,t1,t2] at hT
  generalize strOfNums (textP (decH bs 2) (N:Int) (decL bs))=S at *
  generalize decH bs 2=gen at *
  generalize decL bs=l at *
  have HT:=hide hT
  have HPW:=hide ht
  unfold modV at *
  clear ha hl hw he m1 m2 m3 m4 hdl hdo hg hb ez hN hT ht t1 t2 t3
  go_enter Tryz.func15,Tryz.ntmps15
  go_wp2_with fail
  generalize w.alloc (.cells #[.int .i64 0,.int .i64 0] 28)=W0 at *
  refine (hD _ HB0.out).mono ?_
  rintro e w1 ⟨hb1,ax,m,cx,rfl,hm,hO⟩
  have l0:=(Array.getElem?_eq_some_iff.1 HX.out).1
  have hba:Below w1.heap.size w1 ((w1.alloc (.cells #[.int .u32 gen,.int .u32 N,.slice ax m cx] 25)).alloc (.cells #[.int .i64 0,.int .i64 0] 28)):=((Below.refl _ w1).alloc (Nat.le_refl _) _).alloc (by simp) _
  have hb2:=hb1.trans (hba.mono hb1.size)
  have HB2:=hide (HB0.out.trans (hb2.mono HB0.out.size))
  have HX2:=hide ((hb2.block _ l0).trans HX.out)
  have hc:=HT.out _ ax m cx hm (hO.below hba) (HPW.out.below HB2.out)
  have hz:((0:Nat):Int)=0:=rfl
  clear hb1 hb2 hba hD HT l0 hO hm
  go_wp2_with fail
  refine hc.mono ?_
  rintro e w3 ⟨rfl,hb3⟩
  have lx:=(Array.getElem?_eq_some_iff.1 HX2.out).1
  have kX3:=(hb3.block _ lx).trans HX2.out
  obtain⟨hcX,hfX⟩:=one_block kX3
  have c0:=hcX 0
  have c1:=hcX 1
  have f0:=hfX 0
  have f1:=hfX 1
  have hBel:=HB2.out.trans (hb3.mono HB2.out.size)
  have HB3:=hide (two_put2 kX3 (.int .i64 0) (.int .i64 0))
  have HBel2:=hide (hBel.trans ((two_below w3 w.heap.size (.int .i64 0) (.int .i64 0)).mono (by omega)))
  clear hb3 kX3 hcX hfX hBel hc
  go_wp2
  have hB3:=HB3.out
  have hBel:=HBel2.out
  clear HB3 HBel2 c0 c1 f0 f1
  generalize (w3.setCell _ _).setCell _ _=W at hB3 hBel ⊢
  obtain⟨hd,_⟩:=one_block hB3
  have d0:=hd 0
  have d1:=hd 1
  refine bodyPost_ret (v:=.tuple #[.string S,.agg #[.int .i64 0,.int .i64 0]]) ?_ rfl ⟨rfl,hBel⟩
  simp [results,Tryz.results15,go_sem,d0,d1]
 ·have ez:txtB bs=⟨#[]⟩:=if_neg he
  have heb:((decE bs).1==0)=false:=by simpa using he
  rw [ez]
  generalize (decE bs).1=e1 at *
  generalize (decE bs).2=e2 at *
  generalize decH bs 2=gen at *
  generalize decH bs 3=bnd at *
  generalize decL bs=l at *
  unfold modV at *
  clear ha hl hw ez ht he
  go_enter Tryz.func15,Tryz.ntmps15
  go_wp2_with fail
  generalize w.alloc (.cells #[.int .i64 0,.int .i64 0] 28)=W0 at *
  refine (hD _ HB0.out).mono ?_
  rintro e w1 ⟨hb1,ax,m,cx,rfl,hm,hO⟩
  have l0:=(Array.getElem?_eq_some_iff.1 HX.out).1
  obtain⟨kA,kB,hba⟩:=blocks2B w1 (.cells #[.int .u32 gen,.int .u32 bnd,.slice ax m cx] 25) (.cells #[.int .i64 e1,.int .i64 (e2:Int)] 28)
  have hb2:=hb1.trans (hba.mono hb1.size)
  have HB2:=hide (HB0.out.trans (hb2.mono HB0.out.size))
  have kX2:=(hb2.block _ l0).trans HX.out
  obtain⟨hcX,hfX⟩:=one_block kX2
  have c0:=hcX 0
  have c1:=hcX 1
  have f0:=hfX 0
  have f1:=hfX 1
  obtain⟨d0,d1,_⟩:=cell_of_two kB
  have HB3:=hide (two_put2 kX2 (.int .i64 e1) (.int .i64 (e2:Int)))
  have HBel2:=hide (HB2.out.trans ((two_below _ w.heap.size (.int .i64 e1) (.int .i64 (e2:Int))).mono (by omega))).drew
  have hne:w1.heap.size+1≠w.heap.size:=by have:=hb1.size;omega
  have HC:=hide (And.intro c0 (And.intro c1 (And.intro f0 (And.intro f1 hne))))
  clear hb1 hb2 hba hD l0 hO hm kX2 kA kB hcX hfX c0 c1 f0 f1 hne HB0 HX
  go_wp2_with fail
  obtain⟨c0,c1,f0,f1,hne⟩:=HC.out
  go_region
  go_wp2
  have hB3:(((((w1.alloc (.cells #[.int .u32 gen,.int .u32 bnd,.slice ax m cx] 25)).alloc (.cells #[.int .i64 e1,.int .i64 (e2:Int)] 28)).setCell ⟨w.heap.size,0,none⟩ (.int .i64 e1)).setCell ⟨w.heap.size,1,none⟩ (.int .i64 (e2:Int))).drew).heap[w.heap.size]?=some (.cells #[.int .i64 e1,.int .i64 (e2:Int)] 28 (0,0)):=HB3.out
  have hBel:=HBel2.out
  clear HB3 HBel2 c0 c1 f0 f1 d0 d1
  generalize ((((w1.alloc _).alloc _).setCell _ _).setCell _ _).drew=W at hB3 hBel ⊢
  obtain⟨hd,_⟩:=one_block hB3
  have d0:=hd 0
  have d1:=hd 1
  refine bodyPost_ret (v:=.tuple #[.string ⟨#[]⟩,.agg #[.int .i64 e1,.int .i64 e2]]) ?_ rfl ⟨rfl,hBel⟩
  simp [results,Tryz.results15,go_sem,d0,d1]
end Go.Proofs.YtonhnflilfjkbaaGreatDoor

/-
  CopyBytes of the kit answers the bytes in new memory.
-/
namespace Go.Proofs.YtonhnflilfjkbaaGreatDoor
open Go.RowKit
set_option maxRecDepth 10000

theorem CopyBytes.info:(Tryz.prog.info? 5).map (fun i=>(i.zero,i.size,i.bytes))=some (some (.int .u8 0),1,1):=by kernel_rfl
set_option maxHeartbeats 400000 in
theorem copyBytes_any (a:Option Addr) (n cap:Nat) (zs:List Int) (w:World) (ha:View .u8 w a zs) (hl:zs.length=n) (hn:n≤140737488351232) :
  Calls Tryz.prog 16 #[.slice a n cap] w fun e w'=>e=.returned (.slice (some ⟨w.heap.size,0,none⟩) n n) ∧
   w'.ownsRow w.heap.size 5 1 (.slice (some ⟨w.heap.size,0,none⟩) n n) n (zs.map (Value.int .u8))∧Below w.heap.size w w':=by
 obtain⟨i0,hi,hz0,hz1,hz2⟩:=info_parts CopyBytes.info
 have HL:Hid (zs.length=n):=hl
 clear hl
 go_enter Tryz.func16,Tryz.ntmps16
 go_wp2_with (at_make;refine wpList_make_full _ rfl _ _ 44 rfl w.heap.size 5 i0 (.int .u8 0) 1 Tryz.underlying44 hi hz0 hz1 _ _ _ _ n rfl rfl (by omega) (by omega) (by rw [hz2];omega) (by unfold maxLen;omega) (Nat.le_refl _) ?_)
 intro w1 hown1 hgrow1
 have hb1:Below w.heap.size w w1:=(Below.refl _ w).grown hgrow1 (Nat.le_refl _) (by simp)
 have hr1:=made_row zs hown1
 clear hown1 hgrow1
 go_wp2
 go_loopw [4] (fun i wr=>∃ k:Nat,k≤n∧i=.int .i64 k∧wr.ownsRow w.heap.size 5 1 (.slice (some ⟨w.heap.size,0,none⟩) n n) n ((filled zs k n).map (Value.int .u8))∧Below w.heap.size w wr)
  (fun i _=>n - (intOf i).toNat)
 case atStart=>exact⟨0,Nat.zero_le _,rfl,hr1,hb1⟩
 case round =>
  obtain⟨k,hk,rfl,hown,hnx⟩:=hrel
  clear hr1 hb1
  by_cases hlt:k<n
  ·obtain⟨b,off,rfl,hbs,hc⟩:=ha k (by rw [HL.out];exact hlt)
   obtain⟨d1,d2,d3⟩:=fill_step hown hlt (by rw [HL.out];exact hlt)
   have hcr:wr.cell? ⟨b,off+k,none⟩=some (.int .u8 (nth zs k)):=(hnx.cell (p:=⟨b,off+k,none⟩) hbs).trans hc
   generalize nth zs k=x at hcr d3
   clear hc ha hown
   go_wp2
   go_roundw
   case rel=>exact⟨k+1,by omega,by go_num,d3,hnx.setCell (Nat.le_refl _) _⟩
   case measure=>simp [intOf];omega
  ·go_wp2
   go_ret
   obtain rfl:k=n:=by omega
   rw [filled_whole zs k HL.out] at hown
   exact⟨rfl,hown,hnx⟩
end Go.Proofs.YtonhnflilfjkbaaGreatDoor

/-
  Bytes of the kit tells whether bytes are the same.
-/
namespace Go.Proofs.YtonhnflilfjkbaaGreatDoor
open Go.RowKit
set_option linter.unusedVariables false
set_option maxRecDepth 10000

set_option maxHeartbeats 1000000 in
theorem bytes_any (a b:Option Addr) (n m ca cb:Nat) (xs ys:List Int) (w:World) (ha:View .u8 w a xs) (hb:View .u8 w b ys) (hl:xs.length=n) (hm:ys.length=m) (hn:n≤140737488351232) (hm2:m≤140737488351232) (r:Bool) (hr:r=true↔xs=ys) :
  Calls Tryz.prog 18 #[.slice a n ca,.slice b m cb] w fun e w'=>e=.returned (.bool r)∧∃ q,w'=w.drewN q:=by
 have HL:Hid (xs.length=n):=hl
 have HM:Hid (ys.length=m):=hm
 have HR:Hid (r=true↔xs=ys):=hr
 clear hl hm hr
 by_cases hnm:n=m
 ·subst hnm
  go_enter Tryz.func18,Tryz.ntmps18
  go_wp2
  go_loopw [5] (fun i wr=>∃ k q:Nat,k≤n∧i=.int .i64 k∧wr=w.drewN q∧∀ j,j<k→nth xs j=nth ys j) (fun i _=>n - (intOf i).toNat)
  case atStart=>exact⟨0,0,Nat.zero_le _,rfl,rfl,fun j hj=>by omega⟩
  case round =>
   obtain⟨k,q,hk,rfl,rfl,hall⟩:=hrel
   have HALL:Hid (∀ j,j<k→nth xs j=nth ys j):=hall
   clear hall
   by_cases hlt:k<n
   ·obtain⟨b1,o1,rfl,_,c1⟩:=ha k (by rw [HL.out];exact hlt)
    obtain⟨b2,o2,rfl,_,c2⟩:=hb k (by rw [HM.out];exact hlt)
    have hk0:(0:Int)≤(k:Int):=by omega
    have hki:(k:Int)<(n:Int):=by omega
    have HX:Hid (nth xs k=nth xs k):=rfl
    generalize hx:nth xs k=x at *
    generalize hy:nth ys k=y at *
    have HXE:Hid (nth xs k=x):=hx
    have HYE:Hid (nth ys k=y):=hy
    clear ha hb hx hy HX
    by_cases hxy:x=y
    ·subst hxy
     go_wp2
     go_quiet (fail)
     go_wp2
     go_roundw
     case rel=>exact⟨k+1,_,by omega,by go_num,rfl,fun j hj=>by
      by_cases hjk:j<k
      ·exact HALL.out j hjk
      ·obtain rfl:j=k:=by omega
       rw [HXE.out,HYE.out]⟩
     case measure=>simp [intOf];omega
    ·have hr:r=false:=by
      cases hr:r with
      | false=>rfl
      | true =>
       have:=HR.out.1 hr
       exact absurd (by rw [← HXE.out,← HYE.out,this]) hxy
     subst hr
     have hxyb:(x==y)=false:=by simpa using hxy
     go_wp2
     go_quiet (fail)
     go_wp2
     go_ret
     exact⟨by simp,_,World.drewN_drewN _ _ _⟩
   ·obtain rfl:k=n:=by omega
    have hr:r=true:=HR.out.2 (nth_ext (by rw [HL.out,HM.out]) fun j hj=>HALL.out j (by rw [← HL.out];exact hj))
    subst hr
    go_wp2
    go_ret
    exact⟨rfl,q,rfl⟩
 ·have hr:r=false:=by
   cases hr:r with
   | false=>rfl
   | true =>
    have:=HR.out.1 hr
    exact absurd (by rw [← HL.out,← HM.out,this]) hnm
  subst hr
  have hnm':¬ (n:Int)=(m:Int):=by omega
  clear hnm
  go_enter Tryz.func18,Tryz.ntmps18
  go_wp2
  go_ret
  exact⟨by simp,0,rfl⟩
end Go.Proofs.YtonhnflilfjkbaaGreatDoor

/-
  The law PrintBytes: every Bytes as the document's.
-/
namespace Go.Proofs.YtonhnflilfjkbaaGreatDoor
open Go.RowKit
set_option linter.unusedVariables false
set_option linter.unusedSimpArgs false
set_option maxRecDepth 10000

theorem drewN8 {w wx:World} (h:Below w.heap.size w wx) (q:Nat):Below w.heap.size w (wx.drewN q):=by
 induction q generalizing wx with
 | zero=>exact h
 | succ q ih=>exact (ih h).drew
set_option maxHeartbeats 8000000 in
theorem printBytes_true (w:World) (a:Option Addr) (n c:Nat) (zs:List Int) (hl:zs.length=n) (hv:View .u8 w a zs) (hw:Within 256 zs) (hr:1 * n≤140737488351232) (ht:Pow10 w) :
  Calls Tryz.prog 5 #[.slice a n c] w fun e w'=>e=.returned (.bool true)∧Below w.heap.size w w':=by
 have hrf:=refBytes8_any a n c zs w hv hl hw ht
 have HCP:=hide fun wx (h:Below w.heap.size w wx)=>copyBytes_any a n c zs wx (hv.below h) hl (by omega)
 have HPB:=hide fun wx ax cx (h:Below w.heap.size w wx) (h2:View .u8 wx ax zs)=>printBytes_any ax n cx zs wx h2 hl hw (ht.below h)
 have HKB:=hide fun wx ax cx (h:Below w.heap.size w wx) (h2:View .u8 wx ax zs)=>bytes_any ax a n n cx c zs zs wx h2 (hv.below h) hl hl (by omega) (by omega) true (by simp)
 have HAW:=hide fun wx (h:Below w.heap.size w wx)=>awake8_true wx (ht.below h)
 have HOV:Hid (∀ wx g k,wx.ownsRow k 5 1 (.slice (some ⟨g,0,none⟩) n n) n (zs.map (Value.int .u8))→View .u8 wx (some ⟨g,0,none⟩) zs):=fun wx g k h=>View.ofOwn h hl
 generalize txtB zs=S at *
 generalize (decE zs).1=E1 at *
 generalize (((decE zs).2:Nat):Int)=E2 at *
 clear hl hv hw hr ht
 go_enter Tryz.func5,Tryz.ntmps5
 go_wp2_with fail
 refine hrf.mono ?_
 rintro e w1 ⟨rfl,hb1⟩
 have ha1:Below w1.heap.size w1 (w1.alloc (.cells #[.int .i64 E1,.int .i64 E2] 28)):=(Below.refl _ w1).alloc (Nat.le_refl _) _
 have HB1:=hide (hb1.trans (ha1.mono hb1.size))
 have K4:=hide (allocNew w1 (.cells #[.int .i64 E1,.int .i64 E2] 28) rfl)
 have hcp:=HCP.out _ HB1.out
 clear hrf hb1 ha1 HCP
 go_wp2_with fail
 generalize World.alloc w1 _=W1 at *
 generalize w1.heap.size=B4 at *
 refine hcp.mono ?_
 rintro e w2 ⟨rfl,ho2,hb2⟩
 have HB2:=hide (HB1.out.trans (hb2.mono HB1.out.size))
 have L4:=hide ((hb2.block _ (Array.getElem?_eq_some_iff.1 K4.out).1).trans K4.out)
 have hv2:=HOV.out _ _ _ ho2
 have HV2:=hide hv2
 have hpb:=HPB.out _ _ n HB2.out hv2
 generalize W1.heap.size=G at *
 clear hcp ho2 hb2 hv2 K4 HPB HOV
 go_wp2_with fail
 refine hpb.mono ?_
 rintro e w3 ⟨rfl,hb3⟩
 have ha3:Below w3.heap.size w3 (w3.alloc (.cells #[.int .i64 E1,.int .i64 E2] 28)):=(Below.refl _ w3).alloc (Nat.le_refl _) _
 have hb13:=hb3.trans (ha3.mono hb3.size)
 have HB3:=hide (HB2.out.trans (hb13.mono HB2.out.size))
 have k4:=(hb13.block _ (Array.getElem?_eq_some_iff.1 L4.out).1).trans L4.out
 have k7:=allocNew w3 (.cells #[.int .i64 E1,.int .i64 E2] 28) rfl
 have hkb:=HKB.out _ _ n HB3.out (HV2.out.below hb13)
 clear hpb hb3 ha3 hb13 L4 HKB HV2
 have s0:=(one_block k4).1 0
 have s1:=(one_block k4).1 1
 have s2:=(one_block k7).1 0
 have s3:=(one_block k7).1 1
 clear k4 k7
 go_wp2_with fail
 generalize World.alloc w3 _=W3 at *
 refine hkb.mono ?_
 rintro e w4 ⟨rfl,q,rfl⟩
 have HB4:=hide (drewN8 HB3.out q)
 have ha:=HAW.out _ HB4.out
 clear s0 s1 s2 s3 hkb HAW
 go_wp2_with fail
 refine ha.mono ?_
 rintro e w5 ⟨rfl,hb5⟩
 have HB5:=hide (HB4.out.trans (hb5.mono HB4.out.size))
 clear ha hb5
 go_wp2_with fail
 go_ret
 exact⟨rfl,HB5.out⟩
end Go.Proofs.YtonhnflilfjkbaaGreatDoor

/-
  The law PrintBytes holds where the three listed tables hold what the program lays in them: called with any arguments it returns true, and each argument reads behind the call as it read before.
-/
namespace Go.Proofs.YtonhnflilfjkbaaGreatDoor.printBytes
open Go.ChangeShapes Go.WideShapes Go.ChangeAt Go.RowKit
open Go.ChangeMaps (open_string shut_string)
set_option linter.unusedVariables false

theorem own:ownKnob Tryz.prog.godebug=none:=by kernel_rfl
theorem laidOut:laidOutB Tryz.prog=true:=by kernel_rfl
theorem cells0:Tryz.prog.cellsOf 5=1:=by kernel_rfl
theorem bytes0:Tryz.prog.bytesOf 5=1:=by kernel_rfl
theorem gPow:Tryz.prog.globalNamed "internal/strconv.uint64pow10"=some 0:=by kernel_rfl
theorem tPow:(Tryz.prog.globals[0]?).map (·.type)=some 225:=by kernel_rfl
theorem cPow:Tryz.prog.cellsOf 225=20:=by kernel_rfl
theorem cElem:Tryz.prog.cellsOf 120=1:=by kernel_rfl
abbrev laid3:List (String × DataW Unit):=[("math/bits.deBruijn32tab",Rows.laid_math_bits_deBruijn32tab),("math/bits.deBruijn64tab",Rows.laid_math_bits_deBruijn64tab),("internal/strconv.uint64pow10",Rows.laid_internal_strconv_uint64pow10)]
theorem door_met (os:Os) (args:Array Value):laidMetH Tryz.prog laid3 ((World.doorLaid Tryz.prog 400 os).forCall (fun _ _=>0) ⟨#[],args,[]⟩).memory :=
 laidMetH_of_parts3 (fuel:=8) (laidMet_of_run' 8 (by kernel_rfl) (by kernel_rfl)) (by kernel_rfl) (by kernel_rfl)
theorem of_laid {W:World} (h:laidMetH Tryz.prog laid3 W):Pow10 W:=by
 rw [MakeChecks.laidMetH_plain _ _ _ (by kernel_rfl)] at h
 have h3:=(laidMet.tail (laidMet.tail h))
 exact Lib.tabIs_of_head (k:=.u64) (zs:=Lib.pow10Tab) gPow tPow Tryz.underlying225 Tryz.underlying120 cElem cPow h3
set_option maxRecDepth 100000 in
theorem lifted (os:Os) (started:os.Started) (H:Type) (enc:TypeId×Value→H) :
  ReturnsInHanded {} Tryz.checked os 5 .any (fun w args=>(Rows.printBytesSpec.pre enc Tryz.prog Tryz.f5 [] false w args∧laidMetH Tryz.prog laid3 w)∧sizedMet enc Tryz.prog Tryz.f5 (OpenSpec.ofChange Rows.printBytesSpec) false w args) (Rows.printBytesSpec.post enc Tryz.prog Tryz.f5 false true false false):=by
 refine returnsInHanded_of_change_and (C:=Tryz.checked) (X:=fun w _=>laidMetH Tryz.prog laid3 w) (fun _ _ _ hh h=>h.of_heap hh) own started (by kernel_rfl) Tryz.func5
  (ChangeSpec.witness_shaped (enc:=enc) (C:=Tryz.checked) (os:=os) (X:=fun w _=>laidMetH Tryz.prog laid3 w) false (World.doorLaid Tryz.prog 400 os) #[.slice none 0 0] 8 rfl (World.shaped_of_RefB (by kernel_rfl) (by kernel_rfl)) (by kernel_rfl) (by kernel_rfl) (by kernel_rfl) (door_met os _)) ?_
 intro W base args ds gs before hval0 hW _ hsz0 hL _
 have hsz:(DataW.weightsEach Tryz.prog (Tryz.f5.params.toList++Rows.printBytesSpec.plain.varTypes Tryz.prog) (ds++gs)).all (·≤reachBytes)=true:=hsz0
 clear hsz0
 have hval:∀ (j:Nat) t v,Tryz.f5.params[j]?=some t→args[j]?=some v→Value.okWide Tryz.prog W .any base t v:=hval0
 have hW':=hW
 obtain⟨p,q,hA0,hV,rfl,hfz,hnd⟩:=hW
 have hA:DataW.TrodAll enc Tryz.prog W 0 (fun _=>true) true Tryz.f5.params.toList args.toList ds p:=hA0
 rw [Tryz.params5] at hA hval hsz
 obtain⟨v0,vs0,d0,ds0,p0,q0,hargs,rfl,rfl,h0,r0⟩:=trodAll_cons hA
 obtain⟨rfl,rfl,rfl⟩:=trodAll_nil r0
 obtain rfl:args=#[v0]:=by cases args;simp_all
 obtain⟨rfl,rfl⟩:=trodVars_none hV
 obtain⟨a0,len0,cap0,rfl⟩:=okWide_slice Tryz.underlying44 (hval 0 44 v0 rfl rfl)
 have k0:=h0
 have lt0:∀ x∈p0,x.block<W.heap.size:=by obtain⟨m,hm⟩:=k0;exact DataW.trod_lt m _ _ _ hm
 obtain⟨z0,hl0,hv0,hw0,hr0⟩:∃ zs:List Int,zs.length=len0∧View .u8 W a0 zs∧Within 256 zs∧1 * len0≤140737488351232:=by
  obtain⟨fuel,hf⟩:=h0
  rcases open_ints Tryz.underlying44 Tryz.underlying5 cells0 hf with ⟨hcs,_⟩ | ⟨x,l,c,zs,hcs,_,hl,hm,hz,hx,hcell,hwz⟩
  ·simp [Value.cells] at hcs
   obtain⟨rfl,rfl,rfl⟩:=hcs
   exact⟨[],rfl,view_nil,within_nil,by omega⟩
  ·simp [Value.cells] at hcs
   obtain⟨rfl,rfl,rfl⟩:=hcs
   simp only [Prod.mk.injEq] at hx
   obtain⟨rfl,rfl⟩:=hx
   simp only [if_true] at hz
   have hs:=sized_slice hsz (j:=0) (t:=44) (e:=5) rfl rfl Tryz.underlying44
   rw [bytes0] at hs
   simp only [lits,List.length_map,List.length_take,List.length_drop,reachBytes] at hs
   exact⟨zs.take len0,by rw [List.length_take];omega,view_take hcell (by omega),within_take fun z hz=>by have:=bounds_u8 (hwz z hz);omega,by omega⟩
 clear hA0 hval0
 refine (printBytes_true W a0 len0 cap0 z0 hl0 hv0 hw0 hr0 (of_laid hL)).mono fun e W' ⟨he,bel⟩=>?_
 subst he
 exact⟨_,rfl,_,_,_,[],_,[],hW',trodAll_mk1 (shut_bool Tryz.underlying4 _),(trodAll_cons_mk (Below.trod laidOut (by kernel_rfl) (of_decide_eq_true (by kernel_rfl)) k0 bel lt0) trodAll_mk0),rfl,bel.frame _,fun h=>by cases h⟩
theorem over:Rows.printBytesRow.holds Tryz.pinned (OpenSpec.ofChange Rows.printBytesSpec) :=
 OpenClaim.holds_of_wide 5 Tryz.f5 rfl rfl rfl rfl rfl rfl rfl ⟨rfl,rfl,rfl,rfl,rfl⟩ rfl rfl rfl rfl rfl (by kernel_rfl) Tryz.func5 (by kernel_rfl)
  (of_decide_eq_true (by kernel_rfl)) (by unfold Func.isWrapper;first | (rw [if_pos (by decide +kernel)];kernel_rfl) | (rw [if_neg (by decide +kernel)];exact⟨rfl,rfl⟩))
  (fun os started H enc _=>lifted os started H enc)
end Go.Proofs.YtonhnflilfjkbaaGreatDoor.printBytes

namespace Go.Proofs.YtonhnflilfjkbaaGreatDoor
theorem printBytes_holds:Rows.PrintBytesSaid:=printBytes.over
#print axioms printBytes_holds
end Go.Proofs.YtonhnflilfjkbaaGreatDoor
