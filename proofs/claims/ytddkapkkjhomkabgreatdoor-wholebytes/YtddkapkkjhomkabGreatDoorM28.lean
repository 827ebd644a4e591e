/-
  Texts laid together in one: AsmParseL, Law08Keep, MathE, PrintBytes, KitCopyBytes, KitBytes, KitBytesAny, KitNone, LawWholeBytes, WholeBytesProof.
-/
import Derived.WalkSpells
import Derived.WalkMore
import Derived.BigRegion
import Derived.Test.YtddkapkkjhomkabGreatDoorProg
import Derived.Test.YtddkapkkjhomkabGreatDoorM26
import Derived.Test.YtddkapkkjhomkabGreatDoorM27
import Derived.Test.YtddkapkkjhomkabGreatDoorM01
import Derived.Test.YtddkapkkjhomkabGreatDoorM02
import Derived.Test.YtddkapkkjhomkabGreatDoorM19
import Derived.Test.YtddkapkkjhomkabGreatDoorM12
import Derived.Test.YtddkapkkjhomkabGreatDoorM15
import Derived.Test.YtddkapkkjhomkabGreatDoorM14
import Derived.Deep.QuietTactic
import Derived.BigQuiet
import Derived.Test.YtddkapkkjhomkabGreatDoorM11
import Derived.Test.YtddkapkkjhomkabGreatDoorRows
import Derived.ProofKit
import Derived.LaidMore
import Derived.Stop.Joined
import Derived.Stop.LaidErr
import Derived.Lib.LaidTab
import Derived.OpenShut
import Derived.ShutString
import Derived.ChangeOld
import Derived.Below
import Derived.SizedLaws
set_option linter.unusedVariables false
set_option linter.unusedSimpArgs false
set_option maxRecDepth 10000
namespace Go.Proofs.YtddkapkkjhomkabGreatDoor
open Go.RowKit

set_option maxHeartbeats 2000000 in
theorem asmParse_large (s:ByteArray) (w:World) (hs:16777216 < s.size) :
  Calls Tryz.prog 25 #[.string s] w fun e w'=>ParQ w w' (parseS s) e:=by
 have hsi:decide ((16777216:Int) < (s.size:Int))=true:=by simpa using (by omega:(16777216:Int) < (s.size:Int))
 have HR:Hid (parseS s=((0,0,[]),4,0)):=by show _=_;unfold parseS;rw [if_pos hs]
 clear hs
 go_enter Tryz.func25,Tryz.ntmps25
 go_wp2_with fail
 refine bodyPost_ret (v:=.tuple #[.agg #[.int .u32 0,.int .u32 0,.slice none 0 0],.agg #[.int .i64 4,.int .i64 0]]) ?_ rfl ?_
 ·simp [results,Tryz.results25,go_sem]
 ·unfold ParQ
  rw [HR.out]
  exact ⟨none,0,0,rfl,instsV_nil,rfl,fun j hj=>by simp at hj,((Below.refl _ w).alloc (Nat.le_refl _) _).alloc (by simp) _⟩
theorem asmParse_any (s:ByteArray) (w:World):Calls Tryz.prog 25 #[.string s] w fun e w'=>ParQ w w' (parseS s) e:=by
 by_cases hs:s.size≤16777216
 ·exact asmParse_main s w hs
 ·exact asmParse_large s w (by omega)
structure PrB (w W : World) (g : Int) (N : Nat) (a : Option Addr) (n c : Nat) (l : List InstT) : Prop where
  mbox : W.heap[w.heap.size]? = some (.cells #[.int .u32 g, .int .u32 (N : Int), .slice a n c] 25 (0, 0))
  lv : InstsV W a l
  bel : Below w.heap.size w W
  pw : Pow10 W
theorem PrB.below {w W W':World} {g:Int} {N:Nat} {a:Option Addr} {n c:Nat} {l:List InstT} (h:PrB w W g N a n c l) (hb:Below W.heap.size W W'):PrB w W' g N a n c l :=
 ⟨(hb.block _ (Array.getElem?_eq_some_iff.1 h.mbox).1).trans h.mbox,h.lv.below hb,h.bel.trans (hb.mono h.bel.size),h.pw.below hb⟩
theorem PrB.cells {w W:World} {g:Int} {N:Nat} {a:Option Addr} {n c:Nat} {l:List InstT} (h:PrB w W g N a n c l):W.cell? ⟨w.heap.size,0,none⟩=some (.int .u32 g)∧W.cell? ⟨w.heap.size,1,none⟩=some (.int .u32 (N:Int))∧W.cell? ⟨w.heap.size,2,none⟩=some (.slice a n c) :=
 ⟨(one_block h.mbox).1 0,(one_block h.mbox).1 1,(one_block h.mbox).1 2⟩
theorem PrB.start {w:World} {g:Int} {N:Nat} {a:Option Addr} {n:Nat} (c:Nat) {l:List InstT} (hv:InstsV w a l) (ht:Pow10 w):PrB w (w.alloc (.cells #[.int .u32 g,.int .u32 (N:Int),.slice a n c] 25)) g N a n c l :=
 have hba:Below w.heap.size w (w.alloc (.cells #[.int .u32 g,.int .u32 (N:Int),.slice a n c] 25)):=(Below.refl _ w).alloc (Nat.le_refl _) _
 ⟨heap_alloc_new w _,hv.below hba,hba,ht.below hba⟩
theorem below_one8 (w:World) (o:Obj):Below w.heap.size w (w.alloc o):=(Below.refl _ w).alloc (Nat.le_refl _) _
theorem blocks2P (w:World) (o0 o1:Obj):((w.alloc o0).alloc o1).heap[w.heap.size]?=some o0∧((w.alloc o0).alloc o1).heap[w.heap.size+1]?=some o1∧Below w.heap.size w ((w.alloc o0).alloc o1):=by
 refine ⟨?_,?_,((Below.refl _ w).alloc (Nat.le_refl _) _).alloc (by simp) _⟩
 ·rw [Below.heap_alloc _ _ _ (by simp)];exact heap_alloc_new _ _
 ·have:=heap_alloc_new (w.alloc o0) o1;simpa using this
theorem Below.kept {W W':World} (hb:Below W.heap.size W W') {p:Nat} {o:Obj} (h:W.heap[p]?=some o):W'.heap[p]?=some o:=(hb.block _ (Array.getElem?_eq_some_iff.1 h).1).trans h
structure MdB (W : World) (p : Nat) (g : Int) (N : Nat) (a : Option Addr) (n c : Nat) (l : List InstT) : Prop where
  mbox : W.heap[p]? = some (.cells #[.int .u32 g, .int .u32 (N : Int), .slice a n c] 25 (0, 0))
  lv : InstsV W a l
theorem MdB.below {W W':World} {p:Nat} {g:Int} {N:Nat} {a:Option Addr} {n c:Nat} {l:List InstT} (h:MdB W p g N a n c l) (hb:Below W.heap.size W W'):MdB W' p g N a n c l:=⟨Below.kept hb h.mbox,h.lv.below hb⟩
theorem MdB.cells {W:World} {p:Nat} {g:Int} {N:Nat} {a:Option Addr} {n c:Nat} {l:List InstT} (h:MdB W p g N a n c l):W.cell? ⟨p,0,none⟩=some (.int .u32 g)∧W.cell? ⟨p,1,none⟩=some (.int .u32 (N:Int))∧W.cell? ⟨p,2,none⟩=some (.slice a n c) :=
 ⟨(one_block h.mbox).1 0,(one_block h.mbox).1 1,(one_block h.mbox).1 2⟩
theorem argsV_setP {w:World} {a:Option Addr} {l:List ArgT} (h:ArgsV w a l) {g:Nat} (hg:∀ i x,w.cell? ⟨g,i,none⟩≠some (.int .u8 x)) (i:Nat) (u:Value):ArgsV (w.setCell ⟨g,i,none⟩ u) a l:=fun j hj=>by
 obtain ⟨b,o,rfl,hb,c0,c1,c2⟩:=h j hj
 have hne:b≠g:=fun e=>by subst e;exact hg _ _ c0
 exact ⟨b,o,rfl,by simpa [World.setCell] using hb,(cell_far hne _ _ _).trans c0,(cell_far hne _ _ _).trans c1,(cell_far hne _ _ _).trans c2⟩
theorem instsV_setP {w:World} {a:Option Addr} {l:List InstT} (h:InstsV w a l) {g:Nat} (hg:∀ i x,w.cell? ⟨g,i,none⟩≠some (.int .u8 x)) (hg2:∀ i x,w.cell? ⟨g,i,none⟩≠some (.int .u16 x)) (i:Nat) (u:Value):InstsV (w.setCell ⟨g,i,none⟩ u) a l:=fun j hj=>by
 obtain ⟨b,o,aj,cj,nj,rfl,hb,c0,c1,c2,c3,h4,h5,h6⟩:=h j hj
 have hne:b≠g:=fun e=>by subst e;exact hg2 _ _ c0
 exact ⟨b,o,aj,cj,nj,rfl,by simpa [World.setCell] using hb,(cell_far hne _ _ _).trans c0,(cell_far hne _ _ _).trans c1,(cell_far hne _ _ _).trans c2,(cell_far hne _ _ _).trans c3,h4,argsV_setP h5 hg i u,h6⟩
theorem not_smallP {w:World} {g T:Nat} {x y:Int} (h:w.heap[g]?=some (.cells #[.int .i64 x,.int .i64 y] T (0,0))):(∀ i z,w.cell? ⟨g,i,none⟩≠some (.int .u8 z))∧(∀ i z,w.cell? ⟨g,i,none⟩≠some (.int .u16 z)):=by
 constructor
 ·intro i z e
  rw [(one_block h).1 i] at e
  match i with
  | 0=>simp at e
  | 1=>simp at e
  | i+2=>simp at e
 ·intro i z e
  rw [(one_block h).1 i] at e
  match i with
  | 0=>simp at e
  | 1=>simp at e
  | i+2=>simp at e
theorem set_blockP {w:World} {g T:Nat} {cs:Array Value} (h:w.heap[g]?=some (.cells cs T (0,0))) (i:Nat) (u:Value):(w.setCell ⟨g,i,none⟩ u).heap[g]?=some (.cells (cs.setIfInBounds i u) T (0,0)):=by
 simp [World.setCell,Array.getElem?_modify,h]
theorem instsV_two {w:World} {a:Option Addr} {l:List InstT} (h:InstsV w a l) {q T:Nat} {x y:Int} (hq:w.heap[q]?=some (.cells #[.int .i64 x,.int .i64 y] T (0,0))) (u v:Int):InstsV ((w.setCell ⟨q,0,none⟩ (.int .i64 u)).setCell ⟨q,1,none⟩ (.int .i64 v)) a l:=by
 have q3:=not_smallP hq
 have v4:=instsV_setP h q3.1 q3.2 0 (.int .i64 u)
 have k4:=set_blockP hq 0 (.int .i64 u)
 have q4:=not_smallP (x:=u) (y:=y) k4
 exact instsV_setP v4 q4.1 q4.2 1 (.int .i64 v)
theorem not_smallM {w:World} {g T:Nat} {x y:Int} {v:Value} (h:w.heap[g]?=some (.cells #[.int .u32 x,.int .u32 y,v] T (0,0))) (hv:∀ z,v≠.int .u8 z) (hv2:∀ z,v≠.int .u16 z):(∀ i z,w.cell? ⟨g,i,none⟩≠some (.int .u8 z))∧(∀ i z,w.cell? ⟨g,i,none⟩≠some (.int .u16 z)):=by
 constructor
 ·intro i z e
  rw [(one_block h).1 i] at e
  match i with
  | 0=>simp at e
  | 1=>simp at e
  | 2=>simp at e;exact hv z e
  | i+3=>simp at e
 ·intro i z e
  rw [(one_block h).1 i] at e
  match i with
  | 0=>simp at e
  | 1=>simp at e
  | 2=>simp at e;exact hv2 z e
  | i+3=>simp at e
theorem set_farP {w:World} {g b T:Nat} {cs:Array Value} (h:w.heap[b]?=some (.cells cs T (0,0))) (hne:g≠b) (i:Nat) (u:Value):(w.setCell ⟨g,i,none⟩ u).heap[b]?=some (.cells cs T (0,0)):=by
 simp [World.setCell,Array.getElem?_modify,h,hne]
theorem instsV_five {w:World} {a:Option Addr} {l:List InstT} (h:InstsV w a l) {q r T U:Nat} {x y x2 y2:Int} {v v':Value} (hq:w.heap[q]?=some (.cells #[.int .u32 x,.int .u32 y,v] T (0,0))) (hv:∀ z,v≠.int .u8 z) (hv2:∀ z,v≠.int .u16 z) (hr:w.heap[r]?=some (.cells #[.int .i64 x2,.int .i64 y2] U (0,0))) (hne:q≠r) (g b e1 e2:Int) :
  InstsV (((((w.setCell ⟨q,0,none⟩ (.int .u32 g)).setCell ⟨q,1,none⟩ (.int .u32 b)).setCell ⟨q,2,none⟩ v').setCell ⟨r,0,none⟩ (.int .i64 e1)).setCell ⟨r,1,none⟩ (.int .i64 e2)) a l:=by
 have q0:=not_smallM hq hv hv2
 have v1:=instsV_setP h q0.1 q0.2 0 (.int .u32 g)
 have h1:=set_blockP hq 0 (.int .u32 g)
 have k1:=set_farP hr hne 0 (.int .u32 g)
 have q1:=not_smallM (x:=g) (y:=y) h1 hv hv2
 have v2:=instsV_setP v1 q1.1 q1.2 1 (.int .u32 b)
 have h2:=set_blockP h1 1 (.int .u32 b)
 have k2:=set_farP k1 hne 1 (.int .u32 b)
 have q2:=not_smallM (x:=g) (y:=b) h2 hv hv2
 have v3:=instsV_setP v2 q2.1 q2.2 2 v'
 have k3:=set_farP k2 hne 2 v'
 exact instsV_two v3 k3 e1 e2
structure BgB (w W : World) : Prop where
  bel : Below w.heap.size w W
  pw : Pow10 W
theorem BgB.below {w W W':World} (h:BgB w W) (hb:Below W.heap.size W W'):BgB w W':=⟨h.bel.trans (hb.mono h.bel.size),h.pw.below hb⟩
theorem facts8 {g:Int} {N n:Nat} {l:List InstT} (hl:l.length=n) (hok:InstsOk l) (hr:40 * n≤140737488351232) (hg:0≤g∧g < 4294967296) (hN:(N:Int) < 4294967296) (h:(shapeE (N:Int) l).1=0) :
  ∃ S:ByteArray,S=strOfNums (textP g (N:Int) l)∧S.size≤16777216 ∧
   (∀ wx p c,InstsV wx (some ⟨p,0,none⟩) l→Pow10 wx→Calls Tryz.prog 8 #[.agg #[.int .u32 g,.int .u32 N,.slice (some ⟨p,0,none⟩) n c]] wx fun e w'=>e=.returned (.tuple #[.string S,.agg #[.int .i64 0,.int .i64 0]])∧Below wx.heap.size wx w') ∧
   (∀ wx,Calls Tryz.prog 25 #[.string S] wx fun e w'=>∃ a c,e=.returned (.tuple #[.agg #[.int .u32 g,.int .u32 N,.slice a n c],.agg #[.int .i64 0,.int .i64 0]])∧InstsV w' a l∧Below wx.heap.size wx w') ∧
   (∀ wx p c,InstsV wx (some ⟨p,0,none⟩) l→Calls Tryz.prog 24 #[.agg #[.int .u32 g,.int .u32 N,.slice (some ⟨p,0,none⟩) n c]] wx fun e w'=>e=.returned (.agg #[.int .i64 0,.int .i64 0])∧Below wx.heap.size wx w'):=by
 have hz:=textP_size hg.2 hok h
 have hpp:=print_parse hg.1 hg.2 hok h hz
 have h2:(((shapeE (N:Int) l).2:Nat):Int)=0:=by rw [shape_none h];rfl
 refine ⟨_,rfl,hz,fun wx p c hx hp=>?_,fun wx=>?_,fun wx p c hx=>?_⟩
 ·have:=printTextM_any g N (some ⟨p,0,none⟩) n c l wx hx hok hl hr hg.1 hg.2 hN hp
  rw [h,h2,show txtP g (N:Int) l=strOfNums (textP g (N:Int) l) from if_pos h] at this
  exact this
 ·refine (asmParse_any (strOfNums (textP g (N:Int) l)) wx).mono ?_
  rw [hpp]
  rintro e w' ⟨a,m,c,rfl,hv,hm,_,hb⟩
  simp only at hm hv
  obtain rfl:m=n:=by rw [← hm];exact hl
  exact ⟨a,c,rfl,hv,hb⟩
 ·have:=codeShape_any g (N:Int) (some ⟨p,0,none⟩) n c l wx hg.1 hg.2 (by omega) hN hx hok hl hr
  rw [h,h2] at this
  exact this
theorem shape_faultF (b:Int) (l:List InstT) (hE:∀ k,k < l.length→rawE (nthI l k) b=0):∀ d k,l.length - k=d→fault (rawsL b l) k=(0,0)→shapeF b k (sizeTo (rawsL b l) k) (l.drop k)=(0,0)
 | 0,k,hd,_=>shape_end b l k _ (by omega)
 | d+1,k,hd,h=>by
  have hk:k < l.length:=by omega
  rw [shape_step b l k hk,if_neg (by simp [hE k hk])]
  rw [fault_step _ _ (by rw [rawsL_len];exact hk),nthR_raws b l k hk] at h
  have hs:=rawWs_len (nthI l k) b
  rw [if_neg (by simp only;omega)] at h
  by_cases h2:1048576 < sizeTo (rawsL b l) (k+1)
  ·rw [if_pos h2] at h;cases h
  ·rw [if_neg h2] at h ⊢
   exact shape_faultF b l hE d (k+1) (by omega) h
theorem shape_of_fault {b : Int} {l : List InstT} (h0 : ¬ b = 0) (h1 : ¬ 65536 < b) (hE : ∀ k, k < l.length → rawE (nthI l k) b = 0) (h : fault (rawsL b l) 0 = (0, 0)) : shapeE b l = (0, 0) := by
  unfold shapeE
  rw [if_neg (by rintro (h | h)
                 · exact h0 h
                 · exact h1 h)]
  exact shape_faultF b l hE _ 0 rfl h
theorem split_len {bs:List Int} (h:splitErr bs=0):bs.length≤4194304∧bs.length % 4=0:=by
 unfold splitErr at h
 by_cases h1:4194304 < bs.length
 ·rw [if_pos h1] at h;cases h
 ·rw [if_neg h1] at h
  by_cases h2:bs.length % 4=0
  ·exact ⟨by omega,h2⟩
  ·rw [if_neg h2] at h;cases h
theorem enc_dec {bs:List Int} (hw:Within 256 bs) (h:(decE bs).1=0):decH bs 3≠0∧¬ 65536 < decH bs 3∧shapeE (decH bs 3) (decL bs)=(0,0)∧encL (decH bs 2) (decH bs 3) (decL bs)=bs:=by
 obtain ⟨h1,h2,h3,h4,h5,h6⟩:=decE_ok h
 have hww:=splitL_within bs hw
 obtain ⟨w1,w2,w3,w4,w5,w6⟩:=write_read (splitL bs) hww h2
 obtain ⟨s1,s2⟩:=split_len h1
 have hj:=join_split bs s2 hw
 rw [h4,h5,h6]
 generalize splitL bs=zs at *
 generalize hb:nth zs 3=b at *
 have hre:∀ p ∈ rest zs 5,(instAt zs b p).1.1=(rawAt zs p).1∧rawE (instAt zs b p).1 b=0∧rawWs (instAt zs b p).1 b=(rawAt zs p).2:=fun p hp=>rawE_instI (rawAt_within hww p) (h3 p hp)
 have hR:rawsL b (instsAt zs b (rest zs 5))=readR zs:=by
  unfold rawsL instsAt readR
  rw [List.map_map]
  refine List.map_congr_left fun p hp=>?_
  obtain ⟨e1,_,e3⟩:=hre p hp
  simp only [Function.comp]
  rw [e1,e3]
 have hE:∀ k,k < (instsAt zs b (rest zs 5)).length→rawE (nthI (instsAt zs b (rest zs 5)) k) b=0:=fun k hk=>by
  rw [nthI_lt _ _ hk]
  simp only [instsAt,List.getElem_map]
  exact (hre _ (List.getElem_mem _)).2.1
 have hS:shapeE b (instsAt zs b (rest zs 5))=(0,0):=shape_of_fault w2 w3 hE (by rw [hR];exact w4)
 refine ⟨w2,w3,hS,?_⟩
 unfold encL encW
 rw [hS,if_pos rfl,hR,show (instsAt zs b (rest zs 5)).length=(readR zs).length by simp [instsAt,readR],w6,hj]
def txtB (bs:List Int):ByteArray:=if (decE bs).1=0 then strOfNums (textP (decH bs 2) (decH bs 3) (decL bs)) else ⟨#[]⟩
theorem blocks2B (w:World) (o0 o1:Obj):((w.alloc o0).alloc o1).heap[w.heap.size]?=some o0∧((w.alloc o0).alloc o1).heap[w.heap.size+1]?=some o1∧Below w.heap.size w ((w.alloc o0).alloc o1):=by
 refine ⟨?_,?_,((Below.refl _ w).alloc (Nat.le_refl _) _).alloc (by simp) _⟩
 ·rw [Below.heap_alloc _ _ _ (by simp)];exact heap_alloc_new _ _
 ·have:=heap_alloc_new (w.alloc o0) o1;simpa using this
set_option maxHeartbeats 8000000 in
theorem printBytes_any (a:Option Addr) (n cap:Nat) (bs:List Int) (w:World) (ha:View .u8 w a bs) (hl:bs.length=n) (hw:Within 256 bs) (ht:Pow10 w) :
  Calls Tryz.prog 26 #[.slice a n cap] w fun e w'=>e=.returned (.tuple #[.string (txtB bs),.agg #[.int .i64 (decE bs).1,.int .i64 (decE bs).2]])∧Below w.heap.size w w':=by
 have hD:=fun W (hb:Below w.heap.size w W)=>decode_any a n cap bs W (ha.below hb) hl hw
 have HB0:=hide ((Below.refl w.heap.size w).alloc (Nat.le_refl _) (.cells #[.int .i64 0,.int .i64 0] 28))
 have HX:=hide (alloc_new w #[.int .i64 0,.int .i64 0] 28)
 rcases decE_any bs with he | he
 ·obtain ⟨m1,m2,m3,m4⟩:=enc_dec hw (by rw [he])
  have hdl:=shape_few (l:=decL bs) (b:=decH bs 3) (by rw [m3])
  have hdo:=decL_ok hw
  have hg:=decH_range hw 2
  have hb:=decH_range hw 3
  have ez:txtB bs=strOfNums (textP (decH bs 2) (decH bs 3) (decL bs)):=if_pos (by rw [he])
  rw [ez,he]
  rw [he] at hD
  obtain ⟨N,hN⟩:∃ N:Nat,decH bs 3=(N:Int):=⟨(decH bs 3).toNat,by omega⟩
  rw [hN] at m3 hb ⊢
  rw [hN] at hD
  have hT:=fun W ax m cx (hm:(decL bs).length=m) (hv:InstsV W ax (decL bs)) (hp:Pow10 W)=>textOf_any (decH bs 2) N ax m cx (decL bs) W hv hdo hm (by omega) hg.1 hg.2 (by rw [m3]) hb.2 hp
  generalize strOfNums (textP (decH bs 2) (N:Int) (decL bs))=S at *
  generalize decH bs 2=gen at *
  generalize decL bs=l at *
  have HT:=hide hT
  have HPW:=hide ht
  unfold modV at *
  clear ha hl hw he m1 m2 m3 m4 hdl hdo hg hb ez hN hT ht
  go_enter Tryz.func26,Tryz.ntmps26
  go_wp2_with fail
  generalize w.alloc (.cells #[.int .i64 0,.int .i64 0] 28)=W0 at *
  refine (hD _ HB0.out).mono ?_
  rintro e w1 ⟨hb1,ax,m,cx,rfl,hm,hO⟩
  have l0:=(Array.getElem?_eq_some_iff.1 HX.out).1
  have hba:Below w1.heap.size w1 ((w1.alloc (.cells #[.int .u32 gen,.int .u32 N,.slice ax m cx] 25)).alloc (.cells #[.int .i64 0,.int .i64 0] 28)):=((Below.refl _ w1).alloc (Nat.le_refl _) _).alloc (by simp) _
  have hb2:=hb1.trans (hba.mono hb1.size)
  have HB2:=hide (HB0.out.trans (hb2.mono HB0.out.size))
  have HX2:=hide ((hb2.block _ l0).trans HX.out)
  have hc:=HT.out _ ax m cx hm (hO.view.below hba) (HPW.out.below HB2.out)
  have hz:((0:Nat):Int)=0:=rfl
  clear hb1 hb2 hba hD HT l0 hO hm
  go_wp2_with fail
  refine hc.mono ?_
  rintro e w3 ⟨rfl,hb3⟩
  have lx:=(Array.getElem?_eq_some_iff.1 HX2.out).1
  have kX3:=(hb3.block _ lx).trans HX2.out
  obtain ⟨hcX,hfX⟩:=one_block kX3
  have c0:=hcX 0
  have c1:=hcX 1
  have f0:=hfX 0
  have f1:=hfX 1
  have hBel:=HB2.out.trans (hb3.mono HB2.out.size)
  have HB3:=hide (two_put2 kX3 (.int .i64 0) (.int .i64 0))
  have HBel2:=hide (hBel.trans ((two_below w3 w.heap.size (.int .i64 0) (.int .i64 0)).mono (by omega)))
  clear hb3 kX3 hcX hfX hBel hc
  go_wp2
  have hB3:=HB3.out
  have hBel:=HBel2.out
  clear HB3 HBel2 c0 c1 f0 f1
  generalize (w3.setCell _ _).setCell _ _=W at hB3 hBel ⊢
  obtain ⟨hd,_⟩:=one_block hB3
  have d0:=hd 0
  have d1:=hd 1
  refine bodyPost_ret (v:=.tuple #[.string S,.agg #[.int .i64 0,.int .i64 0]]) ?_ rfl ⟨rfl,hBel⟩
  simp [results,Tryz.results26,go_sem,d0,d1]
 ·have ez:txtB bs=⟨#[]⟩:=if_neg he
  have heb:((decE bs).1 == 0)=false:=by simpa using he
  rw [ez]
  generalize (decE bs).1=e1 at *
  generalize (decE bs).2=e2 at *
  generalize decH bs 2=gen at *
  generalize decH bs 3=bnd at *
  generalize decL bs=l at *
  unfold modV at *
  clear ha hl hw ez ht he
  go_enter Tryz.func26,Tryz.ntmps26
  go_wp2_with fail
  generalize w.alloc (.cells #[.int .i64 0,.int .i64 0] 28)=W0 at *
  refine (hD _ HB0.out).mono ?_
  rintro e w1 ⟨hb1,ax,m,cx,rfl,hm,hO⟩
  have l0:=(Array.getElem?_eq_some_iff.1 HX.out).1
  obtain ⟨kA,kB,hba⟩:=blocks2B w1 (.cells #[.int .u32 gen,.int .u32 bnd,.slice ax m cx] 25) (.cells #[.int .i64 e1,.int .i64 (e2:Int)] 28)
  have hb2:=hb1.trans (hba.mono hb1.size)
  have HB2:=hide (HB0.out.trans (hb2.mono HB0.out.size))
  have kX2:=(hb2.block _ l0).trans HX.out
  obtain ⟨hcX,hfX⟩:=one_block kX2
  have c0:=hcX 0
  have c1:=hcX 1
  have f0:=hfX 0
  have f1:=hfX 1
  obtain ⟨d0,d1,_⟩:=cell_of_two kB
  have HB3:=hide (two_put2 kX2 (.int .i64 e1) (.int .i64 (e2:Int)))
  have HBel2:=hide (HB2.out.trans ((two_below _ w.heap.size (.int .i64 e1) (.int .i64 (e2:Int))).mono (by omega))).drew
  have hne:w1.heap.size+1≠w.heap.size:=by have:=hb1.size;omega
  have HC:=hide (And.intro c0 (And.intro c1 (And.intro f0 (And.intro f1 hne))))
  clear hb1 hb2 hba hD l0 hO hm kX2 kA kB hcX hfX c0 c1 f0 f1 hne HB0 HX
  go_wp2_with fail
  obtain ⟨c0,c1,f0,f1,hne⟩:=HC.out
  go_region
  go_wp2
  have hB3:(((((w1.alloc (.cells #[.int .u32 gen,.int .u32 bnd,.slice ax m cx] 25)).alloc (.cells #[.int .i64 e1,.int .i64 (e2:Int)] 28)).setCell ⟨w.heap.size,0,none⟩ (.int .i64 e1)).setCell ⟨w.heap.size,1,none⟩ (.int .i64 (e2:Int))).drew).heap[w.heap.size]?=some (.cells #[.int .i64 e1,.int .i64 (e2:Int)] 28 (0,0)):=HB3.out
  have hBel:=HBel2.out
  clear HB3 HBel2 c0 c1 f0 f1 d0 d1
  generalize ((((w1.alloc _).alloc _).setCell _ _).setCell _ _).drew=W at hB3 hBel ⊢
  obtain ⟨hd,_⟩:=one_block hB3
  have d0:=hd 0
  have d1:=hd 1
  refine bodyPost_ret (v:=.tuple #[.string ⟨#[]⟩,.agg #[.int .i64 e1,.int .i64 e2]]) ?_ rfl ⟨rfl,hBel⟩
  simp [results,Tryz.results26,go_sem,d0,d1]
theorem CopyBytes.info:(Tryz.prog.info? 5).map (fun i=>(i.zero,i.size,i.bytes))=some (some (.int .u8 0),1,1):=by kernel_rfl
set_option maxHeartbeats 400000 in
theorem copyBytes_any (a:Option Addr) (n cap:Nat) (zs:List Int) (w:World) (ha:View .u8 w a zs) (hl:zs.length=n) (hn:n≤140737488351232) :
  Calls Tryz.prog 20 #[.slice a n cap] w fun e w'=>e=.returned (.slice (some ⟨w.heap.size,0,none⟩) n n) ∧
   w'.ownsRow w.heap.size 5 1 (.slice (some ⟨w.heap.size,0,none⟩) n n) n (zs.map (Value.int .u8))∧Below w.heap.size w w':=by
 obtain ⟨i0,hi,hz0,hz1,hz2⟩:=info_parts CopyBytes.info
 have HL:Hid (zs.length=n):=hl
 clear hl
 go_enter Tryz.func20,Tryz.ntmps20
 go_wp2_with (at_make;refine wpList_make_full _ rfl _ _ 58 rfl w.heap.size 5 i0 (.int .u8 0) 1 Tryz.underlying58 hi hz0 hz1 _ _ _ _ n rfl rfl (by omega) (by omega) (by rw [hz2];omega) (by unfold maxLen;omega) (Nat.le_refl _) ?_)
 intro w1 hown1 hgrow1
 have hb1:Below w.heap.size w w1:=(Below.refl _ w).grown hgrow1 (Nat.le_refl _) (by simp)
 have hr1:=made_row zs hown1
 clear hown1 hgrow1
 go_wp2
 go_loopw [4] (fun i wr=>∃ k:Nat,k≤n∧i=.int .i64 k∧wr.ownsRow w.heap.size 5 1 (.slice (some ⟨w.heap.size,0,none⟩) n n) n ((filled zs k n).map (Value.int .u8))∧Below w.heap.size w wr)
  (fun i _=>n - (intOf i).toNat)
 case atStart=>exact ⟨0,Nat.zero_le _,rfl,hr1,hb1⟩
 case round =>
  obtain ⟨k,hk,rfl,hown,hnx⟩:=hrel
  clear hr1 hb1
  by_cases hlt:k < n
  ·obtain ⟨b,off,rfl,hbs,hc⟩:=ha k (by rw [HL.out];exact hlt)
   obtain ⟨d1,d2,d3⟩:=fill_step hown hlt (by rw [HL.out];exact hlt)
   have hcr:wr.cell? ⟨b,off+k,none⟩=some (.int .u8 (nth zs k)):=(hnx.cell (p:=⟨b,off+k,none⟩) hbs).trans hc
   generalize nth zs k=x at hcr d3
   clear hc ha hown
   go_wp2
   go_roundw
   case rel=>exact ⟨k+1,by omega,by go_num,d3,hnx.setCell (Nat.le_refl _) _⟩
   case measure=>simp [intOf];omega
  ·go_wp2
   go_ret
   obtain rfl:k=n:=by omega
   rw [filled_whole zs k HL.out] at hown
   exact ⟨rfl,hown,hnx⟩
set_option maxHeartbeats 400000 in
theorem bytes_true (a b:Option Addr) (n ca cb:Nat) (zs:List Int) (w:World) (ha:View .u8 w a zs) (hb:View .u8 w b zs) (hl:zs.length=n) (hn:n≤140737488351232) :
  Calls Tryz.prog 23 #[.slice a n ca,.slice b n cb] w fun e w'=>e=.returned (.bool true)∧∃ q,w'=w.drewN q:=by
 have HL:Hid (zs.length=n):=hl
 clear hl
 go_enter Tryz.func23,Tryz.ntmps23
 go_wp2
 go_loopw [5] (fun i wr=>∃ k q:Nat,k≤n∧i=.int .i64 k∧wr=w.drewN q) (fun i _=>n - (intOf i).toNat)
 case atStart=>exact ⟨0,0,Nat.zero_le _,rfl,rfl⟩
 case round =>
  obtain ⟨k,q,hk,rfl,rfl⟩:=hrel
  by_cases hlt:k < n
  ·obtain ⟨b1,o1,rfl,_,c1⟩:=ha k (by rw [HL.out];exact hlt)
   obtain ⟨b2,o2,rfl,_,c2⟩:=hb k (by rw [HL.out];exact hlt)
   have hk0:(0:Int)≤(k:Int):=by omega
   have hki:(k:Int) < (n:Int):=by omega
   clear ha hb
   go_wp2
   go_quiet (fail)
   go_wp2
   go_roundw
   case rel=>exact ⟨k+1,_,by omega,by go_num,rfl⟩
   case measure=>simp [intOf];omega
  ·go_wp2
   go_ret
   exact ⟨rfl,q,rfl⟩
theorem kitNone_none (a:Option Addr) (c:Nat) (w:World):Calls Tryz.prog 21 #[modV 0 0 a 0 c] w fun e w'=>e=.returned (.bool true)∧Below w.heap.size w w':=by
 unfold modV
 go_enter Tryz.func21,Tryz.ntmps21
 go_wp2
 go_ret
 exact ⟨rfl,(Below.refl _ _).alloc (Nat.le_refl _) _⟩
theorem view_setP {w:World} {a:Option Addr} {zs:List Int} (h:View .u8 w a zs) {g:Nat} (hg:∀ i x,w.cell? ⟨g,i,none⟩≠some (.int .u8 x)) (i:Nat) (u:Value):View .u8 (w.setCell ⟨g,i,none⟩ u) a zs:=fun j hj=>by
 obtain ⟨b,o,rfl,hb,c0⟩:=h j hj
 have hne:b≠g:=fun e=>by subst e;exact hg _ _ c0
 exact ⟨b,o,rfl,by simpa [World.setCell] using hb,(cell_far hne _ _ _).trans c0⟩
theorem view_two {w:World} {a:Option Addr} {zs:List Int} (h:View .u8 w a zs) {q T:Nat} {x y:Int} (hq:w.heap[q]?=some (.cells #[.int .i64 x,.int .i64 y] T (0,0))) (u v:Int):View .u8 ((w.setCell ⟨q,0,none⟩ (.int .i64 u)).setCell ⟨q,1,none⟩ (.int .i64 v)) a zs :=
 view_setP (view_setP h (not_smallP hq).1 0 _) (not_smallP (x:=u) (y:=y) (set_blockP hq 0 (.int .i64 u))).1 1 _
theorem fivePut {w:World} {q r T U:Nat} {x y x2 y2:Int} {v:Value} (hq:w.heap[q]?=some (.cells #[.int .u32 x,.int .u32 y,v] T (0,0))) (hr:w.heap[r]?=some (.cells #[.int .i64 x2,.int .i64 y2] U (0,0))) (hne:q≠r) (g b e1 e2:Int) (v':Value) :
  (((((w.setCell ⟨q,0,none⟩ (.int .u32 g)).setCell ⟨q,1,none⟩ (.int .u32 b)).setCell ⟨q,2,none⟩ v').setCell ⟨r,0,none⟩ (.int .i64 e1)).setCell ⟨r,1,none⟩ (.int .i64 e2)).heap[q]?=some (.cells #[.int .u32 g,.int .u32 b,v'] T (0,0))∧(((((w.setCell ⟨q,0,none⟩ (.int .u32 g)).setCell ⟨q,1,none⟩ (.int .u32 b)).setCell ⟨q,2,none⟩ v').setCell ⟨r,0,none⟩ (.int .i64 e1)).setCell ⟨r,1,none⟩ (.int .i64 e2)).heap[r]?=some (.cells #[.int .i64 e1,.int .i64 e2] U (0,0)):=by
 have h1:=set_blockP hq 0 (.int .u32 g)
 have h2:=set_blockP h1 1 (.int .u32 b)
 have h3:=set_blockP h2 2 v'
 have k1:=set_farP hr hne 0 (.int .u32 g)
 have k2:=set_farP k1 hne 1 (.int .u32 b)
 have k3:=set_farP k2 hne 2 v'
 have k4:=set_blockP k3 0 (.int .i64 e1)
 have k5:=set_blockP k4 1 (.int .i64 e2)
 have h4:=set_farP h3 (fun h=>hne h.symm) 0 (.int .i64 e1)
 have h5:=set_farP h4 (fun h=>hne h.symm) 1 (.int .i64 e2)
 exact ⟨by simpa using h5,by simpa using k5⟩
theorem five_below {w0 w:World} {q r:Nat} (h:Below w0.heap.size w0 w) (hq:w0.heap.size≤q) (hr:w0.heap.size≤r) (v0 v1 v2 v3 v4:Value):Below w0.heap.size w0 (((((w.setCell ⟨q,0,none⟩ v0).setCell ⟨q,1,none⟩ v1).setCell ⟨q,2,none⟩ v2).setCell ⟨r,0,none⟩ v3).setCell ⟨r,1,none⟩ v4) :=
 ((((h.setCell hq v0).setCell hq v1).setCell hq v2).setCell hr v3).setCell hr v4
theorem two_set_below {w0 w:World} {r:Nat} (h:Below w0.heap.size w0 w) (hr:w0.heap.size≤r) (v3 v4:Value):Below w0.heap.size w0 ((w.setCell ⟨r,0,none⟩ v3).setCell ⟨r,1,none⟩ v4):=(h.setCell hr v3).setCell hr v4
def smallB:List Int:=[3,2,35,7,0,0,1,0,9,0,0,0,5,0,0,0,0,0,0,0,20,0,2,0,1,0,0,0]
theorem smallB_dec:decE smallB=(0,0)∧decH smallB 2=9∧decH smallB 3=5∧decL smallB=[(20,0,1,[])]:=⟨by kernel_rfl,by kernel_rfl,by kernel_rfl,by kernel_rfl⟩
theorem smallB_in:Within 256 smallB:=by unfold Within smallB;simp
set_option maxHeartbeats 2000000 in
theorem smallTop_any (w:World):Calls Tryz.prog 19 #[] w fun e w'=>∃ p,e=.returned (.slice (some ⟨p,0,none⟩) 28 28)∧View .u8 w' (some ⟨p,0,none⟩) smallB∧Below w.heap.size w w':=by
 go_enter Tryz.func19,Tryz.ntmps19
 go_wp2
 go_ret
 refine ⟨_,rfl,?_,(Below.refl _ w).alloc (Nat.le_refl _) _⟩
 intro j hj
 refine ⟨w.heap.size,0,rfl,by simp,?_⟩
 rw [(one_block (alloc_new w _ _)).1 (0+j)]
 have h:∀ j:Fin 28,(#[Value.int .u8 3,.int .u8 2,.int .u8 35,.int .u8 7,.int .u8 0,.int .u8 0,.int .u8 1,.int .u8 0,.int .u8 9,.int .u8 0,.int .u8 0,.int .u8 0,.int .u8 5,.int .u8 0,.int .u8 0,.int .u8 0,.int .u8 0,.int .u8 0,.int .u8 0,.int .u8 0,.int .u8 20,.int .u8 0,.int .u8 2,.int .u8 0,.int .u8 1,.int .u8 0,.int .u8 0,.int .u8 0])[(0+j.val)]?=some (.int .u8 (nth smallB j.val)):=by
  intro j
  match j with
  | ⟨0,_⟩ | ⟨1,_⟩ | ⟨2,_⟩ | ⟨3,_⟩ | ⟨4,_⟩ | ⟨5,_⟩ | ⟨6,_⟩ | ⟨7,_⟩ | ⟨8,_⟩ | ⟨9,_⟩ | ⟨10,_⟩ | ⟨11,_⟩ | ⟨12,_⟩ | ⟨13,_⟩ | ⟨14,_⟩ | ⟨15,_⟩ | ⟨16,_⟩ | ⟨17,_⟩ | ⟨18,_⟩ | ⟨19,_⟩ | ⟨20,_⟩ | ⟨21,_⟩ | ⟨22,_⟩ | ⟨23,_⟩ | ⟨24,_⟩ | ⟨25,_⟩ | ⟨26,_⟩ | ⟨27,_⟩=>rfl
  | ⟨k+28,h⟩=>exact absurd h (by omega)
 exact h ⟨j,hj⟩
theorem smallDec (w:World) (p:Nat) (h:View .u8 w (some ⟨p,0,none⟩) smallB):Calls Tryz.prog 18 #[.slice (some ⟨p,0,none⟩) 28 28] w fun e w'=>∃ b o c,e=.returned (.tuple #[.agg #[.int .u32 9,.int .u32 5,.slice (some ⟨b,o,none⟩) 1 c],.agg #[.int .i64 0,.int .i64 0]])∧w'.cell? ⟨b,o,none⟩=some (.int .u16 20)∧Below w.heap.size w w'∧b < w'.heap.size:=by
 have hd:=decode_any (some ⟨p,0,none⟩) 28 28 smallB w h rfl smallB_in
 rw [smallB_dec.1,smallB_dec.2.1,smallB_dec.2.2.1,smallB_dec.2.2.2] at hd
 refine hd.mono ?_
 rintro e w' ⟨hb,ax,m,cx,rfl,hm,hO⟩
 obtain rfl:m=1:=hm.symm
 obtain ⟨b,o,aj,cj,nj,rfl,hbs,c0,_⟩:=hO.view 0 (by simp)
 exact ⟨b,o,cx,rfl,by simpa [nthI] using c0,hb,hbs⟩
set_option maxHeartbeats 8000000 in
theorem wholeBytes_bad (w:World) (a:Option Addr) (n cap:Nat) (zs:List Int) (hl:zs.length=n) (hv:View .u8 w a zs) (hw:Within 256 zs) (hr:1 * n≤140737488351232) (he:(decE zs).1≠0) :
  Calls Tryz.prog 6 #[.slice a n cap] w fun e w'=>e=.returned (.bool true)∧Below w.heap.size w w':=by
 have hC:=fun wx (hb:Below w.heap.size w wx)=>copyBytes_any a n cap zs wx (hv.below hb) hl (by omega)
 have hD:=fun wx g (h:View .u8 wx (some ⟨g,0,none⟩) zs)=>decode_any (some ⟨g,0,none⟩) n n zs wx h hl hw
 have e1:decL zs=[]:=by unfold decL;rw [if_neg he]
 have e2:∀ i,decH zs i=0:=fun i=>by unfold decH;rw [if_neg he]
 rw [e1,e2,e2] at hD
 have hN:=fun ax c wx=>kitNone_none ax c wx
 have heb:((decE zs).1 == 0)=false:=by simpa using he
 generalize (decE zs).1=er at *
 generalize (decE zs).2=ea at *
 have HL:=hide hl
 have HC:=hide hC
 unfold modV at *
 clear hl hv hw he hC e1 e2
 go_enter Tryz.func6,Tryz.ntmps6
 go_wp2_with fail
 refine (smallTop_any _).mono ?_
 rintro e w1 ⟨p1,rfl,hv1,hb1⟩
 have hc1:=smallDec w1 p1 hv1
 have HB1:=hide hb1
 clear hv1 hb1
 go_wp2_with fail
 refine hc1.mono ?_
 rintro e w2 ⟨b2,o2,c2,rfl,hx2,hb2,hl2⟩
 obtain ⟨km,ks,hb3⟩:=blocks2P w2 (.cells #[.int .u32 9,.int .u32 5,.slice (some ⟨b2,o2,none⟩) 1 c2] 25) (.cells #[.int .i64 0,.int .i64 0] 28)
 have hB2:=HB1.out.trans (hb2.mono HB1.out.size)
 have HB3:=hide (hB2.trans (hb3.mono hB2.size))
 have HM3:=hide km
 have HS3:=hide ks
 have HW2:=hide hB2.size
 clear hb2 hb3 km ks hB2 HB1 hc1
 go_wp2_with fail
 generalize (w2.alloc (.cells #[.int .u32 9,.int .u32 5,.slice (some ⟨b2,o2,none⟩) 1 c2] 25)).alloc (.cells #[.int .i64 0,.int .i64 0] 28)=W3 at *
 generalize w2.heap.size=q2 at *
 clear hx2 hl2
 refine (HC.out W3 HB3.out).mono ?_
 rintro e w4 ⟨rfl,hown4,hb4⟩
 have hc4:=hD w4 _ (View.ofOwn hown4 HL.out)
 have HB4:=hide (HB3.out.trans (hb4.mono HB3.out.size))
 have HM4:=hide (Below.kept hb4 HM3.out)
 have HS4:=hide (Below.kept hb4 HS3.out)
 clear hb4 hown4 HB3 HM3 HS3
 go_wp2_with fail
 refine hc4.mono ?_
 rintro e w5 ⟨hb5,ax,m,cx,rfl,hm,_⟩
 obtain rfl:0=m:=hm
 have hB5:=HB4.out.trans (hb5.mono HB4.out.size)
 have hM5:=Below.kept hb5 HM4.out
 have hS5:=Below.kept hb5 HS4.out
 have x0:=(one_block hM5).1 0
 have x1:=(one_block hM5).1 1
 have x2:=(one_block hM5).1 2
 have f0:=(one_block hM5).2
 have f1:=(one_block hS5).2
 obtain ⟨y0,y1,_⟩:=cell_of_two hS5
 have HB6:=hide (five_below hB5 (q:=q2) (r:=q2+1) HW2.out (by have:=HW2.out;omega) (.int .u32 0) (.int .u32 0) (.slice ax 0 cx) (.int .i64 er) (.int .i64 (ea:Int)))
 clear hB5 hM5 hS5 hb5 hc4 HB4 HM4 HS4
 go_wp2_with fail
 refine (hN _ _ _).mono ?_
 rintro e w6 ⟨rfl,hb6⟩
 go_wp2_with fail
 go_ret
 exact ⟨rfl,HB6.out.trans (hb6.mono HB6.out.size)⟩
set_option maxHeartbeats 8000000 in
theorem wholeBytes_ok (w:World) (a:Option Addr) (n cap:Nat) (zs:List Int) (hl:zs.length=n) (hv:View .u8 w a zs) (hw:Within 256 zs) (hr:1 * n≤140737488351232) (ht:Pow10 w) (he:decE zs=(0,0)) :
  Calls Tryz.prog 6 #[.slice a n cap] w fun e w'=>e=.returned (.bool true)∧Below w.heap.size w w':=by
 have hC:=fun wx (hb:Below w.heap.size w wx)=>copyBytes_any a n cap zs wx (hv.below hb) hl (by omega)
 have hD:=fun wx g (h:View .u8 wx (some ⟨g,0,none⟩) zs)=>decode_any (some ⟨g,0,none⟩) n n zs wx h hl hw
 have hPB:=fun wx g (h:View .u8 wx (some ⟨g,0,none⟩) zs) (hp:Pow10 wx)=>printBytes_any (some ⟨g,0,none⟩) n n zs wx h hl hw hp
 obtain ⟨m1,m2,m3,m4⟩:=enc_dec hw (by rw [he])
 have hdl:=(shape_few (l:=decL zs) (b:=decH zs 3) (by rw [m3])).1
 have hdo:=decL_ok hw
 have hg:=decH_range hw 2
 have hb:=decH_range hw 3
 have ez:txtB zs=strOfNums (textP (decH zs 2) (decH zs 3) (decL zs)):=if_pos (by rw [he])
 rw [ez,he] at hPB
 rw [he] at hD
 obtain ⟨N,hN⟩:∃ N:Nat,decH zs 3=(N:Int):=⟨(decH zs 3).toNat,by omega⟩
 rw [hN] at m3 m4 hb hPB
 rw [hN] at hD
 obtain ⟨S,hS,hsz,hT,hP,hSh⟩:=facts8 (n:=(decL zs).length) (g:=decH zs 2) (N:=N) rfl hdo (by omega) hg hb.2 (by rw [m3])
 have hEn:=fun wx ax c (h:InstsV wx ax (decL zs))=>encode_any (decH zs 2) (N:Int) ax (decL zs).length c (decL zs) wx hg.1 hg.2 hb.1 hb.2 h hdo rfl (by omega)
 rw [m3,m4] at hEn
 rw [← hS] at hPB
 have hCP:=fun wx ax cx (hx:InstsV wx ax (decL zs))=>copyModule_any (decH zs 2) (N:Int) ax (decL zs).length cx (decL zs) wx hx hdo rfl (by omega)
 have hKM:=fun wx ax ay cx cy (h1:InstsV wx ax (decL zs)) (h2:InstsV wx ay (decL zs))=>kitModule_any (decH zs 2) (N:Int) (decH zs 2) (N:Int) (decL zs) (decL zs) ax ay (decL zs).length (decL zs).length cx cy wx h1 h2 rfl rfl hdo hdo (by omega) (by omega) true (by simp)
 generalize decH zs 2=gen at *
 generalize decL zs=l at *
 generalize hk:l.length=k at *
 have HK:=hide hk
 have HBy:=hide fun wx ax (h1:View .u8 wx ax zs) (hb:Below w.heap.size w wx)=>bytes_true ax a n n cap zs wx h1 (hv.below hb) hl (by omega)
 have hszd:decide ((16777216:Int) < (S.size:Int))=false:=by simp;omega
 have HL:=hide hl
 have HC:=hide hC
 have HPW:=hide ht
 have HP:=hide hP
 have HT:=hide hT
 have HSH:=hide hSh
 have HEn:=hide hEn
 have HCP:=hide hCP
 have HKM:=hide hKM
 have HPB:=hide hPB
 unfold modV at *
 clear hl hv hw he hC ht ez m1 m2 m3 m4 hdl hdo hg hb hN hS hP hEn hT hSh hCP hKM hPB hsz hk
 go_enter Tryz.func6,Tryz.ntmps6
 go_wp2_with fail
 refine (smallTop_any _).mono ?_
 rintro e w1 ⟨p1,rfl,hv1,hb1⟩
 have hc1:=smallDec w1 p1 hv1
 have HB1:=hide hb1
 clear hv1 hb1
 go_wp2_with fail
 refine hc1.mono ?_
 rintro e w2 ⟨b2,o2,c2,rfl,hx2,hb2,hl2⟩
 obtain ⟨km,ks,hb3⟩:=blocks2P w2 (.cells #[.int .u32 9,.int .u32 5,.slice (some ⟨b2,o2,none⟩) 1 c2] 25) (.cells #[.int .i64 0,.int .i64 0] 28)
 have hB2:=HB1.out.trans (hb2.mono HB1.out.size)
 have HB3:=hide (hB2.trans (hb3.mono hB2.size))
 have HM3:=hide km
 have HS3:=hide ks
 have HW2:=hide hB2.size
 clear hb2 hb3 km ks hB2 HB1 hc1
 go_wp2_with fail
 generalize (w2.alloc (.cells #[.int .u32 9,.int .u32 5,.slice (some ⟨b2,o2,none⟩) 1 c2] 25)).alloc (.cells #[.int .i64 0,.int .i64 0] 28)=W3 at *
 generalize w2.heap.size=q2 at *
 clear hx2 hl2
 refine (HC.out W3 HB3.out).mono ?_
 rintro e w4 ⟨rfl,hown4,hb4⟩
 have hc4:=hD w4 _ (View.ofOwn hown4 HL.out)
 have HB4:=hide (HB3.out.trans (hb4.mono HB3.out.size))
 have HM4:=hide (Below.kept hb4 HM3.out)
 have HS4:=hide (Below.kept hb4 HS3.out)
 clear hb4 hown4 HB3 HM3 HS3
 go_wp2_with fail
 refine hc4.mono ?_
 rintro e w5 ⟨hb5,ax,m,cx,rfl,hm,hO⟩
 obtain rfl:k=m:=hm
 have hB5:=HB4.out.trans (hb5.mono HB4.out.size)
 have hM5:=Below.kept hb5 HM4.out
 have hS5:=Below.kept hb5 HS4.out
 have x0:=(one_block hM5).1 0
 have x1:=(one_block hM5).1 1
 have x2:=(one_block hM5).1 2
 have f0:=(one_block hM5).2
 have f1:=(one_block hS5).2
 obtain ⟨y0,y1,_⟩:=cell_of_two hS5
 have hB6:=five_below hB5 (q:=q2) (r:=q2+1) HW2.out (by have:=HW2.out;omega) (.int .u32 gen) (.int .u32 (N:Int)) (.slice ax k cx) (.int .i64 0) (.int .i64 0)
 have hp6:=fivePut hM5 hS5 (by omega) gen (N:Int) 0 0 (.slice ax k cx)
 have HB6:=hide (BgB.mk hB6 (HPW.out.below hB6))
 have HM6:=hide (MdB.mk hp6.1 (instsV_five hO.view hM5 (fun z=>by simp) (fun z=>by simp) hS5 (by omega) gen (N:Int) 0 0 (v':=.slice ax k cx)))
 have hz:((0:Nat):Int)=0:=rfl
 clear hB5 hM5 hS5 hb5 hc4 HB4 HM4 HS4 hO hB6 hp6 hD
 go_wp2_with fail
 clear x0 x1 x2 f0 f1 y0 y1
 generalize ((((w5.setCell ⟨q2,0,none⟩ (.int .u32 gen)).setCell ⟨q2,1,none⟩ (.int .u32 (N:Int))).setCell ⟨q2,2,none⟩ (.slice ax k cx)).setCell ⟨q2+1,0,none⟩ (.int .i64 0)).setCell ⟨q2+1,1,none⟩ (.int .i64 0)=W6 at *
 refine (HCP.out W6 ax cx HM6.out.lv).mono ?_
 rintro e w7 ⟨p7,rfl,_,hv7,hb7⟩
 have hc7:=HEn.out w7 (some ⟨p7,0,none⟩) k hv7
 have HB7:=hide (HB6.out.below hb7)
 have HM7:=hide (HM6.out.below hb7)
 clear hb7 hv7 HB6 HM6
 go_wp2_with fail
 refine hc7.mono ?_
 rintro e w8 ⟨hb8,a8,m8,rfl,hm8,hown8⟩
 obtain rfl:n=m8:=by rw [← HL.out];exact hm8
 have hb9:=below_one8 w8 (.cells #[.int .i64 0,.int .i64 0] 28)
 have HB9:=hide ((HB7.out.below hb8).below hb9)
 have HM9:=hide ((HM7.out.below hb8).below hb9)
 have HQ8:=hide ((HB7.out.below hb8).bel.size)
 have HT9:=hide (alloc_new w8 #[.int .i64 0,.int .i64 0] 28)
 have hBy:=HBy.out _ a8 ((View.ofOwn hown8 HL.out).below hb9) HB9.out.bel
 obtain ⟨t0,t1,_⟩:=cell_of_two HT9.out
 clear hc7 hb8 hb9 hm8 hown8 HB7 HM7
 go_wp2_with fail
 clear t0 t1
 generalize w8.alloc (.cells #[.int .i64 0,.int .i64 0] 28)=W9 at *
 generalize w8.heap.size=q8 at *
 refine hBy.mono ?_
 rintro e wA ⟨rfl,dA,rfl⟩
 have hbA:Below W9.heap.size W9 (W9.drewN dA):=bel_drewN (Below.refl _ _) dA
 have HBA:=hide (HB9.out.below hbA)
 have HMA:=hide (HM9.out.below hbA)
 have HTA:=hide (Below.kept hbA HT9.out)
 clear hbA hBy HB9 HM9 HT9
 generalize W9.drewN dA=WA at *
 obtain ⟨m0,m1,m2⟩:=HMA.out.cells
 go_wp2_with fail
 refine (HCP.out WA ax cx HMA.out.lv).mono ?_
 rintro e wB ⟨pB,rfl,_,hvB,hbB⟩
 have hcB:=HSH.out wB pB k hvB
 have HBB:=hide (HBA.out.below hbB)
 have HMB:=hide (HMA.out.below hbB)
 have HTB:=hide (Below.kept hbB HTA.out)
 clear hbB hvB HBA HMA HTA m0 m1 m2 HSH
 go_wp2_with fail
 refine hcB.mono ?_
 rintro e wC ⟨rfl,hbC⟩
 have HBC:=hide (HBB.out.below hbC)
 have HMC:=hide (HMB.out.below hbC)
 have HTC:=hide (Below.kept hbC HTB.out)
 obtain ⟨m0,m1,m2⟩:=HMC.out.cells
 clear hbC hcB HBB HMB HTB
 go_wp2_with fail
 refine (HCP.out wC ax cx HMC.out.lv).mono ?_
 rintro e wD ⟨pD,rfl,_,hvD,hbD⟩
 have hcD:=HT.out wD pD k hvD (HBC.out.below hbD).pw
 have HBD:=hide (HBC.out.below hbD)
 have HMD:=hide (HMC.out.below hbD)
 have HTD:=hide (Below.kept hbD HTC.out)
 clear hbD hvD HBC HMC HTC m0 m1 m2 HT HCP
 go_wp2_with fail
 refine hcD.mono ?_
 rintro e wE ⟨rfl,hbE⟩
 have hbF:=below_one8 wE (.cells #[.int .i64 0,.int .i64 0] 28)
 have HBF:=hide ((HBD.out.below hbE).below hbF)
 have HMF:=hide ((HMD.out.below hbE).below hbF)
 have HTF:=hide (Below.kept hbF (Below.kept hbE HTD.out))
 obtain ⟨u0,u1,_⟩:=cell_of_two (alloc_new wE #[.int .i64 0,.int .i64 0] 28)
 clear hcD hbE hbF HBD HMD HTD
 go_wp2_with fail
 generalize wE.alloc (.cells #[.int .i64 0,.int .i64 0] 28)=WF at *
 generalize wE.heap.size=qE at *
 clear u0 u1
 refine (HP.out WF).mono ?_
 rintro e wG ⟨aG,cG,rfl,hvG,hbG⟩
 obtain ⟨kn,kv,hbH⟩:=blocks2P wG (.cells #[.int .u32 gen,.int .u32 (N:Int),.slice aG k cG] 25) (.cells #[.int .i64 0,.int .i64 0] 28)
 have HBH:=hide ((HBF.out.below hbG).below hbH)
 have HMH:=hide ((HMF.out.below hbG).below hbH)
 have HNH:=hide (MdB.mk kn (hvG.below hbH))
 have HTH:=hide (Below.kept hbH (Below.kept hbG HTF.out))
 have hKM:=HKM.out _ aG ax cG cx HNH.out.lv HMH.out.lv
 obtain ⟨n0,n1',n2⟩:=HNH.out.cells
 obtain ⟨m0,m1,m2⟩:=HMH.out.cells
 obtain ⟨v0,v1,_⟩:=cell_of_two kv
 clear hvG hbG hbH kn kv HBF HMF HTF HP HKM
 go_wp2_with fail
 generalize (wG.alloc (.cells #[.int .u32 gen,.int .u32 (N:Int),.slice aG k cG] 25)).alloc (.cells #[.int .i64 0,.int .i64 0] 28)=WH at *
 generalize wG.heap.size=qG at *
 refine hKM.mono ?_
 rintro e wI ⟨rfl,hbI⟩
 have HBI:=hide (HBH.out.below hbI)
 have HNI:=hide (HNH.out.below hbI)
 have HTI:=hide (Below.kept hbI HTH.out)
 have hcI:=HEn.out wI aG cG HNI.out.lv
 clear n0 n1' n2 m0 m1 m2 v0 v1
 obtain ⟨n0,n1',n2⟩:=HNI.out.cells
 clear hKM hbI HBH HMH HNH HTH HEn
 go_wp2_with fail
 refine hcI.mono ?_
 rintro e wJ ⟨hbJ,aJ,mJ,rfl,hmJ,hownJ⟩
 obtain rfl:n=mJ:=by rw [← HL.out];exact hmJ
 have hTJ:=Below.kept hbJ HTI.out
 have HBJ:=hide (HBI.out.below hbJ)
 have HVJ:=hide (View.ofOwn hownJ HL.out)
 have HTJ:=hide hTJ
 obtain ⟨t0,t1,_⟩:=cell_of_two hTJ
 have f1:=(one_block hTJ).2
 have hBK:=two_set_below HBJ.out.bel HQ8.out (.int .i64 0) (.int .i64 0)
 have HBK:=hide (BgB.mk hBK (HPW.out.below hBK))
 have HVK:=hide (view_two HVJ.out HTJ.out 0 0)
 have HTK:Hid (((wJ.setCell ⟨q8,0,none⟩ (.int .i64 0)).setCell ⟨q8,1,none⟩ (.int .i64 0)).heap[q8]?=some (.cells #[.int .i64 0,.int .i64 0] 28 (0,0))):=by
  have:=set_blockP (set_blockP hTJ 0 (.int .i64 0)) 1 (.int .i64 0)
  exact hide (by simpa using this)
 clear hcI hbJ hmJ hownJ HBI HNI HTI n0 n1' n2 hTJ hBK HBJ HVJ HTJ
 go_wp2_with fail
 clear t0 t1 f1
 generalize (wJ.setCell ⟨q8,0,none⟩ (.int .i64 0)).setCell ⟨q8,1,none⟩ (.int .i64 0)=WK at *
 refine (HC.out WK HBK.out.bel).mono ?_
 rintro e wL ⟨rfl,hownL,hbL⟩
 have HBL:=hide (HBK.out.below hbL)
 have hcL:=HPB.out wL _ (View.ofOwn hownL HL.out) HBL.out.pw
 have HVL:=hide (HVK.out.below hbL)
 have HTL:=hide (Below.kept hbL HTK.out)
 clear hbL hownL HBK HVK HTK HPB
 go_wp2_with fail
 refine hcL.mono ?_
 rintro e wM ⟨rfl,hbM⟩
 have hbO:=below_one8 wM (.cells #[.int .i64 0,.int .i64 0] 28)
 have HBO:=hide ((HBL.out.below hbM).below hbO)
 have HWO:=hide (alloc_new wM #[.int .i64 0,.int .i64 0] 28)
 obtain ⟨t0,t1,_⟩:=cell_of_two (Below.kept hbO (Below.kept hbM HTL.out))
 have hBy:=HBy.out _ aJ ((HVL.out.below hbM).below hbO) HBO.out.bel
 clear hcL hbM hbO HBL HVL HTL HBy
 go_wp2_with fail
 generalize wM.alloc (.cells #[.int .i64 0,.int .i64 0] 28)=WO at *
 generalize wM.heap.size=qM at *
 refine hBy.mono ?_
 rintro e wP ⟨rfl,dP,rfl⟩
 have hbP:Below WO.heap.size WO (WO.drewN dP):=bel_drewN (Below.refl _ _) dP
 have HBP:=hide (HBO.out.below hbP)
 obtain ⟨x0,x1,_⟩:=cell_of_two (Below.kept hbP HWO.out)
 clear hBy hbP HBO HWO t0 t1
 go_wp2_with fail
 go_ret
 exact ⟨rfl,HBP.out.bel⟩
theorem wholeBytes_true (w:World) (a:Option Addr) (n cap:Nat) (zs:List Int) (hl:zs.length=n) (hv:View .u8 w a zs) (hw:Within 256 zs) (hr:1 * n≤140737488351232) (ht:Pow10 w) :
  Calls Tryz.prog 6 #[.slice a n cap] w fun e w'=>e=.returned (.bool true)∧Below w.heap.size w w':=by
 rcases decE_any zs with h | h
 ·exact wholeBytes_ok w a n cap zs hl hv hw hr ht h
 ·exact wholeBytes_bad w a n cap zs hl hv hw hr h
end Go.Proofs.YtddkapkkjhomkabGreatDoor
namespace Go.Proofs.YtddkapkkjhomkabGreatDoor.wholeBytes
open Go.ChangeShapes Go.WideShapes Go.ChangeAt Go.RowKit
open Go.ChangeMaps (open_string shut_string)

theorem own:ownKnob Tryz.prog.godebug=none:=by kernel_rfl
theorem laidOut:laidOutB Tryz.prog=true:=by kernel_rfl
theorem cells0:Tryz.prog.cellsOf 5=1:=by kernel_rfl
theorem bytes0:Tryz.prog.bytesOf 5=1:=by kernel_rfl
theorem gPow:Tryz.prog.globalNamed "internal/strconv.uint64pow10"=some 1:=by kernel_rfl
theorem tPow:(Tryz.prog.globals[1]?).map (·.type)=some 261:=by kernel_rfl
theorem cPow:Tryz.prog.cellsOf 261=20:=by kernel_rfl
theorem cElem:Tryz.prog.cellsOf 136=1:=by kernel_rfl
abbrev laid3:List (String × DataW Unit):=[("math/bits.deBruijn32tab",Rows.laid_math_bits_deBruijn32tab),("math/bits.deBruijn64tab",Rows.laid_math_bits_deBruijn64tab),("internal/strconv.uint64pow10",Rows.laid_internal_strconv_uint64pow10)]
theorem door_met (os:Os) (args:Array Value):laidMetH Tryz.prog laid3 ((World.doorLaid Tryz.prog 400 os).forCall (fun _ _=>0) ⟨#[],args,[]⟩).memory :=
 laidMetH_of_parts3 (fuel:=8) (laidMet_of_run' 8 (by kernel_rfl) (by kernel_rfl)) (by kernel_rfl) (by kernel_rfl)
theorem of_laid {W:World} (h:laidMetH Tryz.prog laid3 W):Pow10 W:=by
 rw [MakeChecks.laidMetH_plain _ _ _ (by kernel_rfl)] at h
 have h3:=(laidMet.tail (laidMet.tail h))
 exact Lib.tabIs_of_head (k:=.u64) (zs:=Lib.pow10Tab) gPow tPow Tryz.underlying261 Tryz.underlying136 cElem cPow h3
set_option maxRecDepth 100000 in
theorem lifted (os:Os) (started:os.Started) (H:Type) (enc:TypeId × Value→H) :
  ReturnsInHanded {} Tryz.checked os 6 .any (fun w args=>(Rows.wholeBytesSpec.pre enc Tryz.prog Tryz.f6 [] false w args∧laidMetH Tryz.prog laid3 w)∧sizedMet enc Tryz.prog Tryz.f6 (OpenSpec.ofChange Rows.wholeBytesSpec) false w args) (Rows.wholeBytesSpec.post enc Tryz.prog Tryz.f6 false true false false):=by
 refine returnsInHanded_of_change_and (C:=Tryz.checked) (X:=fun w _=>laidMetH Tryz.prog laid3 w) (fun _ _ _ hh h=>h.of_heap hh) own started (by kernel_rfl) Tryz.func6
  (ChangeSpec.witness_shaped (enc:=enc) (C:=Tryz.checked) (os:=os) (X:=fun w _=>laidMetH Tryz.prog laid3 w) false (World.doorLaid Tryz.prog 400 os) #[.slice none 0 0] 8 rfl (World.shaped_of_RefB (by kernel_rfl) (by kernel_rfl)) (by kernel_rfl) (by kernel_rfl) (by kernel_rfl) (door_met os _)) ?_
 intro W base args ds gs before hval0 hW _ hsz0 hL _
 have hsz:(DataW.weightsEach Tryz.prog (Tryz.f6.params.toList ++ Rows.wholeBytesSpec.plain.varTypes Tryz.prog) (ds ++ gs)).all (·≤reachBytes)=true:=hsz0
 clear hsz0
 have hval:∀ (j:Nat) t v,Tryz.f6.params[j]?=some t→args[j]?=some v→Value.okWide Tryz.prog W .any base t v:=hval0
 have hW':=hW
 obtain ⟨p,q,hA0,hV,rfl,hfz,hnd⟩:=hW
 have hA:DataW.TrodAll enc Tryz.prog W 0 (fun _=>true) true Tryz.f6.params.toList args.toList ds p:=hA0
 rw [Tryz.params6] at hA hval hsz
 obtain ⟨v0,vs0,d0,ds0,p0,q0,hargs,rfl,rfl,h0,r0⟩:=trodAll_cons hA
 obtain ⟨rfl,rfl,rfl⟩:=trodAll_nil r0
 obtain rfl:args=#[v0]:=by cases args;simp_all
 obtain ⟨rfl,rfl⟩:=trodVars_none hV
 obtain ⟨a0,len0,cap0,rfl⟩:=okWide_slice Tryz.underlying58 (hval 0 58 v0 rfl rfl)
 have k0:=h0
 have lt0:∀ x ∈ p0,x.block < W.heap.size:=by obtain ⟨m,hm⟩:=k0;exact DataW.trod_lt m _ _ _ hm
 obtain ⟨z0,hl0,hv0,hw0,hr0⟩:∃ zs:List Int,zs.length=len0∧View .u8 W a0 zs∧Within 256 zs∧1 * len0≤140737488351232:=by
  obtain ⟨fuel,hf⟩:=h0
  rcases open_ints Tryz.underlying58 Tryz.underlying5 cells0 hf with ⟨hcs,_⟩ | ⟨x,l,c,zs,hcs,_,hl,hm,hz,hx,hcell,hwz⟩
  ·simp [Value.cells] at hcs
   obtain ⟨rfl,rfl,rfl⟩:=hcs
   exact ⟨[],rfl,view_nil,within_nil,by omega⟩
  ·simp [Value.cells] at hcs
   obtain ⟨rfl,rfl,rfl⟩:=hcs
   simp only [Prod.mk.injEq] at hx
   obtain ⟨rfl,rfl⟩:=hx
   simp only [if_true] at hz
   have hs:=sized_slice hsz (j:=0) (t:=58) (e:=5) rfl rfl Tryz.underlying58
   rw [bytes0] at hs
   simp only [lits,List.length_map,List.length_take,List.length_drop,reachBytes] at hs
   exact ⟨zs.take len0,by rw [List.length_take];omega,view_take hcell (by omega),within_take fun z hz=>by have:=bounds_u8 (hwz z hz);omega,by omega⟩
 clear hA0 hval0
 refine (wholeBytes_true W a0 len0 cap0 z0 hl0 hv0 hw0 hr0 (of_laid hL)).mono fun e W' ⟨he,bel⟩=>?_
 subst he
 exact ⟨_,rfl,_,_,_,[],_,[],hW',trodAll_mk1 (shut_bool Tryz.underlying4 _),(trodAll_cons_mk (Below.trod laidOut (by kernel_rfl) (of_decide_eq_true (by kernel_rfl)) k0 bel lt0) trodAll_mk0),rfl,bel.frame _,fun h=>by cases h⟩
theorem over:Rows.wholeBytesRow.holds Tryz.pinned (OpenSpec.ofChange Rows.wholeBytesSpec) :=
 OpenClaim.holds_of_wide 6 Tryz.f6 rfl rfl rfl rfl rfl rfl rfl ⟨rfl,rfl,rfl,rfl,rfl⟩ rfl rfl rfl rfl rfl (by kernel_rfl) Tryz.func6 (by kernel_rfl)
  (of_decide_eq_true (by kernel_rfl)) (by unfold Func.isWrapper;first | (rw [if_pos (by decide +kernel)];kernel_rfl) | (rw [if_neg (by decide +kernel)];exact ⟨rfl,rfl⟩))
  (fun os started H enc _=>lifted os started H enc)
end Go.Proofs.YtddkapkkjhomkabGreatDoor.wholeBytes

namespace Go.Proofs.YtddkapkkjhomkabGreatDoor
theorem wholeBytes_holds:Rows.WholeBytesSaid:=wholeBytes.over
#print axioms wholeBytes_holds
end Go.Proofs.YtddkapkkjhomkabGreatDoor
