/-
  Texts in one: CodeWinst, CodeRaw, CodeRaws, CodeEncode, Slots.
-/
import Derived.Test.YtoebhgpciinkgaaGreatDoorB05
import Derived.Deep.RegionHeld2
namespace Go.Proofs.YtoebhgpciinkgaaGreatDoor
open Go.RowKit
set_option linter.unusedVariables false
set_option linter.unusedSimpArgs false
set_option maxRecDepth 10000
def hasL (has:Bool) (c:Int) (zs:List Int) (n:Int):List Int:=if has then putL c 1 zs [n] else zs
def hasC (has:Bool) (c:Int):Int:=if has then c+1 else c
set_option maxHeartbeats 1000000 in
theorem ownIdW_any (B:Nat) (o:Int) (f:Frm) (b:Int) (zs:List Int) (c:Int) (n:Int) (has:Bool) (wr:Int) (w:World) (hW:Wrt w B o f b zs c) (hc:c+1<9223372036854775808) (hwr:wr≠0) :
  Calls Tryz.prog 174 #[.pointer (some ⟨B,0,none⟩),.int .u32 n,.bool has,.int .i64 wr] w fun e w'=>e=.returned (.int .i64 (idE has n b wr))∧KeepW B w w'∧(idE has n b wr=0→Wrt w' B o f b (hasL has c zs n) (hasC has c))∧(idE has n b wr≠0→Wrt w' B o f b zs c):=by
 by_cases hn:n=0
 ·subst hn
  cases has
  ·have e1:idE false 0 b wr=0:=by simp [idE]
   rw [e1]
   go_enter Tryz.func174,Tryz.ntmps174
   go_wp2
   go_ret
   exact⟨rfl,KeepW.refl _ _,fun _=>hW,fun _=>hW⟩
  ·have e1:idE true 0 b wr=wr:=by simp [idE]
   rw [e1]
   go_enter Tryz.func174,Tryz.ntmps174
   go_wp2
   go_ret
   exact⟨rfl,KeepW.refl _ _,fun h=>absurd h hwr,fun _=>hW⟩
 ·have hn':(n==0)=false:=by simpa using hn
  have hn2:(n != 0)=true:=by simpa using hn
  cases has
  ·have e1:idE false n b wr=wr:=by simp [idE,hn]
   rw [e1]
   go_enter Tryz.func174,Tryz.ntmps174
   go_wp2
   go_ret
   exact⟨rfl,KeepW.refl _ _,fun h=>absurd h hwr,fun _=>hW⟩
  ·have e1:idE true n b wr=faultW 105 n b:=by
    have:kindI 105=1:=by decide
    simp [idE,hn,faultW,this,noneB]
   have hP:=putWord_any B o f b zs c 105 (1,n,⟨#[]⟩) w hW hc
   unfold argV at hP
   simp only at hP
   rw [e1]
   generalize faultW 105 n b=r at *
   clear e1
   go_enter Tryz.func174,Tryz.ntmps174
   go_wp2_with fail
   refine hP.mono ?_
   rintro e w1 ⟨rfl,hk,hw1,hw2⟩
   clear hP
   go_wp2
   go_ret
   exact⟨rfl,hk,hw1,hw2⟩
theorem Wrt.cells {w:World} {B:Nat} {o:Int} {f:Frm} {b:Int} {zs:List Int} {c:Int} (h:Wrt w B o f b zs c):w.cell? ⟨B,0,none⟩=some (.int .u16 o)∧w.cell? ⟨B,2,none⟩=some (.bool f.2.1)∧w.cell? ⟨B,3,none⟩=some (.bool f.2.2.1)∧w.cell? ⟨B,10,none⟩=some (.int .i64 c):=by
 obtain⟨⟨v,h1,h2⟩,h3⟩:=h
 obtain⟨hc,_⟩:=one_block h1
 exact⟨hc 0,hc 2,hc 3,hc 10⟩
def ArgsL (w:World) (B:Nat) (a:Option Addr) (l:List ArgT):Prop :=
 ∀ j,j<l.length→∃ b off,a=some ⟨b,off,none⟩∧b<B∧w.cell? ⟨b,off+j * 3,none⟩=some (.int .u8 (nthA l j).1)∧w.cell? ⟨b,off+j * 3+1,none⟩=some (.int .u32 (nthA l j).2.1)∧w.cell? ⟨b,off+j * 3+2,none⟩=some (.string (nthA l j).2.2)
theorem ArgsL.of {w:World} {a:Option Addr} {l:List ArgT} (h:ArgsV w a l):ArgsL w w.heap.size a l:=h
theorem ArgsL.view {w:World} {B:Nat} {a:Option Addr} {l:List ArgT} (h:ArgsL w B a l) (hB:B≤w.heap.size):ArgsV w a l:=fun j hj=>by
 obtain⟨b,off,e,hlt,h1⟩:=h j hj
 exact⟨b,off,e,by omega,h1⟩
theorem ArgsL.below {w w':World} {B:Nat} {a:Option Addr} {l:List ArgT} (h:ArgsL w B a l) (hb:Below B w w'):ArgsL w' B a l:=fun j hj=>by
 obtain⟨b,off,e,hlt,h1,h2,h3⟩:=h j hj
 exact⟨b,off,e,hlt,(hb.cell (p:=⟨b,off+j * 3,none⟩) hlt).trans h1,(hb.cell (p:=⟨b,off+j * 3+1,none⟩) hlt).trans h2,(hb.cell (p:=⟨b,off+j * 3+2,none⟩) hlt).trans h3⟩
theorem ArgsL.mono {w:World} {B B':Nat} {a:Option Addr} {l:List ArgT} (h:ArgsL w B a l) (hb:B≤B'):ArgsL w B' a l:=fun j hj=>by
 obtain⟨b,off,e,hlt,h1⟩:=h j hj
 exact⟨b,off,e,by omega,h1⟩
theorem ids_words (f:Frm) (t r:Int):hasL f.2.2.1 (hasC f.2.1 1) (hasL f.2.1 1 [] t) r=headW f t r∧hasC f.2.2.1 (hasC f.2.1 1)=1+(headW f t r).length:=by
 cases h1:f.2.1 <;> cases h2:f.2.2.1 <;> simp [hasL,hasC,headW,h1,h2,putL]
theorem four_cells {w:World} {G T:Nat} {a b c d:Value} (h:w.heap[G]?=some (.cells #[a,b,c,d] T (0,0))):w.cell? ⟨G,0,none⟩=some a∧w.cell? ⟨G,1,none⟩=some b∧w.cell? ⟨G,2,none⟩=some c∧w.cell? ⟨G,3,none⟩=some d:=by
 obtain⟨hc,_⟩:=one_block h
 exact⟨hc 0,hc 1,hc 2,hc 3⟩
set_option maxHeartbeats 2000000 in
theorem winst_any (B:Nat) (f:Frm) (b:Int) (x:InstT) (ax:Option Addr) (n cx:Nat) (w:World) (hW:Wrt w B x.1 f b [] 1) (hf:lookF refT x.1=(f,true)) (hok:InstOk x) (hv:ArgsL w B ax x.2.2.2) (hl:x.2.2.2.length=n) :
  Calls Tryz.prog 168 #[.pointer (some ⟨B,0,none⟩),instV x ax n cx] w fun e w'=>e=.returned (.int .i64 (faultI f x b))∧KeepW B w w'∧(faultI f x b=0→∃ c,Wrt w' B x.1 f b (rawL f x) c):=by
 obtain⟨xo,xt,xr,xl⟩:=x
 unfold instV
 simp only at *
 obtain⟨_,_,_,_,_,_,hal,han⟩:=hok
 simp only at *
 have hBl:=hW.lt
 have hb1:Below w.heap.size w (w.alloc (.cells #[.int .u16 xo,.int .u32 xt,.int .u32 xr,.slice ax n cx] 71)):=(Below.refl _ w).alloc (Nat.le_refl _) _
 have hW1:=hW.below hb1
 have hG1:=alloc_new w #[.int .u16 xo,.int .u32 xt,.int .u32 xr,.slice ax n cx] 71
 have hK1:=KeepW.of_below hb1 (Nat.le_of_lt hBl)
 have hO:=fun zs c n has wr wx (h:Wrt wx B xo f b zs c) h2 h3=>ownIdW_any B xo f b zs c n has wr wx h h2 h3
 have HE:Hid (faultI f (xo,xt,xr,xl) b=if idE f.2.1 xt b 40≠0 then idE f.2.1 xt b 40 else if idE f.2.2.1 xr b 41≠0 then idE f.2.2.1 xr b 41 else if wrongL f b 0 xl≠0 then wrongL f b 0 xl else if wholeN f xl.length=false then 42 else if 65535<1+(rawL f (xo,xt,xr,xl)).length then 25 else 0):=rfl
 generalize hfe:faultI f (xo,xt,xr,xl) b=fe at HE ⊢
 clear hfe
 have iw:=ids_words f xt xr
 go_enter Tryz.func168,Tryz.ntmps168
 go_wp2_with fail
 generalize w.alloc (.cells #[.int .u16 xo,.int .u32 xt,.int .u32 xr,.slice ax n cx] 71)=W at *
 have hO1:=hO [] 1 xt f.2.1 40 W.drew (hW1.below (below_drew W)) (by omega) (by omega)
 have c1:=hW1.cells.2.1
 have c2:=(four_cells hG1).2.1
 generalize hr1:idE f.2.1 xt b 40=r1 at *
 go_region_held2 (fun wx=>wx.cell? ⟨B,2,none⟩=some (.bool f.2.1)∧wx.cell? ⟨w.heap.size,1,none⟩=some (.int .u32 xt))
  (first | exact⟨c1,c2⟩ | assumption)
  (first | (go_at_call 174;refine hO1.mono ?_;rintro e w2 ⟨rfl,hk2,hy2,hn2⟩;have hS:w2.cell? ⟨B,2,none⟩=some (.bool f.2.1)∧w2.cell? ⟨w.heap.size,1,none⟩=some (.int .u32 xt):=⟨(by by_cases h:r1=0;exact (hy2 h).cells.2.1;exact (hn2 h).cells.2.1),(four_cells (hk2.keep _ _ _ _ hG1 (by omega) (by decide))).2.1⟩))
 clear hO1 c1 c2
 have hK2:KeepW B w w2:=hK1.trans ((KeepW.of_below (below_drew W) (by have:=hb1.size;omega)).trans hk2)
 have hG2:=hk2.keep _ _ _ _ hG1 (by omega) (by decide)
 clear hk2 hG1 hW1 hK1
 by_cases z1:r1=0
 ·subst z1
  have hW2:=hy2 rfl
  clear hy2 hn2 hS
  go_wp2
  have hO2:=hO (hasL f.2.1 1 [] xt) (hasC f.2.1 1) xr f.2.2.1 41 w2.drew (hW2.below (below_drew w2)) (by unfold hasC;split <;> omega) (by omega)
  rw [iw.1,iw.2] at hO2
  have c1:=hW2.cells.2.2.1
  have c2:=(four_cells hG2).2.2.1
  generalize hr2:idE f.2.2.1 xr b 41=r2 at *
  go_region_held2 (fun wx=>wx.cell? ⟨B,3,none⟩=some (.bool f.2.2.1)∧wx.cell? ⟨w.heap.size,2,none⟩=some (.int .u32 xr))
   (first | exact⟨c1,c2⟩ | assumption)
   (first | (go_at_call 174;refine hO2.mono ?_;rintro e w3 ⟨rfl,hk3,hy3,hn3⟩;have hS:w3.cell? ⟨B,3,none⟩=some (.bool f.2.2.1)∧w3.cell? ⟨w.heap.size,2,none⟩=some (.int .u32 xr):=⟨(by by_cases h:r2=0;exact (hy3 h).cells.2.2.1;exact (hn3 h).cells.2.2.1),(four_cells (hk3.keep _ _ _ _ hG2 (by omega) (by decide))).2.2.1⟩))
  clear hO2 c1 c2
  have hK3:KeepW B w w3:=hK2.trans ((KeepW.of_below (below_drew w2) (by have:=hK2.below.size;omega)).trans hk3)
  have hG3:=hk3.keep _ _ _ _ hG2 (by omega) (by decide)
  clear hk3 hG2 hW2 hK2
  by_cases z2:r2=0
  ·subst z2
   have hW3:=hy3 rfl
   clear hy3 hn3 hS
   have c3:=(four_cells hG3).2.2.2
   have hK3w:=hK3
   go_wp2
   have HF:Hid (lookF refT xo=(f,true)):=hf
   have HL:Hid (xl.length=n):=hl
   have hLt:=fun (k:Nat) (hk:k<140737488351232) w=>grammarLetter_any xo k w (by omega)
   rw [hf] at hLt
   have hsh:=look_noText xo
   rw [hf] at hsh
   obtain⟨hnt,hsf⟩:=hsh
   have hfx:f.2.2.2.1.size≤1000:=by simp [shortF] at hsf;omega
   have hc0:((headW f xt xr).length:Int)≤2:=by
    unfold headW
    cases f.2.1 <;> cases f.2.2.1 <;> simp
   have hn47:n<140737488351232:=by omega
   have hWh:=fun wx (h:ArgsV wx ax xl) (h0:wx.cell? ⟨B,0,none⟩=some (.int .u16 xo)) (hB:B<wx.heap.size)=>formWhole_any B xo ax n cx xl wx hB h0 h hl (by omega)
   rw [hf] at hWh
   have hfeW:∀ v,v≠0→wrongL f b 0 xl=v→fe=v:=fun v hv h=>by rw [HE.out,h];simp [hv]
   have hfeH:wrongL f b 0 xl=0→wholeN f xl.length=false→fe=42:=fun h h2=>by rw [HE.out,h,h2];simp
   have hfeC:wrongL f b 0 xl=0→wholeN f xl.length=true→fe=if 65535<1+(rawL f (xo,xt,xr,xl)).length then 25 else 0:=fun h h2=>by rw [HE.out,h,h2];simp
   clear HE hf hl hsf hO
   go_loopw [41] (fun i wr=>∃ (k:Nat) (zs:List Int) (c:Int),k≤n∧i=.int .i64 k∧Wrt wr B xo f b zs c∧KeepW B w wr∧wr.heap[w.heap.size]?=some (.cells #[.int .u16 xo,.int .u32 xt,.int .u32 xr,.slice ax n cx] 71 (0,0))∧(∀ j,j<k→wrongA (letterI f (j:Int)) (nthA xl j) b=0) ∧
     c=1+(headW f xt xr).length+(wordsL (xl.take k)).length∧(c≤65535→zs=headW f xt xr++wordsL (xl.take k))∧c≤3+k+((min k 1000:Nat):Int) * 140737488351233) (fun i _=>n - (intOf i).toNat)
   case atStart=>exact⟨0,_,_,Nat.zero_le _,rfl,hW3,hK3w,hG3,fun j hj=>by omega,by simp [wordsL],fun _=>by simp [wordsL],by simp;omega⟩
   case round =>
    obtain⟨k,zs,c,hk,rfl,hWr,hKr,hGr,hall,hce,hzs,hcb⟩:=hrel
    clear hW3 hK3 hK3w hG3 c3
    have HALL:Hid (∀ j,j<k→wrongA (letterI f (j:Int)) (nthA xl j) b=0):=hall
    have HCE:Hid (c=1+(headW f xt xr).length+(wordsL (xl.take k)).length):=hce
    have HZS:Hid (c≤65535→zs=headW f xt xr++wordsL (xl.take k)):=hzs
    clear hall hce hzs
    have hBr:=hWr.lt
    have hszr:=hKr.below.size
    have hA:=hv.below hKr.below
    by_cases hlt:k<n
    ·have hkl:k<xl.length:=by rw [HL.out];exact hlt
     obtain⟨b1,o1,rfl,hb1l,p1,p2,p3⟩:=hA k hkl
     have hax:=hal k hkl
     have hL:=hLt k (by omega)
     have hMs:=fun w=>mayStand_any (letterI f (k:Int)) (nthA xl k) w
     have hPW:=fun wx (h:Wrt wx B xo f b zs c)=>putWord_any B xo f b zs c (letterI f (k:Int)) (nthA xl k) wx h (by omega)
     have hPN:=fun wx (h:Wrt wx B xo f b zs c) j hj h0=>putText_nul B xo f b zs c (letterI f (k:Int)) (nthA xl k) wx h j hj h0
     have hPT:=fun wx (h:Wrt wx B xo f b zs c) (hnn:NoNul (nthA xl k).2.2) (h2:(nthA xl k).2.2.size≤140737488351232)=>putText_ok B xo f b zs c (letterI f (k:Int)) (nthA xl k) wx h hnn h2 (by omega)
     have hPu:=fun w=>putter_any B (nthA xl k).1 w
     unfold argV at hMs hPW hPN hPT
     have hki:(k:Int)<(n:Int):=by omega
     have hk0:(0:Int)≤(k:Int):=by omega
     have w0:=hWr.cells.1
     have hwr:∀ v,v≠0→wrongA (letterI f (k:Int)) (nthA xl k) b=v→fe=v:=fun v hv0 h=>hfeW v hv0 (by
      rw [wrongL_first (k:=0) (j:=k) hkl (fun i hi=>by rw [Nat.zero_add];exact HALL.out i hi) (by rw [Nat.zero_add,h];exact hv0),Nat.zero_add,h])
     have hnext:wrongA (letterI f (k:Int)) (nthA xl k) b=0→∀ j,j<k+1→wrongA (letterI f (j:Int)) (nthA xl j) b=0:=fun h j hj=>by
      by_cases hjk:j<k
      ·exact HALL.out j hjk
      ·obtain rfl:j=k:=by omega
       exact h
     have htk:=wordsL_take xl k hkl
     have hkind:kindI (letterI f (k:Int))=3→k<1000:=fun h=>Nat.lt_of_lt_of_le (text_fixed hnt h) hfx
     have HN:Hid (∀ v,v≠0→wrongA (letterI f (k:Int)) (nthA xl k) b=v→fe=v):=hwr
     have HX:Hid (wrongA (letterI f (k:Int)) (nthA xl k) b=0→∀ j,j<k+1→wrongA (letterI f (j:Int)) (nthA xl j) b=0):=hnext
     have HT:Hid (wordsL (xl.take (k+1))=wordsL (xl.take k)++wordsA (nthA xl k)):=htk
     have HKD:Hid (kindI (letterI f (k:Int))=3→k<1000):=hkind
     clear hwr hnext htk hkind hA hWh hfeW hfeH hfeC hLt hnt hfx
     generalize nthA xl k=z at *
     obtain⟨z1,z2,z3⟩:=z
     generalize letterI f (k:Int)=cc at *
     simp only at *
     go_wp2_with fail
     have hb4:Below wr.heap.size wr (wr.alloc (.cells #[.int .u8 z1,.int .u32 z2,.string z3] 87)):=(Below.refl _ wr).alloc (Nat.le_refl _) _
     have kA:=alloc_new wr #[.int .u8 z1,.int .u32 z2,.string z3] 87
     have hl4:wr.heap.size<(wr.alloc (.cells #[.int .u8 z1,.int .u32 z2,.string z3] 87)).heap.size:=by simp
     generalize wr.alloc (.cells #[.int .u8 z1,.int .u32 z2,.string z3] 87)=W4 at *
     refine (hL _).mono ?_
     rintro e w5 ⟨rfl,hb5⟩
     have kA5:=(hb5.block _ hl4).trans kA
     have s5:=hb5.size
     obtain⟨hc5,_⟩:=one_block kA5
     have a0:=hc5 0
     have a1:=hc5 1
     have a2:=hc5 2
     clear hc5 hL
     go_wp2_with fail
     refine (hMs _).mono ?_
     rintro e w6 ⟨rfl,hb6⟩
     have s6:=hb6.size
     have kA6:=(hb6.block _ (by omega)).trans kA5
     have hb46:=hb4.trans ((hb5.trans (hb6.mono s5)).mono (by omega))
     have hW6:=hWr.below hb46
     have hG6:=(hb46.block _ (Array.getElem?_eq_some_iff.1 hGr).1).trans hGr
     have hK6:=hKr.trans (KeepW.of_below hb46 (by omega))
     obtain⟨hc6,_⟩:=one_block kA6
     have d0:=hc6 0
     have d1:=hc6 1
     have d2:=hc6 2
     have HG6:Hid (w6.heap[w.heap.size]?=some (.cells #[.int .u16 xo,.int .u32 xt,.int .u32 xr,.slice (some ⟨b1,o1,none⟩) n cx] 71 (0,0))):=hG6
     have HK6:Hid (KeepW B w w6):=hK6
     have HW6:Hid (Wrt w6 B xo f b zs c):=hW6
     clear hc6 a0 a1 a2 kA5 kA6 kA hb4 hb5 hb6 hMs hb46 hG6 hK6 hW6 hGr hWr hKr p1 p2 p3 hl4 s5 s6
     cases hms:mayStandB cc (z1,z2,z3)
     ·have e1:fe=42:=HN.out 42 (by decide) (by rw [wrongA,if_pos hms])
      subst e1
      clear d0 d1 d2
      go_wp2
      go_ret
      exact⟨rfl,HK6.out,fun h=>by cases h⟩
     ·have HMS:Hid (wrongA cc (z1,z2,z3) b=if z1=3 then (if nulS z3 then 13 else 0) else faultW cc z2 b):=by
       show _=_
       rw [wrongA,hms];simp
      have HKC:Hid (z1=kindI cc):=by
       unfold mayStandB at hms
       simp only [Bool.and_eq_true] at hms
       exact eq_of_beq hms.1.2
      clear hms
      go_wp2_with fail
      refine (hPu _).mono ?_
      rintro e w7 ⟨rfl,rfl⟩
      by_cases k3:z1=3
      ·subst k3
       rw [if_pos rfl]
       cases hnu:nulS z3
       ·have e0:wrongA cc (3,z2,z3) b=0:=by rw [HMS.out,hnu];simp
        have hP:=hPT w6 HW6.out (nulS_false.1 hnu) hax.2.2.2.2
        have hrm:z3.size≤140737488351232:=hax.2.2.2.2
        have hk1:=HKD.out HKC.out.symm
        have hlw:(wordsA (3,z2,z3)).length=z3.size / 4+1:=by rw [wordsA_len];simp
        have hww:wordsA (3,z2,z3)=textW z3:=by rw [wordsA];simp
        obtain⟨m,hm⟩:∃ m,m=z3.size / 4+1:=⟨_,rfl⟩
        rw [← hm] at hP hlw
        have hmb:m≤140737488351232:=by omega
        clear hm
        go_wp2_with fail
        refine hP.mono ?_
        rintro e w8 ⟨rfl,hk8,hW8⟩
        clear hP hPW hPN hPT hPu d0 d1 d2
        go_wp2
        go_roundw
        case rel =>
         refine⟨k+1,_,_,by omega,by go_num,hW8,HK6.out.trans hk8,hk8.keep _ _ _ _ HG6.out (by omega) (by decide),HX.out e0,?_,fun h=>?_,?_⟩
         ·rw [HT.out,List.length_append,hlw,HCE.out];push_cast;omega
         ·rw [putL,if_pos h,HZS.out (by omega),HT.out,hww,List.append_assoc]
         ·push_cast;omega
        case measure=>simp [intOf];omega
       ·have e1:fe=13:=HN.out 13 (by decide) (by rw [HMS.out,hnu];simp)
        subst e1
        obtain⟨j,hj,h0⟩:=nulS_true hnu
        have hP:=hPN w6 HW6.out j hj h0
        go_wp2_with fail
        refine hP.mono ?_
        rintro e w8 ⟨rfl,hk8⟩
        clear hP hPW hPN hPT hPu d0 d1 d2
        go_wp2
        go_ret
        exact⟨rfl,HK6.out.trans hk8,fun h=>by cases h⟩
      ·rw [if_neg k3]
       have hP:=hPW w6 HW6.out
       have HMS2:Hid (wrongA cc (z1,z2,z3) b=faultW cc z2 b):=by show _=_;rw [HMS.out,if_neg k3]
       have hww:wordsA (z1,z2,z3)=[z2]:=by rw [wordsA];simp [k3]
       generalize faultW cc z2 b=r at *
       go_wp2_with fail
       refine hP.mono ?_
       rintro e w8 ⟨rfl,hk8,hy8,_⟩
       clear hP hPW hPN hPT hPu d0 d1 d2
       by_cases hr0:r=0
       ·subst hr0
        have hW8:=hy8 rfl
        go_wp2
        go_roundw
        case rel =>
         refine⟨k+1,_,_,by omega,by go_num,hW8,HK6.out.trans hk8,hk8.keep _ _ _ _ HG6.out (by omega) (by decide),HX.out HMS2.out,?_,fun h=>?_,?_⟩
         ·rw [HT.out,List.length_append,hww,HCE.out];simp;omega
         ·rw [putL,if_pos h,HZS.out (by omega),HT.out,hww,List.append_assoc]
         ·push_cast;omega
        case measure=>simp [intOf];omega
       ·have e1:fe=r:=HN.out r hr0 HMS2.out
        subst e1
        go_wp2
        go_ret
        exact⟨rfl,HK6.out.trans hk8,fun h=>absurd h hr0⟩
    ·obtain rfl:k=n:=by omega
     have hwl:wrongL f b 0 xl=0:=wrongL_none fun i hi=>by rw [Nat.zero_add];exact HALL.out i (by rw [← HL.out];exact hi)
     have hfw:=fits_whole (f:=f) (l:=xl) (fun i hi=>wrongA_kind (HALL.out i (by rw [← HL.out];exact hi)))
     have htk:xl.take k=xl:=List.take_of_length_le (by rw [HL.out];exact Nat.le_refl _)
     have hcR:c=((1+(rawL f (xo,xt,xr,xl)).length:Nat):Int):=by rw [HCE.out,htk,rawL,List.length_append];push_cast;omega
     have hzR:c≤65535→zs=rawL f (xo,xt,xr,xl):=fun h=>by rw [HZS.out h,htk];rfl
     have hfC:=hfeC hwl
     have hfH:=hfeH hwl
     have c3:=(four_cells hGr).2.2.2
     have c10:=hWr.cells.2.2.2
     have hw0:=hWr.cells.1
     have HGR:Hid _:=hGr
     have HKR:Hid (KeepW B w wr):=hKr
     have HWR:Hid (Wrt wr B xo f b zs c):=hWr
     have hV:=hA.view (by omega)
     clear hv hA hGr hKr hWr hfeC hfeH hfeW hLt HALL HCE HZS hwl htk
     go_wp2
     have a3:=fun s:InC (Below wr.heap.size wr)=>s.cell (p:=⟨w.heap.size,3,none⟩) (Array.getElem?_eq_some_iff.1 HGR.out).1 c3
     have hF:=fun s:InC (Below wr.heap.size wr)=>Calls.inC s (hWh s.w (hV.below s.ok) (s.cell (p:=⟨B,0,none⟩) hBr hw0) (by have:=s.ok.size;omega))
     rw [hfw] at hF
     clear hWh hfw
     cases hwh:wholeN f xl.length
     ·have e1:fe=42:=hfH hwh
      subst e1
      rw [hwh] at hF
      refine wp_region_class (C:=Below wr.heap.size wr) (by kernel_rfl) (by kernel_rfl) (below_drew wr) ?_
      have hne:Nonempty (InC (Below wr.heap.size wr)):=⟨⟨wr,Below.refl _ _⟩⟩
      repeat (go_big_quiet_step ((go_at_call 178;exact hF _)))
      refine wpQuiet_nil ?_
      rintro _ ⟨s,rfl⟩
      have hfin:=HKR.out.trans (KeepW.of_below s.ok (by omega))
      clear hne hF a3
      go_wp2
      go_ret
      first | exact⟨rfl,hfin,fun h=>by cases h⟩ | exact⟨rfl,hfin⟩
     ·rw [hwh] at hF
      have hfe:=hfC hwh
      refine wp_region_class (C:=Below wr.heap.size wr) (by kernel_rfl) (by kernel_rfl) (below_drew wr) ?_
      have hne:Nonempty (InC (Below wr.heap.size wr)):=⟨⟨wr,Below.refl _ _⟩⟩
      repeat (go_big_quiet_step ((go_at_call 178;exact hF _)))
      refine wpQuiet_nil ?_
      rintro _ ⟨s,rfl⟩
      have hfin:=HKR.out.trans (KeepW.of_below s.ok (by omega))
      have hW9:=HWR.out.below s.ok
      have k10:=s.cell (p:=⟨B,10,none⟩) hBr c10
      clear hne hF a3 c10 c3
      by_cases hlg:(65535:Int)<c
      ·have e1:fe=25:=by rw [hfe,if_pos (by omega)]
       clear hfe hcR hfC hfH hzR
       subst e1
       go_wp2
       go_ret
       first | exact⟨rfl,hfin,fun h=>by cases h⟩ | exact⟨rfl,hfin⟩
      ·have e1:fe=0:=by rw [hfe,if_neg (by omega)]
       have HZR:Hid (zs=rawL f (xo,xt,xr,xl)):=hzR (by omega)
       clear hfe hcR hfC hfH hzR
       subst e1
       go_wp2
       go_ret
       have hW10:Wrt s.w B xo f b (rawL f (xo,xt,xr,xl)) c:=by rw [← HZR.out];exact hW9
       first | exact⟨rfl,hfin,fun _=>⟨c,hW10⟩⟩ | exact⟨rfl,hfin,⟨c,hW10⟩⟩
  ·have e1:fe=r2:=by rw [HE.out];simp [z2]
   subst e1
   go_wp2
   go_ret
   exact⟨rfl,hK3,fun h=>absurd h z2⟩
 ·have e1:fe=r1:=by rw [HE.out];simp [z1]
  subst e1
  go_wp2
  go_ret
  exact⟨rfl,hK2,fun h=>absurd h z1⟩
def rawO (x:InstT) (b:Int):Int:=if rawE x b=0 then x.1 else 0
theorem two_put2 {w:World} {B T:Nat} {z0 z1:Value} (h:w.heap[B]?=some (.cells #[z0,z1] T (0,0))) (u0 u1:Value) :
  ((w.setCell ⟨B,0,none⟩ u0).setCell ⟨B,1,none⟩ u1).heap[B]?=some (.cells #[u0,u1] T (0,0)):=by
 simp only [World.setCell,Array.getElem?_modify,h];simp
theorem two_below (w:World) (B:Nat) (u0 u1:Value):Below B w ((w.setCell ⟨B,0,none⟩ u0).setCell ⟨B,1,none⟩ u1) :=
 ((Below.refl B w).setCell (Nat.le_refl _) _).setCell (Nat.le_refl _) _
theorem own_lo {w:World} {lo lo' e size n:Nat} {v:Value} {xs:List Value} (h:w.ownsRow lo e size v n xs) (hl:lo'≤lo):w.ownsRow lo' e size v n xs:=by
 refine⟨h.1,?_⟩
 rcases h.2 with hn | ⟨g,cap,cur,e1,hb,rest⟩
 ·exact .inl hn
 ·exact .inr ⟨g,cap,cur,e1,Nat.le_trans hl hb,rest⟩
set_option maxHeartbeats 2000000 in
theorem raw_any (x:InstT) (b:Int) (ax:Option Addr) (n cx:Nat) (w:World) (hv:ArgsV w ax x.2.2.2) (hok:InstOk x) (hl:x.2.2.2.length=n) :
  Calls Tryz.prog 156 #[instV x ax n cx,.int .u32 b] w fun e w'=>Below w.heap.size w w'∧∃ a m c,e=.returned (.tuple #[.agg #[.int .u16 (rawO x b),.slice a m c],.int .i64 (rawE x b)])∧(rawWs x b).length=m ∧
   w'.ownsRow w.heap.size 22 1 (.slice a m c) m ((rawWs x b).map (Value.int .u32)):=by
 have hOf:=fun w=>of_any x.1 w
 obtain⟨f,hf⟩:∃ f,f=(lookF refT x.1).1:=⟨_,rfl⟩
 by_cases h0:(lookF refT x.1).2=true
 ·have hff:lookF refT x.1=(f,true):=by rw [hf,← h0]
  have hE:rawE x b=faultI f x b:=by rw [rawE,if_pos h0,← hf]
  have eV:ofV x.1=formV x.1 f:=by unfold ofV;rw [if_pos h0,← hf]
  rw [hff,eV] at hOf
  have hI:=fun (B:Nat) wx (hW:Wrt wx B x.1 f b [] 1) (h:ArgsL wx B ax x.2.2.2)=>winst_any B f b x ax n cx wx hW hff hok h hl
  rw [← hE] at hI
  have hRW:rawE x b=0→rawWs x b=rawL f x∧rawO x b=x.1:=fun h=>⟨by rw [rawWs,if_pos h,← hf],by rw [rawO,if_pos h]⟩
  have hRN:rawE x b≠0→rawWs x b=[]∧rawO x b=0:=fun h=>⟨by rw [rawWs,if_neg h],by rw [rawO,if_neg h]⟩
  generalize rawE x b=r at *
  generalize rawWs x b=ws at *
  generalize rawO x b=ro at *
  clear hff hE eV h0 hf hok
  obtain⟨xo,xt,xr,xl⟩:=x
  unfold instV at hI ⊢
  unfold formV at hOf
  obtain⟨f1,f2,f3,f4,f5,f6,f7⟩:=f
  simp only at *
  go_enter Tryz.func156,Tryz.ntmps156
  go_wp2_with fail
  have hB0:Below w.heap.size w ((w.alloc (.cells #[.int .u16 xo,.int .u32 xt,.int .u32 xr,.slice ax n cx] 71)).alloc (.cells #[.int .u16 0,.slice none 0 0] 203)):=((Below.refl _ w).alloc (Nat.le_refl _) _).alloc (by simp) _
  have kI:((w.alloc (.cells #[.int .u16 xo,.int .u32 xt,.int .u32 xr,.slice ax n cx] 71)).alloc (.cells #[.int .u16 0,.slice none 0 0] 203)).heap[w.heap.size]?=some (.cells #[.int .u16 xo,.int .u32 xt,.int .u32 xr,.slice ax n cx] 71 (0,0)):=(Below.heap_alloc _ _ _ (by simp)).trans (alloc_new w _ _)
  have kR:((w.alloc (.cells #[.int .u16 xo,.int .u32 xt,.int .u32 xr,.slice ax n cx] 71)).alloc (.cells #[.int .u16 0,.slice none 0 0] 203)).heap[w.heap.size+1]?=some (.cells #[.int .u16 0,.slice none 0 0] 203 (0,0)):=by simpa using alloc_new (w.alloc (.cells #[.int .u16 xo,.int .u32 xt,.int .u32 xr,.slice ax n cx] 71)) #[.int .u16 0,.slice none 0 0] 203
  generalize (w.alloc (.cells #[.int .u16 xo,.int .u32 xt,.int .u32 xr,.slice ax n cx] 71)).alloc (.cells #[.int .u16 0,.slice none 0 0] 203)=W0 at *
  have l0:=(Array.getElem?_eq_some_iff.1 kR).1
  refine (hOf _).mono ?_
  rintro e w1 ⟨rfl,hb1⟩
  have s1:=hb1.size
  have kI1:=(hb1.block _ (by omega)).trans kI
  have kR1:=(hb1.block _ l0).trans kR
  have hb01:=hB0.trans (hb1.mono (by omega))
  clear hb1 kI kR hB0 hOf
  have hb2:Below w1.heap.size w1 (w1.alloc (.cells #[.int .u16 xo,.string f1,.bool f2,.bool f3,.string f4,.string f5,.int .i64 f6,.int .u8 f7] 163)):=(Below.refl _ _).alloc (Nat.le_refl _) _
  have kI2:=(hb2.block _ (by omega)).trans kI1
  have kR2:=(hb2.block _ (by omega)).trans kR1
  have hl2:w1.heap.size<(w1.alloc (.cells #[.int .u16 xo,.string f1,.bool f2,.bool f3,.string f4,.string f5,.int .i64 f6,.int .u8 f7] 163)).heap.size:=by simp
  have hb02:=hb01.trans (hb2.mono (by omega))
  have s02:=hb02.size
  have hW3b:Below (w1.heap.size+1) (w1.alloc (.cells #[.int .u16 xo,.string f1,.bool f2,.bool f3,.string f4,.string f5,.int .i64 f6,.int .u8 f7] 163)) ((w1.alloc (.cells #[.int .u16 xo,.string f1,.bool f2,.bool f3,.string f4,.string f5,.int .i64 f6,.int .u8 f7] 163)).alloc (.cells (wrtC xo (f1,f2,f3,f4,f5,f6,f7) b (.slice none 0 0) 1) 227)):=(Below.refl _ _).alloc (by simp) _
  obtain⟨i0,i1,i2,i3⟩:=four_cells ((hW3b.block _ (by omega)).trans kI2)
  have kW:=alloc_new (w1.alloc (.cells #[.int .u16 xo,.string f1,.bool f2,.bool f3,.string f4,.string f5,.int .i64 f6,.int .u8 f7] 163)) (wrtC xo (f1,f2,f3,f4,f5,f6,f7) b (.slice none 0 0) 1) 227
  rw [World.size_alloc] at kW
  have kI3:=(hW3b.block _ (by omega)).trans kI2
  have kR3:=(hW3b.block _ (by omega)).trans kR2
  have hb03:=hb02.trans (hW3b.mono (by omega))
  have hlW:w1.heap.size+1<((w1.alloc (.cells #[.int .u16 xo,.string f1,.bool f2,.bool f3,.string f4,.string f5,.int .i64 f6,.int .u8 f7] 163)).alloc (.cells (wrtC xo (f1,f2,f3,f4,f5,f6,f7) b (.slice none 0 0) 1) 227)).heap.size:=by simp
  have hWr:Wrt ((w1.alloc (.cells #[.int .u16 xo,.string f1,.bool f2,.bool f3,.string f4,.string f5,.int .i64 f6,.int .u8 f7] 163)).alloc (.cells (wrtC xo (f1,f2,f3,f4,f5,f6,f7) b (.slice none 0 0) 1) 227)) (w1.heap.size+1) xo (f1,f2,f3,f4,f5,f6,f7) b [] 1:=⟨⟨_,kW,World.ownsRow_nil _ _ _ _⟩,by simp,by simp⟩
  have hAr:=((ArgsL.of hv).below hb03).mono (show w.heap.size≤w1.heap.size+1 by omega)
  have hC:=hI (w1.heap.size+1) _ hWr hAr
  clear hWr hAr hI kW kI2 kR2 hb02 hW3b hb2 kI1 kR1 hb01 hv
  unfold wrtC at *
  simp only at *
  go_wp2_with fail
  generalize (w1.alloc (.cells #[.int .u16 xo,.string f1,.bool f2,.bool f3,.string f4,.string f5,.int .i64 f6,.int .u8 f7] 163)).alloc (.cells #[.int .u16 xo,.string f1,.bool f2,.bool f3,.string f4,.string f5,.int .i64 f6,.int .u8 f7,.int .u32 b,.slice none 0 0,.int .i64 1] 227)=W3 at *
  refine hC.mono ?_
  rintro e w4 ⟨rfl,hk4,hy4⟩
  have kI4:=hk4.keep _ _ _ _ kI3 (by omega) (by decide)
  have kR4:=hk4.keep _ _ _ _ kR3 (by omega) (by decide)
  have hb04:=hb03.trans (hk4.below.mono (by omega))
  obtain⟨hcR,hfR⟩:=one_block kR4
  have r0:=hcR 0
  have r1:=hcR 1
  obtain⟨j0,j1,j2,j3⟩:=four_cells kI4
  clear hC kI3 kR3 hb03 i0 i1 i2 i3 kI4 hcR
  by_cases hr:r=0
  ·subst hr
   obtain⟨c,hW4⟩:=hy4 rfl
   obtain⟨⟨v,hbx,hown⟩,_⟩:=hW4
   obtain⟨e1,e2⟩:=hRW rfl
   rw [← e1] at hown
   obtain⟨a',cap',rfl,_,hwl⟩:=View.ofOwned hown
   have hown':=own_lo hown (show w.heap.size+2≤w1.heap.size+1+1 by omega)
   obtain⟨hcW,_⟩:=one_block hbx
   have k9:=hcW 9
   change w4.cell? ⟨w1.heap.size+1,9,none⟩=some (.slice a' ws.length cap') at k9
   have HO:Hid _:=hown
   subst e2
   have HO2:Hid _:=hown'
   clear hRW hRN e1 hbx hcW hy4 hk4 hown hwl hown' HO
   generalize ws.length=m at *
   go_wp2
   have hB3:=two_put2 kR4 (.int .u16 ro) (.slice a' m cap')
   have hBel:=hb04.trans ((two_below w4 (w.heap.size+1) (.int .u16 ro) (.slice a' m cap')).mono (by omega))
   have hO3:=own_lo (ownFar (ownFar HO2.out (show w.heap.size+1<w.heap.size+2 by omega) 0 (.int .u16 ro)) (show w.heap.size+1<w.heap.size+2 by omega) 1 (.slice a' m cap')) (show w.heap.size≤w.heap.size+2 by omega)
   clear hb04 kR4 r0 r1 hfR k9 HO2 j0 j1 j2 j3
   generalize (w4.setCell _ _).setCell _ _=W at hB3 hBel hO3 ⊢
   obtain⟨hd,_⟩:=one_block hB3
   have d0:=hd 0
   have d1:=hd 1
   refine bodyPost_ret (v:=.tuple #[.agg #[.int .u16 ro,.slice a' m cap'],.int .i64 0]) ?_ rfl ⟨hBel,a',m,cap',rfl,?_,hO3⟩
   ·simp [results,Tryz.results156,go_sem,d0,d1]
   ·have:=hO3.1
    simpa using this
  ·obtain⟨e1,e2⟩:=hRN hr
   subst e1 e2
   clear hRW hRN hy4 hk4 j0 j1 j2 j3
   go_wp2
   have hB3:=two_put2 kR4 (.int .u16 0) (.slice none 0 0)
   have hBel:=hb04.trans ((two_below w4 (w.heap.size+1) (.int .u16 0) (.slice none 0 0)).mono (by omega))
   clear hb04 kR4 r0 r1 hfR
   generalize (w4.setCell _ _).setCell _ _=W at hB3 hBel ⊢
   obtain⟨hd,_⟩:=one_block hB3
   have d0:=hd 0
   have d1:=hd 1
   refine bodyPost_ret (v:=.tuple #[.agg #[.int .u16 0,.slice none 0 0],.int .i64 r]) ?_ rfl ⟨hBel,none,0,0,rfl,rfl,World.ownsRow_nil _ _ _ _⟩
   simp [results,Tryz.results156,go_sem,d0,d1]
 ·have hE:rawE x b=30:=by rw [rawE,if_neg h0]
  have hE2:rawWs x b=[]:=by rw [rawWs,hE];rfl
  have hE3:rawO x b=0:=by rw [rawO,hE];rfl
  rw [hE,hE2,hE3]
  have h0':(lookF refT x.1).2=false:=by simpa using h0
  have eV:ofV x.1=formV 0 noFrm:=by unfold ofV;rw [if_neg h0]
  rw [h0',eV] at hOf
  unfold formV noFrm at hOf
  clear hE hE2 hE3 h0 h0' eV hf
  obtain⟨xo,xt,xr,xl⟩:=x
  unfold instV
  simp only at *
  go_enter Tryz.func156,Tryz.ntmps156
  go_wp2_with fail
  have hB0:Below w.heap.size w ((w.alloc (.cells #[.int .u16 xo,.int .u32 xt,.int .u32 xr,.slice ax n cx] 71)).alloc (.cells #[.int .u16 0,.slice none 0 0] 203)):=((Below.refl _ w).alloc (Nat.le_refl _) _).alloc (by simp) _
  have kI:((w.alloc (.cells #[.int .u16 xo,.int .u32 xt,.int .u32 xr,.slice ax n cx] 71)).alloc (.cells #[.int .u16 0,.slice none 0 0] 203)).heap[w.heap.size]?=some (.cells #[.int .u16 xo,.int .u32 xt,.int .u32 xr,.slice ax n cx] 71 (0,0)):=(Below.heap_alloc _ _ _ (by simp)).trans (alloc_new w _ _)
  have kR:((w.alloc (.cells #[.int .u16 xo,.int .u32 xt,.int .u32 xr,.slice ax n cx] 71)).alloc (.cells #[.int .u16 0,.slice none 0 0] 203)).heap[w.heap.size+1]?=some (.cells #[.int .u16 0,.slice none 0 0] 203 (0,0)):=by simpa using alloc_new (w.alloc (.cells #[.int .u16 xo,.int .u32 xt,.int .u32 xr,.slice ax n cx] 71)) #[.int .u16 0,.slice none 0 0] 203
  generalize (w.alloc (.cells #[.int .u16 xo,.int .u32 xt,.int .u32 xr,.slice ax n cx] 71)).alloc (.cells #[.int .u16 0,.slice none 0 0] 203)=W0 at *
  have l0:=(Array.getElem?_eq_some_iff.1 kR).1
  refine (hOf _).mono ?_
  rintro e w1 ⟨rfl,hb1⟩
  have s1:=hb1.size
  have kI1:=(hb1.block _ (by omega)).trans kI
  have kR1:=(hb1.block _ l0).trans kR
  have hb01:=hB0.trans (hb1.mono (by omega))
  clear hb1 kI kR hB0 hOf
  have hb2:Below w1.heap.size w1 (w1.alloc (.cells #[.int .u16 0,.string ⟨#[]⟩,.bool false,.bool false,.string ⟨#[]⟩,.string ⟨#[]⟩,.int .i64 0,.int .u8 0] 163)):=(Below.refl _ _).alloc (Nat.le_refl _) _
  have kR2:=(hb2.block _ (by omega)).trans kR1
  obtain⟨hcR,hfR⟩:=one_block kR2
  have r0:=hcR 0
  have r1:=hcR 1
  have hb02:=hb01.trans (hb2.mono (by omega))
  clear hb2 kI1 kR1 hcR hb01
  go_wp2
  have hB3:=two_put2 kR2 (.int .u16 0) (.slice none 0 0)
  have hBel:=hb02.trans ((two_below _ (w.heap.size+1) (.int .u16 0) (.slice none 0 0)).mono (by omega))
  clear hb02 kR2 r0 r1 hfR
  generalize ((w1.alloc _).setCell _ _).setCell _ _=W at hB3 hBel ⊢
  obtain⟨hd,_⟩:=one_block hB3
  have d0:=hd 0
  have d1:=hd 1
  refine bodyPost_ret (v:=.tuple #[.agg #[.int .u16 0,.slice none 0 0],.int .i64 30]) ?_ rfl ⟨hBel,none,0,0,rfl,rfl,World.ownsRow_nil _ _ _ _⟩
  simp [results,Tryz.results156,go_sem,d0,d1]
set_option maxHeartbeats 2000000 in
/-- Of a bound that may not be. -/
theorem raws_bad (gen bound:Int) (a:Option Addr) (n cap:Nat) (l:List InstT) (w:World) (hg0:0≤gen) (hg1:gen<4294967296) (hb0:0≤bound) (hb1:bound<4294967296) (hv:InstsV w a l) (hok:InstsOk l) (hl:l.length=n) (hn:40 * n≤140737488351232) (h1:bound=0∨65536<bound) :
  Calls Tryz.prog 135 #[modV gen bound a n cap] w fun e w'=>Below w.heap.size w w'∧∃ ax cx m,e=.returned (.tuple #[.slice ax m cx,.agg #[.int .i64 (shapeE bound l).1,.int .i64 (shapeE bound l).2]])∧(rawsR bound l).length=m∧m≤cx∧RawsV w' ax (rawsR bound l):=by
 have hH:=fun w=>headOf_any gen bound a n cap w
 have hW:=fun w=>writeC gen bound none 0 0 [] w hg0 hg1 hb0 hb1 rawsV_nil (fun j hj=>by simp at hj) rfl (by omega) (by omega)
 unfold modV at hH ⊢
 have HL:Hid (l.length=n):=hl
 have e1:writeE bound []=(24,0):=by unfold writeE;rw [if_pos h1]
 have e2:shapeE bound l=(24,0):=by unfold shapeE;rw [if_pos h1]
 have e3:rawsR bound l=[]:=by unfold rawsR;rw [e2];rfl
 rw [e1] at hW
 rw [e2,e3]
 clear e1 e2 e3 h1 hv hok hl
 go_enter Tryz.func135,Tryz.ntmps135
 go_wp2_with fail
 have hB0:Below w.heap.size w ((w.alloc (.cells #[.int .u32 gen,.int .u32 bound,.slice a n cap] 25)).alloc (.cells #[.int .i64 0,.int .i64 0] 30)):=((Below.refl _ w).alloc (Nat.le_refl _) _).alloc (by simp) _
 have kX:((w.alloc (.cells #[.int .u32 gen,.int .u32 bound,.slice a n cap] 25)).alloc (.cells #[.int .i64 0,.int .i64 0] 30)).heap[w.heap.size+1]?=some (.cells #[.int .i64 0,.int .i64 0] 30 (0,0)):=by simpa using alloc_new (w.alloc (.cells #[.int .u32 gen,.int .u32 bound,.slice a n cap] 25)) #[.int .i64 0,.int .i64 0] 30
 generalize (w.alloc (.cells #[.int .u32 gen,.int .u32 bound,.slice a n cap] 25)).alloc (.cells #[.int .i64 0,.int .i64 0] 30)=W0 at *
 have l0:=(Array.getElem?_eq_some_iff.1 kX).1
 refine (hH _).mono ?_
 rintro e w1 ⟨rfl,hb1'⟩
 have s1:=hb1'.size
 go_wp2_with fail
 refine (hW _).mono ?_
 rintro e w2 ⟨hb2,ax,cx,m,rfl,hm,hown⟩
 have s2:=hb2.size
 have hb3:Below w2.heap.size w2 (w2.alloc (.cells #[.int .i64 24,.int .i64 0] 30)):=(Below.refl _ _).alloc (Nat.le_refl _) _
 have hbA:=hb1'.trans ((hb2.trans (hb3.mono s2)).mono s1)
 have kX3:=(hbA.block _ l0).trans kX
 have kS:=alloc_new w2 #[.int .i64 24,.int .i64 0] 30
 have hbW:=hB0.trans (hbA.mono hB0.size)
 obtain⟨c0,c1,_⟩:=cell_of_two kX3
 have f0:=(one_block kX3).2 0
 have f1:=(one_block kX3).2 1
 obtain⟨d0,d1,_⟩:=cell_of_two kS
 have hne:w2.heap.size≠w.heap.size+1:=by omega
 clear hb1' hb2 hb3 hbA hown hm hH hW
 have hz:((0:Nat):Int)=0:=rfl
 go_wp2
 go_region
 go_wp2
 have hB:=two_put2 kX3 (.int .i64 24) (.int .i64 0)
 have hBel:=(hbW.trans ((two_below (w2.alloc (.cells #[.int .i64 24,.int .i64 0] 30)) (w.heap.size+1) (.int .i64 24) (.int .i64 0)).mono (by omega))).drew
 have hB':((((w2.alloc (.cells #[.int .i64 24,.int .i64 0] 30)).setCell ⟨w.heap.size+1,0,none⟩ (.int .i64 24)).setCell ⟨w.heap.size+1,1,none⟩ (.int .i64 0)).drew).heap[w.heap.size+1]?=some (.cells #[.int .i64 24,.int .i64 0] 30 (0,0)):=hB
 clear c0 c1 f0 f1 d0 d1 kX3 kS hB
 generalize (((w2.alloc (.cells #[.int .i64 24,.int .i64 0] 30)).setCell ⟨w.heap.size+1,0,none⟩ (.int .i64 24)).setCell ⟨w.heap.size+1,1,none⟩ (.int .i64 0)).drew=WF at hB' hBel ⊢
 obtain⟨g0,g1,_⟩:=cell_of_two hB'
 refine bodyPost_ret (v:=.tuple #[.slice none 0 0,.agg #[.int .i64 24,.int .i64 0]]) ?_ rfl ⟨hBel,none,0,0,rfl,rfl,Nat.le_refl _,rawsV_nil⟩
 simp [results,Tryz.results135,go_sem,g0,g1]
theorem Raws.info:(Tryz.prog.info? 203).map (fun i=>(i.zero,i.size,i.bytes))=some (some (.agg #[.int .u16 0,.slice none 0 0]),2,32):=by kernel_rfl
structure RawsS (w wr : World) (gen bound : Int) (a : Option Addr) (n cap : Nat) (v : Value) (rs : List (Int × List Int)) : Prop where
  row : ∃ cs, wr.ownsRow (w.heap.size + 2) 203 2 v rs.length cs ∧ RowO wr (w.heap.size + 2) v.ownBlock rs cs
  mbox : wr.heap[w.heap.size]? = some (.cells #[.int .u32 gen, .int .u32 bound, .slice a n cap] 25 (0, 0))
  sbox : wr.heap[w.heap.size + 1]? = some (.cells #[.int .i64 0, .int .i64 0] 30 (0, 0))
  bel : Below w.heap.size w wr
theorem RawsS.below {w wr wr':World} {gen bound:Int} {a:Option Addr} {n cap:Nat} {v:Value} {rs:List (Int×List Int)} (h:RawsS w wr gen bound a n cap v rs) (hb:Below wr.heap.size wr wr'):RawsS w wr' gen bound a n cap v rs:=by
 obtain⟨cs,h1,h2⟩:=h.row
 exact⟨⟨cs,own_below h1 hb,h2.below hb⟩,(hb.block _ (Array.getElem?_eq_some_iff.1 h.mbox).1).trans h.mbox,(hb.block _ (Array.getElem?_eq_some_iff.1 h.sbox).1).trans h.sbox,h.bel.trans (hb.mono h.bel.size)⟩
theorem RawsS.push {w wr W w6:World} {gen bound:Int} {a:Option Addr} {n cap:Nat} {v v':Value} {rs:List (Int×List Int)} {cs:List Value} {op:Int} {ms:List Int} {aj:Option Addr} {nj cj g':Nat} (h:RawsS w wr gen bound a n cap v rs) (h1:wr.ownsRow (w.heap.size+2) 203 2 v rs.length cs) (h2:RowO wr (w.heap.size+2) v.ownBlock rs cs)
  (hb:Below wr.heap.size wr W) (hs:W.ownsRow wr.heap.size 22 1 (.slice aj nj cj) nj (ms.map (Value.int .u32))) (hl:ms.length=nj) (hg:W.grownBy w6 v.ownBlock) (hat:v.ownBlock=some g'∨g'=W.heap.size) (hv':v'.ownBlock=some g')
  (hown:w6.ownsRow (w.heap.size+2) 203 2 v' (rs.length+1) (cs++[.int .u16 op,.slice aj nj cj])):RawsS w w6 gen bound a n cap v' (rs++[(op,ms)]):=by
 have hlo:∀ g,v.ownBlock=some g→w.heap.size+2≤g∧g<wr.heap.size:=fun g e=>h1.lt g e
 have hl1:=(Array.getElem?_eq_some_iff.1 h.sbox).1
 have hS:=h.below hb
 have hl2:=(Array.getElem?_eq_some_iff.1 hS.sbox).1
 refine⟨⟨_,by rw [List.length_append];exact hown,by rw [hv'];exact h2.push hb hs hl (fun b e=>(hlo b e).2) (by omega) hg hat⟩,?_,?_,?_⟩
 ·exact (hg.block _ (by omega) (fun e=>by have:=(hlo _ e.symm).1;omega)).trans hS.mbox
 ·exact (hg.block _ hl2 (fun e=>by have:=(hlo _ e.symm).1;omega)).trans hS.sbox
 ·exact hS.bel.grown hg hS.bel.size (fun k e=>by have:=(hlo k e).1;omega)
theorem spot_store {w wr:World} {gen bound:Int} {a:Option Addr} {n cap:Nat} {v:Value} {rs:List (Int×List Int)} (h:RawsS w wr gen bound a n cap v rs):wr.cell? ⟨w.heap.size+1,0,none⟩=some (.int .i64 0)∧wr.cell? ⟨w.heap.size+1,1,none⟩=some (.int .i64 0)∧wr.frozen? ⟨w.heap.size+1,0,none⟩=false∧wr.frozen? ⟨w.heap.size+1,1,none⟩=false:=by
 obtain⟨hc,hf⟩:=one_block h.sbox
 exact⟨hc 0,hc 1,hf 0,hf 1⟩
set_option maxHeartbeats 4000000 in
/-- Of a bound that may be. -/
theorem raws_ok (gen bound:Int) (a:Option Addr) (n cap:Nat) (l:List InstT) (w:World) (hg0:0≤gen) (hg1:gen<4294967296) (hb0:0≤bound) (hb1:bound<4294967296) (hv:InstsV w a l) (hok:InstsOk l) (hl:l.length=n) (hn:40 * n≤140737488351232) (h1:¬ (bound=0∨65536<bound)) :
  Calls Tryz.prog 135 #[modV gen bound a n cap] w fun e w'=>Below w.heap.size w w'∧∃ ax cx m,e=.returned (.tuple #[.slice ax m cx,.agg #[.int .i64 (shapeE bound l).1,.int .i64 (shapeE bound l).2]])∧(rawsR bound l).length=m∧m≤cx∧RawsV w' ax (rawsR bound l):=by
 obtain⟨i0,hi,hz0,hz1,hz2⟩:=info_parts Raws.info
 have HI:Hid (Tryz.prog.info? 203=some i0∧i0.zero=some (.agg #[.int .u16 0,.slice none 0 0])∧i0.size=2∧i0.bytes=32):=⟨hi,hz0,hz1,hz2⟩
 clear hi hz0 hz1 hz2
 have hH:=fun w=>headOf_any gen bound a n cap w
 have hW:=fun w=>writeC gen bound none 0 0 [] w hg0 hg1 hb0 hb1 rawsV_nil (fun j hj=>by simp at hj) rfl (by omega) (by omega)
 unfold modV at hH ⊢
 have HL:Hid (l.length=n):=hl
 have e1:writeE bound []=(0,0):=by unfold writeE;rw [if_neg h1];rfl
 have e2:writeL gen bound []=[119734787,65536,gen,bound,0]:=by unfold writeL;rw [e1];rfl
 rw [e1,e2] at hW
 have HE:Hid (shapeE bound l=shapeF bound 0 5 l):=by show _=_;unfold shapeE;rw [if_neg h1]
 have HV:Hid (InstsV w a l):=hv
 have HOK:Hid (InstsOk l):=hok
 clear e1 e2 h1 hv hok hl
 obtain⟨E,hE⟩:∃ E,E=shapeE bound l:=⟨_,rfl⟩
 obtain⟨RR,hRR⟩:∃ RR,RR=rawsR bound l:=⟨_,rfl⟩
 rw [← hE,← hRR]
 have HEE:Hid (E=shapeE bound l):=hE
 have HRR:Hid (RR=rawsR bound l):=hRR
 clear hE hRR
 go_enter Tryz.func135,Tryz.ntmps135
 go_wp2_with fail
 have hB0:Below w.heap.size w ((w.alloc (.cells #[.int .u32 gen,.int .u32 bound,.slice a n cap] 25)).alloc (.cells #[.int .i64 0,.int .i64 0] 30)):=((Below.refl _ w).alloc (Nat.le_refl _) _).alloc (by simp) _
 have hS0:RawsS w ((w.alloc (.cells #[.int .u32 gen,.int .u32 bound,.slice a n cap] 25)).alloc (.cells #[.int .i64 0,.int .i64 0] 30)) gen bound a n cap (.slice none 0 0) [] :=
  ⟨⟨[],World.ownsRow_nil _ _ _ _,rowO_nil⟩,(Below.heap_alloc _ _ _ (by simp)).trans (alloc_new w _ _),by simpa using alloc_new (w.alloc (.cells #[.int .u32 gen,.int .u32 bound,.slice a n cap] 25)) #[.int .i64 0,.int .i64 0] 30,hB0⟩
 clear hB0
 generalize (w.alloc (.cells #[.int .u32 gen,.int .u32 bound,.slice a n cap] 25)).alloc (.cells #[.int .i64 0,.int .i64 0] 30)=W0 at *
 refine (hH _).mono ?_
 rintro e w1 ⟨rfl,hb1'⟩
 have hS1:=hS0.below hb1'
 clear hS0 hb1' hH
 go_wp2_with fail
 refine (hW _).mono ?_
 rintro e w2 ⟨hb2,ax,cx,m,rfl,hm,hown⟩
 obtain rfl:5=m:=hm
 have hS2:=hS1.below hb2
 have hS3:=hS2.below ((Below.refl _ w2).alloc (Nat.le_refl _) (.cells #[.int .i64 0,.int .i64 0] 30))
 obtain⟨d0,d1,_⟩:=cell_of_two (alloc_new w2 #[.int .i64 0,.int .i64 0] 30)
 have m2:=(one_block hS3.mbox).1 2
 have HS3:Hid _:=hS3
 clear hS1 hb2 hS2 hS3 hown hW
 go_wp2
 go_loopw [6,7,27] (fun c v i wr=>∃ k:Nat,k≤n∧i=.int .i64 k∧c=.int .i64 (sizeTo (rawsL bound l) k)∧sizeTo (rawsL bound l) k≤1048576∧E=shapeF bound k (sizeTo (rawsL bound l) k) (l.drop k)∧RawsS w wr gen bound a n cap v (rawsL bound (l.take k))) (fun _ _ i _=>n - (intOf i).toNat)
 case atStart=>exact⟨0,Nat.zero_le _,rfl,rfl,by rw [sizeTo_zero];decide,by rw [HEE.out,HE.out,sizeTo_zero];rfl,HS3.out⟩
 case round =>
  obtain⟨k,hk,rfl,rfl,hsz,hEk,hS⟩:=hrel
  clear HS3 d0 d1 m2 HE
  have HEK:Hid (E=shapeF bound k (sizeTo (rawsL bound l) k) (l.drop k)):=hEk
  clear hEk
  have hA:=HV.out.below hS.bel
  obtain⟨a',cap',rfl⟩:∃ a cap,u7=.slice a (rawsL bound (l.take k)).length cap:=by
   obtain⟨cs,h1,_⟩:=hS.row
   rcases h1.2 with ⟨rfl,h0⟩ | ⟨g,cap,cur,rfl,_⟩
   ·exact⟨none,0,by rw [h0]⟩
   ·exact⟨_,_,rfl⟩
  have hlk:(rawsL bound (l.take k)).length=k:=by rw [rawsL_len,List.length_take,HL.out];omega
  rw [hlk] at hS ⊢
  by_cases hlt:k<n
  ·have hkl:k<l.length:=by rw [HL.out];exact hlt
   obtain⟨b1,o1,aj,cj,nj,rfl,hbl,p1,p2,p3,p4,p5,p6,p7⟩:=hA k hkl
   have hEs:=shape_step bound l k hkl
   have hss:=sizeTo_succ (rawsL bound l) k (by rw [rawsL_len];exact hkl)
   rw [nthR_raws bound l k hkl] at hss
   have htk:=rawsL_take bound l k hkl
   have hRn:=HRR.out
   have hox:=HOK.out k hkl
   have hRaw:=fun wx (hx:Below wr.heap.size wr wx)=>raw_any (nthI l k) bound aj nj cj wx (p6.below hx) hox p5
   have hEk:=HEK.out
   rw [hEs] at hEk
   have HEK2:Hid _:=hEk
   have HSS:Hid _:=hss
   have HTK:Hid _:=htk
   have hro:rawE (nthI l k) bound=0→rawO (nthI l k) bound=(nthI l k).1:=fun h=>by unfold rawO;rw [if_pos h]
   clear hEs hss htk HEK hEk hRn hA p6 hox
   generalize hx:nthI l k=x at *
   have hki:(k:Int)<(n:Int):=by omega
   have hk0:(0:Int)≤(k:Int):=by omega
   obtain⟨xo,xt,xr,xl⟩:=x
   unfold instV at hRaw
   simp only at *
   have mb:=(one_block (hS.below ((Below.refl _ wr).alloc (Nat.le_refl _) (.cells #[.int .u16 xo,.int .u32 xt,.int .u32 xr,.slice aj nj cj] 71))).mbox).1 1
   have hbA:Below wr.heap.size wr (wr.alloc (.cells #[.int .u16 xo,.int .u32 xt,.int .u32 xr,.slice aj nj cj] 71)):=(Below.refl _ wr).alloc (Nat.le_refl _) _
   have hC:=hRaw _ hbA
   go_wp2_with fail
   generalize wr.alloc (.cells #[.int .u16 xo,.int .u32 xt,.int .u32 xr,.slice aj nj cj] 71)=WA at *
   refine hC.mono ?_
   rintro e w5 ⟨hb5,a5,m5,c5,rfl,hm5,hown5⟩
   have hbB:Below wr.heap.size wr w5:=hbA.trans (hb5.mono hbA.size)
   have hS5:=hS.below hbB
   have hown5':=own_lo hown5 hbA.size
   clear hC hRaw hb5 hbA mb p1 p2 p3 p4 hown5
   have HM5:Hid _:=hm5
   by_cases hr:rawE (xo,xt,xr,xl) bound=0
   ·have hro':=hro hr
    rw [hr,hro']
    have hEk:=HEK2.out
    rw [if_neg (by simp [hr])] at hEk
    have HEK3:Hid _:=hEk
    clear hro hro' hEk HEK2
    have hbC:Below wr.heap.size wr (w5.alloc (.cells #[.int .u16 xo,.slice a5 m5 c5] 203)):=hbB.alloc hbB.size _
    obtain⟨q0,q1,_⟩:=cell_of_two (alloc_new w5 #[.int .u16 xo,.slice a5 m5 c5] 203)
    have hss:(sizeTo (rawsL bound l) (k+1):Nat)=sizeTo (rawsL bound l) k+1+m5:=by rw [HSS.out,HM5.out]
    have hm5b:m5<65535:=by rw [← HM5.out];exact rawWs_len _ _
    by_cases hbig:1048576<sizeTo (rawsL bound l) (k+1)
    ·have hE4:E=(4,k):=by rw [HEK3.out,if_pos hbig]
     have hbig':(1048576:Int)<(sizeTo (rawsL bound l) k:Int)+(1+(m5:Int)):=by omega
     generalize sizeTo (rawsL bound l) k=sz at *
     clear hbC hbig hss HEK3 HSS HTK hr HM5 hm5
     have hR:RR=[]:=by rw [HRR.out,rawsR,← HEE.out,hE4,if_neg (by first | exact hr | simp)]
     subst hR hE4
     have hS6:=hS5.below ((Below.refl _ w5).alloc (Nat.le_refl _) (.cells #[.int .u16 xo,.slice a5 m5 c5] 203))
     obtain⟨s0,s1,f0,f1⟩:=spot_store hS6
     have hB3:=two_put2 hS6.sbox (.int .i64 4) (.int .i64 (k:Int))
     have hBel:=hS6.bel.trans ((two_below (w5.alloc (.cells #[.int .u16 xo,.slice a5 m5 c5] 203)) (w.heap.size+1) (.int .i64 4) (.int .i64 (k:Int))).mono (by omega))
     have HB3:Hid _:=hB3
     have HBel:Hid _:=hBel
     clear hS6 hS5 hS hbB hown5' hB3 hBel HRR HEE HV HOK
     go_wp2
     have hB3:=HB3.out
     have hBel:=HBel.out
     clear HB3 HBel s0 s1 f0 f1
     generalize ((w5.alloc _).setCell _ _).setCell _ _=W at hB3 hBel ⊢
     obtain⟨hd,_⟩:=one_block hB3
     have d0:=hd 0
     have d1:=hd 1
     refine bodyPost_ret (v:=.tuple #[.slice none 0 0,.agg #[.int .i64 4,.int .i64 (k:Int)]]) ?_ rfl ⟨hBel,none,0,0,rfl,rfl,Nat.le_refl _,rawsV_nil⟩
     simp [results,Tryz.results135,go_sem,d0,d1]
    ·have hE5:E=shapeF bound (k+1) (sizeTo (rawsL bound l) (k+1)) (l.drop (k+1)):=by rw [HEK3.out,if_neg hbig]
     have HE5:Hid _:=hE5
     have hbig':¬ (1048576:Int)<(sizeTo (rawsL bound l) k:Int)+(1+(m5:Int)):=by omega
     have HBG:Hid (sizeTo (rawsL bound l) (k+1)≤1048576):=by show _≤_;omega
     have HSK:Hid ((sizeTo (rawsL bound l) k:Int)+(1+(m5:Int))=(sizeTo (rawsL bound l) (k+1):Nat)):=by show _=_;omega
     obtain⟨cs,hc1,hc2⟩:=hS.row
     have N0:Below wr.heap.size wr ((w5.alloc (.cells #[.int .u16 xo,.slice a5 m5 c5] 203)).alloc (.cells #[.int .u16 xo,.slice a5 m5 c5] 203)):=hbC.alloc hbC.size _
     have N1:Hid (((w5.alloc (.cells #[.int .u16 xo,.slice a5 m5 c5] 203)).alloc (.cells #[.int .u16 xo,.slice a5 m5 c5] 203)).ownsRow (w.heap.size+2) 203 2 (.slice a' k cap') k cs):=own_below (by rw [hlk] at hc1;exact hc1) N0
     have N2:Hid (∀ (j:Nat) (u:Value),[Value.int .u16 xo,.slice a5 m5 c5][j]?=some u→((w5.alloc (.cells #[.int .u16 xo,.slice a5 m5 c5] 203)).alloc (.cells #[.int .u16 xo,.slice a5 m5 c5] 203)).cell? ((⟨w5.heap.size+1,0,none⟩:Addr).add j)=some u):=World.news_of_block (cs:=#[.int .u16 xo,.slice a5 m5 c5]) (t:=203) (fr:=(0,0)) (by first | exact alloc_new _ _ _ | simpa using alloc_new (w5.alloc (.cells #[.int .u16 xo,.slice a5 m5 c5] 203)) #[.int .u16 xo,.slice a5 m5 c5] 203)
     have N3:Hid (∀ u:Value,u∈[Value.int .u16 xo,.slice a5 m5 c5]→u.oneCell'=true):=by intro u hu;simp at hu;rcases hu with rfl | rfl <;> rfl
     have N4:k+1≤maxLen:=by unfold maxLen;omega
     have N5:(k+1) * 32≤140737488355328:=by omega
     have hl1:=(Array.getElem?_eq_some_iff.1 hS.sbox).1
     have N6:Hid (w.heap.size+2≤((w5.alloc (.cells #[.int .u16 xo,.slice a5 m5 c5] 203)).alloc (.cells #[.int .u16 xo,.slice a5 m5 c5] 203)).heap.size):=by show _≤_;have:=N0.size;omega
     have N7:Hid (((w5.alloc (.cells #[.int .u16 xo,.slice a5 m5 c5] 203)).alloc (.cells #[.int .u16 xo,.slice a5 m5 c5] 203)).ownsRow wr.heap.size 22 1 (.slice a5 m5 c5) m5 ((rawWs (xo,xt,xr,xl) bound).map (Value.int .u32))):=own_below (own_below hown5' ((Below.refl _ w5).alloc (Nat.le_refl _) _)) ((Below.refl _ _).alloc (Nat.le_refl _) _)
     have HN0:Hid _:=N0
     have HS:Hid _:=hS
     have HC1:Hid _:=hc1
     have HC2:Hid _:=hc2
     have HLK:Hid _:=hlk
     clear hS hS5 hbB hbC hown5' N0 hc1 hc2 hss hbig hr HEK3 hE5 hm5 hlk hl1
     generalize sizeTo (rawsL bound l) k=sz at *
     go_wp2_with (at_builtin;refine wpList_append_lies _ rfl (.tmp 54) (.tmp 56) 182 rfl (w.heap.size+2) 203 i0 (.agg #[.int .u16 0,.slice none 0 0]) 2 32 Tryz.underlying182 HI.out.1 HI.out.2.1 HI.out.2.2.1 HI.out.2.2.2 rfl (by decide) (.slice a' k cap') k cs rfl N1.out ⟨w5.heap.size+1,0,none⟩ 1 1 [.int .u16 xo,.slice a5 m5 c5] rfl rfl N2.out N3.out (by decide) N4 N5 N6.out _ rfl ?_)
     intro g6 cap6 w6 hown6 hgr6 hat6 hlt6
     have hS6:=HS.out.push (v':=.slice (some ⟨g6,0,none⟩) (k+1) cap6) HC1.out HC2.out HN0.out N7.out HM5.out hgr6 (by simpa using hat6) rfl (by rw [HLK.out];exact hown6)
     rw [← HTK.out] at hS6
     have HS6:Hid _:=hS6
     clear hS6 hown6 hgr6 hat6 N1 N2 N3 N6 N7 HN0 HS HC1 HC2 q0 q1
     go_wp2
     go_roundw
     case rel=>exact⟨k+1,by omega,by go_num,by first | exact congrArg (Value.int .i64) HSK.out | (rw [← HSK.out]),HBG.out,HE5.out,HS6.out⟩
     case measure=>simp [intOf];omega
   ·have hE4:E=(rawE (xo,xt,xr,xl) bound,k):=by rw [HEK2.out,if_pos hr]
    generalize rawE (xo,xt,xr,xl) bound=er at *
    generalize rawO (xo,xt,xr,xl) bound=ro at *
    generalize sizeTo (rawsL bound l) k=sz at *
    clear HEK2 HSS HTK HM5 hm5 hro
    have hR:RR=[]:=by rw [HRR.out,rawsR,← HEE.out,hE4,if_neg (by first | exact hr | simp)]
    subst hR hE4
    have hS6:=hS5.below ((Below.refl _ w5).alloc (Nat.le_refl _) (.cells #[.int .u16 ro,.slice a5 m5 c5] 203))
    obtain⟨s0,s1,f0,f1⟩:=spot_store hS6
    have hB3:=two_put2 hS6.sbox (.int .i64 er) (.int .i64 (k:Int))
    have hBel:=hS6.bel.trans ((two_below (w5.alloc (.cells #[.int .u16 ro,.slice a5 m5 c5] 203)) (w.heap.size+1) (.int .i64 er) (.int .i64 (k:Int))).mono (by omega))
    have HB3:Hid _:=hB3
    have HBel:Hid _:=hBel
    clear hS6 hS5 hS hbB hown5' hB3 hBel HRR HEE HV HOK
    go_wp2
    have hB3:=HB3.out
    have hBel:=HBel.out
    clear HB3 HBel s0 s1 f0 f1
    generalize ((w5.alloc _).setCell _ _).setCell _ _=W at hB3 hBel ⊢
    obtain⟨hd,_⟩:=one_block hB3
    have d0:=hd 0
    have d1:=hd 1
    refine bodyPost_ret (v:=.tuple #[.slice none 0 0,.agg #[.int .i64 er,.int .i64 (k:Int)]]) ?_ rfl ⟨hBel,none,0,0,rfl,rfl,Nat.le_refl _,rawsV_nil⟩
    simp [results,Tryz.results135,go_sem,d0,d1]
  ·obtain rfl:k=n:=by omega
   have hR:RR=rawsL bound (l.take k):=by
    rw [HRR.out,rawsR,← HEE.out,HEK.out,shape_end bound l k _ (by rw [HL.out];exact Nat.le_refl _),if_pos rfl,List.take_of_length_le (by rw [HL.out];exact Nat.le_refl _)]
   have hE0:E=(0,0):=by rw [HEK.out,shape_end bound l k _ (by rw [HL.out];exact Nat.le_refl _)]
   subst hR hE0
   obtain⟨s0,s1,f0,f1⟩:=spot_store hS
   obtain⟨cs,hown,hrow⟩:=hS.row
   rw [hlk] at hown
   have hcap:k≤cap':=by
    rcases hown.2 with ⟨h1,h2⟩ | ⟨g,c',cur,h1,_,_,h4,_⟩
    ·omega
    ·cases h1;exact h4
   have hB3:=two_put2 hS.sbox (.int .i64 0) (.int .i64 0)
   have hBel:=hS.bel.trans ((two_below wr (w.heap.size+1) (.int .i64 0) (.int .i64 0)).mono (by omega))
   have hV3:RawsV ((wr.setCell ⟨w.heap.size+1,0,none⟩ (.int .i64 0)).setCell ⟨w.heap.size+1,1,none⟩ (.int .i64 0)) a' (rawsL bound (l.take k)):=by
    refine ((hrow.grown ((grown_setCell wr (w.heap.size+1) 0 _).trans (grown_setCell _ (w.heap.size+1) 1 _)) (fun g e=>.inl (by cases e;omega))).own (own_apartly hown ((grown_setCell wr (w.heap.size+1) 0 _).trans (grown_setCell _ (w.heap.size+1) 1 _)) (fun g e=>.inl (by cases e;omega))) hlk).view
   have HV3:Hid _:=hV3
   clear hown hrow hV3 HOK HV HRR HEE HEK hA
   go_wp2
   generalize (wr.setCell ⟨w.heap.size+1,0,none⟩ (.int .i64 0)).setCell ⟨w.heap.size+1,1,none⟩ (.int .i64 0)=W at hB3 hBel HV3 ⊢
   obtain⟨hd,_⟩:=one_block hB3
   have d0:=hd 0
   have d1:=hd 1
   refine bodyPost_ret (v:=.tuple #[.slice a' k cap',.agg #[.int .i64 0,.int .i64 0]]) ?_ rfl ⟨hBel,a',cap',k,rfl,by first | exact hlk | rfl,hcap,HV3.out⟩
   simp [results,Tryz.results135,go_sem,d0,d1]
theorem raws_any (gen bound:Int) (a:Option Addr) (n cap:Nat) (l:List InstT) (w:World) (hg0:0≤gen) (hg1:gen<4294967296) (hb0:0≤bound) (hb1:bound<4294967296) (hv:InstsV w a l) (hok:InstsOk l) (hl:l.length=n) (hn:40 * n≤140737488351232) :
  Calls Tryz.prog 135 #[modV gen bound a n cap] w fun e w'=>Below w.heap.size w w'∧∃ ax cx m,e=.returned (.tuple #[.slice ax m cx,.agg #[.int .i64 (shapeE bound l).1,.int .i64 (shapeE bound l).2]])∧(rawsR bound l).length=m∧m≤cx∧RawsV w' ax (rawsR bound l):=by
 by_cases h1:bound=0∨65536<bound
 ·exact raws_bad gen bound a n cap l w hg0 hg1 hb0 hb1 hv hok hl hn h1
 ·exact raws_ok gen bound a n cap l w hg0 hg1 hb0 hb1 hv hok hl hn h1
set_option maxHeartbeats 2000000 in
theorem codeShape_any (gen bound:Int) (a:Option Addr) (n cap:Nat) (l:List InstT) (w:World) (hg0:0≤gen) (hg1:gen<4294967296) (hb0:0≤bound) (hb1:bound<4294967296) (hv:InstsV w a l) (hok:InstsOk l) (hl:l.length=n) (hn:40 * n≤140737488351232) :
  Calls Tryz.prog 114 #[modV gen bound a n cap] w fun e w'=>e=.returned (.agg #[.int .i64 (shapeE bound l).1,.int .i64 (shapeE bound l).2])∧Below w.heap.size w w':=by
 have hR:=fun wx (hb:Below w.heap.size w wx)=>raws_any gen bound a n cap l wx hg0 hg1 hb0 hb1 (hv.below hb) hok hl hn
 generalize (shapeE bound l).1=e1 at *
 generalize (shapeE bound l).2=e2 at *
 have HL:Hid (l.length=n):=hl
 unfold modV at *
 clear hv hok hl
 have hB0:Below w.heap.size w ((w.alloc (.cells #[.int .u32 gen,.int .u32 bound,.slice a n cap] 25)).alloc (.cells #[.int .i64 0,.int .i64 0] 30)):=((Below.refl _ w).alloc (Nat.le_refl _) _).alloc (by simp) _
 have hC:=hR _ hB0
 have kX:((w.alloc (.cells #[.int .u32 gen,.int .u32 bound,.slice a n cap] 25)).alloc (.cells #[.int .i64 0,.int .i64 0] 30)).heap[w.heap.size+1]?=some (.cells #[.int .i64 0,.int .i64 0] 30 (0,0)):=by simpa using alloc_new (w.alloc (.cells #[.int .u32 gen,.int .u32 bound,.slice a n cap] 25)) #[.int .i64 0,.int .i64 0] 30
 have HB0:Hid _:=hB0
 have HX:Hid _:=kX
 clear hR hB0 kX
 go_enter Tryz.func114,Tryz.ntmps114
 go_wp2_with fail
 have hB0:=HB0.out
 have kX:=HX.out
 clear HB0 HX
 generalize (w.alloc (.cells #[.int .u32 gen,.int .u32 bound,.slice a n cap] 25)).alloc (.cells #[.int .i64 0,.int .i64 0] 30)=W0 at *
 refine hC.mono ?_
 rintro e w1 ⟨hb1',ax,cx,m,rfl,hm,_,hV1⟩
 have l0:=(Array.getElem?_eq_some_iff.1 kX).1
 have s1:=hb1'.size
 have hb2:Below W0.heap.size W0 (w1.alloc (.cells #[.int .i64 e1,.int .i64 e2] 30)):=hb1'.alloc s1 _
 have kX2:=(hb2.block _ l0).trans kX
 obtain⟨d0,d1,_⟩:=cell_of_two (alloc_new w1 #[.int .i64 e1,.int .i64 e2] 30)
 obtain⟨hcX,hfX⟩:=one_block kX2
 have c0:=hcX 0
 have c1:=hcX 1
 have f0:=hfX 0
 have f1:=hfX 1
 have hBel:=hB0.trans (hb2.mono hB0.size)
 have hB3:=two_put2 kX2 (.int .i64 e1) (.int .i64 e2)
 have hBel2:=hBel.trans ((two_below (w1.alloc (.cells #[.int .i64 e1,.int .i64 e2] 30)) (w.heap.size+1) (.int .i64 e1) (.int .i64 e2)).mono (by omega))
 have HB3:Hid _:=hB3
 have HBel2:Hid _:=hBel2
 have hne:w1.heap.size≠w.heap.size+1:=by omega
 clear hC hb1' hb2 kX kX2 hcX hfX hB0 hBel hB3 hBel2 hV1 hm
 go_wp2
 have hB3:=HB3.out
 have hBel:=HBel2.out
 clear HB3 HBel2 c0 c1 f0 f1 d0 d1
 generalize ((w1.alloc _).setCell _ _).setCell _ _=W at hB3 hBel ⊢
 obtain⟨hd,_⟩:=one_block hB3
 have d0:=hd 0
 have d1:=hd 1
 refine bodyPost_ret (v:=.agg #[.int .i64 e1,.int .i64 e2]) ?_ rfl ⟨rfl,hBel⟩
 simp [results,Tryz.results114,go_sem,d0,d1]
end Go.Proofs.YtoebhgpciinkgaaGreatDoor
namespace Go.Proofs.YtoebhgpciinkgaaGreatDoor
open Go
theorem hide {p:Prop} (h:p):Go.RowKit.Hid p:=h
def slot (t:Array Value) (i:Nat):Value:=t.getD i undef
theorem frame_eq (t:Array Value) (n:Nat) (h:t.size=n):t=((List.range n).map (slot t)).toArray:=by
 apply Array.ext
 ·simp [h]
 ·intro i h1 h2
  simp [slot,Array.getD,h1]
def onNormal (K:Act→World→Prop):Exit→Act→World→Prop
 | .normal,a,w=>K a w
 | _,_,_=>False
theorem onNormal_normal (K:Act→World→Prop) (a:Act) (w:World):onNormal K .normal a w=K a w:=rfl
theorem wp_norm {P:Program} {c:Code} {Q:Exit→Act→World→Prop} {a:Act} {w:World} (h:c.wp P (onNormal (Q .normal)) a w):c.wp P Q a w :=
 wp_mono h fun e a w h=>by
  cases e with
  | normal=>exact h
  | _=>exact False.elim h
end Go.Proofs.YtoebhgpciinkgaaGreatDoor
