/-
  Texts in one: WordsText, WordsText2, SlicesClone, Ref01Byte, Ref01Text, WordsTextSame, WordsReader, WordsReaderCalls, CodeRarg.
-/
import Derived.Test.YtonhnflilfjkbaaGreatDoorB06
namespace Go.Proofs.YtonhnflilfjkbaaGreatDoor
open Go.RowKit
set_option maxRecDepth 10000
theorem text_none (a:Option Addr) (n cap:Nat) (zs:List Int) (w:World) (ha:View .u32 w a zs) (hl:zs.length=n) (hw:Within 4294967296 zs) (hn:4 * n≤281474976710656) (h:∀ i,i<4 * n→nth (joinL zs) i≠0) :
  Calls Tryz.prog 181 #[.slice a n cap] w fun e w'=>e=.returned (.tuple #[.string ⟨#[]⟩,.int .i64 0,.int .i64 11])∧w=w':=by
 have hT:=textEnd_none a n cap zs w ha hl hw hn h
 clear ha hl hw h
 go_enter Tryz.func181,Tryz.ntmps181
 go_wp2_with fail
 refine hT.mono ?_
 rintro e w' ⟨rfl,rfl⟩
 go_wp2
 go_ret3
 exact⟨rfl,rfl⟩
set_option maxHeartbeats 1000000 in
theorem text_pad (a:Option Addr) (n cap:Nat) (zs:List Int) (w:World) (L P:Nat) (ha:View .u32 w a zs) (hl:zs.length=n) (hw:Within 4294967296 zs) (hn:4 * n≤281474976710656)
  (hL:L<n) (hP:P<4) (h:∀ i,i<4 * L+P→nth (joinL zs) i≠0) (h0:nth (joinL zs) (4 * L+P)=0) (hpad:nth zs L / 256 ^ P≠0) :
  Calls Tryz.prog 181 #[.slice a n cap] w fun e w'=>e=.returned (.tuple #[.string ⟨#[]⟩,.int .i64 0,.int .i64 12])∧w=w':=by
 have hT:=textEnd_at a n cap zs w L P ha hl hw hn hL hP h h0
 obtain⟨b,off,rfl,_,hc⟩:=ha L (by omega)
 have hx:=hw.at (k:=L) (by omega)
 clear ha hl hw h h0
 generalize nth zs L=x at hc hx hpad
 have hx0:=hx.1
 have hx1:=hx.2
 have hLi:(L:Int)<(n:Int):=by omega
 rcases (show P=0∨P=1∨P=2∨P=3 by omega) with rfl | rfl | rfl | rfl
 ·have hne:(x==0)=false:=by simpa using hpad
  clear hx hpad
  go_enter Tryz.func181,Tryz.ntmps181
  go_wp2_with fail
  refine hT.mono ?_
  rintro e w' ⟨rfl,rfl⟩
  go_wp2
  go_ret3
  exact⟨rfl,rfl⟩
 ·have hne:(x / 256==0)=false:=by simpa using hpad
  clear hx hpad
  go_enter Tryz.func181,Tryz.ntmps181
  go_wp2_with fail
  refine hT.mono ?_
  rintro e w' ⟨rfl,rfl⟩
  go_wp2
  go_ret3
  exact⟨rfl,rfl⟩
 ·have hne:(x / 65536==0)=false:=by simpa using hpad
  clear hx hpad
  go_enter Tryz.func181,Tryz.ntmps181
  go_wp2_with fail
  refine hT.mono ?_
  rintro e w' ⟨rfl,rfl⟩
  go_wp2
  go_ret3
  exact⟨rfl,rfl⟩
 ·have hne:(x / 16777216==0)=false:=by simpa using hpad
  clear hx hpad
  go_enter Tryz.func181,Tryz.ntmps181
  go_wp2_with fail
  refine hT.mono ?_
  rintro e w' ⟨rfl,rfl⟩
  go_wp2
  go_ret3
  exact⟨rfl,rfl⟩
set_option maxHeartbeats 1000000 in
theorem text_ok (a:Option Addr) (n cap:Nat) (zs:List Int) (w:World) (L P:Nat) (ha:View .u32 w a zs) (hl:zs.length=n) (hw:Within 4294967296 zs) (hn:4 * n≤281474976710656) (hLb:4 * (L+1)≤140737488351232) (hcap:n≤cap)
  (hL:L<n) (hP:P<4) (h:∀ i,i<4 * L+P→nth (joinL zs) i≠0) (h0:nth (joinL zs) (4 * L+P)=0) (hpad:nth zs L / 256 ^ P=0) :
  Calls Tryz.prog 181 #[.slice a n cap] w fun e w'=>e=.returned (.tuple #[.string (strOfNums ((joinL zs).take (4 * L+P))),.int .i64 ((L:Int)+1),.int .i64 0])∧Below w.heap.size w w':=by
 have hT:=textEnd_at a n cap zs w L P ha hl hw hn hL hP h h0
 have hJ:=join_any a (L+1) cap (zs.take (L+1)) w (ha.take _) (by rw [List.length_take];omega) hLb (within_of_take hw)
 obtain⟨b,off,rfl,_,hc⟩:=ha L (by omega)
 have hx:=hw.at (k:=L) (by omega)
 have e1:joinL (zs.take (L+1))=(joinL zs).take (4 * (L+1)):=joinL_take zs (L+1)
 have hlen:(joinL zs).length=4 * n:=by rw [joinL_len,hl]
 rw [e1] at hJ
 clear ha hl hw h h0 e1
 generalize nth zs L=x at hc hx hpad
 generalize joinL zs=js at *
 have hx0:=hx.1
 have hx1:=hx.2
 have hLi:(L:Int)<(n:Int):=by omega
 have HJL:Hid (js.length=4 * n):=hlen
 have HC:Hid (∀ (w':World),w'.ownsRow w.heap.size 5 1 (.slice (some ⟨w.heap.size,0,none⟩) (4 * (L+1)) (4 * (L+1))) (4 * (L+1)) ((js.take (4 * (L+1))).map (Value.int .u8)) →
   (convert 44 9 (.slice (some ⟨w.heap.size,0,none⟩) (4 * L+P) (4 * (L+1)))).run Tryz.prog w'=.ok (.string (strOfNums (js.take (4 * L+P)))) w'):=fun w' hown=>by
  refine run_convert_bytes_arg w' _ _ Tryz.underlying44 Tryz.underlying5 w.heap.size 0 (4 * L+P) (4 * (L+1)) (js.take (4 * L+P)) (by rw [List.length_take,HJL.out];omega) (fun i hi=>?_) _ Tryz.underlying9
  obtain⟨b',off',e,_,hcell⟩:=View.ofRow hown (by rw [List.length_take,HJL.out];omega) i (by rw [List.length_take,HJL.out];omega)
  simp at e
  obtain⟨rfl,rfl⟩:=e
  rw [hcell,nth_take _ _ _ (by omega)]
  have:=nth_take js i (4 * L+P) hi
  rw [← this];rfl
 clear hlen
 rcases (show P=0∨P=1∨P=2∨P=3 by omega) with rfl | rfl | rfl | rfl
 ·have hne:x=0:=by simpa using hpad
  have hne':(x==0)=true:=by simpa using hne
  clear hx hpad hne
  go_enter Tryz.func181,Tryz.ntmps181
  go_wp2_with fail
  refine hT.mono ?_
  rintro e w' ⟨rfl,rfl⟩
  go_wp2_with fail
  refine hJ.mono ?_
  rintro e w1 ⟨rfl,hown,hb⟩
  have hcv:=HC.out w1 hown
  rw [Nat.add_zero] at hcv
  rw [Nat.add_zero]
  clear hown HC hT hJ
  go_wp2
  go_ret3
  exact⟨rfl,hb⟩
 ·have hne:x / 256=0:=by simpa using hpad
  have hne':(x / 256==0)=true:=by simpa using hne
  clear hx hpad hne
  go_enter Tryz.func181,Tryz.ntmps181
  go_wp2_with fail
  refine hT.mono ?_
  rintro e w' ⟨rfl,rfl⟩
  go_wp2_with fail
  refine hJ.mono ?_
  rintro e w1 ⟨rfl,hown,hb⟩
  have hcv:=HC.out w1 hown
  clear hown HC hT hJ
  go_wp2
  go_ret3
  exact⟨rfl,hb⟩
 ·have hne:x / 65536=0:=by simpa using hpad
  have hne':(x / 65536==0)=true:=by simpa using hne
  clear hx hpad hne
  go_enter Tryz.func181,Tryz.ntmps181
  go_wp2_with fail
  refine hT.mono ?_
  rintro e w' ⟨rfl,rfl⟩
  go_wp2_with fail
  refine hJ.mono ?_
  rintro e w1 ⟨rfl,hown,hb⟩
  have hcv:=HC.out w1 hown
  clear hown HC hT hJ
  go_wp2
  go_ret3
  exact⟨rfl,hb⟩
 ·have hne:x / 16777216=0:=by simpa using hpad
  have hne':(x / 16777216==0)=true:=by simpa using hne
  clear hx hpad hne
  go_enter Tryz.func181,Tryz.ntmps181
  go_wp2_with fail
  refine hT.mono ?_
  rintro e w' ⟨rfl,rfl⟩
  go_wp2_with fail
  refine hJ.mono ?_
  rintro e w1 ⟨rfl,hown,hb⟩
  have hcv:=HC.out w1 hown
  clear hown HC hT hJ
  go_wp2
  go_ret3
  exact⟨rfl,hb⟩
theorem text_any (a:Option Addr) (n cap:Nat) (zs:List Int) (w:World) (ha:View .u32 w a zs) (hl:zs.length=n) (hw:Within 4294967296 zs) (hn:4 * n≤140737488351232) (hcap:n≤cap) :
  Calls Tryz.prog 181 #[.slice a n cap] w fun e w'=>e=.returned (.tuple #[.string (textI zs).1,.int .i64 (textI zs).2.1,.int .i64 (textI zs).2.2])∧Below w.heap.size w w':=by
 have hj:(joinL zs).length=4 * n:=by rw [joinL_len,hl]
 by_cases h:(joinL zs).length≤zeroAt (joinL zs)
 ·refine (text_none a n cap zs w ha hl hw (by omega) fun i hi=>zeroAt_before _ _ (by omega) (by omega)).mono ?_
  rintro e w' ⟨rfl,rfl⟩
  refine⟨?_,Below.refl _ _⟩
  rw [textI,if_pos h]
 ·have hz:zeroAt (joinL zs)<(joinL zs).length:=by omega
  obtain⟨L,P,hP,hN⟩:∃ L P,P<4∧zeroAt (joinL zs)=4 * L+P:=⟨zeroAt (joinL zs) / 4,zeroAt (joinL zs) % 4,by omega,by omega⟩
  have hL:L<n:=by omega
  have hx:=hw.at (k:=L) (by omega)
  have hrest:=rest_zero (nth zs L) P hP hx.1 hx.2
  have h0:nth (joinL zs) (4 * L+P)=0:=by rw [← hN];exact zeroAt_at _ hz
  have hbyte:∀ q,q<4→nth (joinL zs) (4 * L+q)=byt (nth zs L) q:=fun q hq=>by
   rw [joinL_getD _ _ (by rw [hl];omega),show (4 * L+q) / 4=L by omega,show (4 * L+q) % 4=q by omega]
  have hbef:∀ i,i<4 * L+P→nth (joinL zs) i≠0:=fun i hi=>zeroAt_before _ _ (by omega) (by omega)
  have hpi:=padBad_iff hN hP (by omega)
  by_cases hpad:nth zs L / 256 ^ P=0
  ·have hp:¬ padBad (joinL zs)=true:=fun h=>by
    obtain⟨q,h1,h2,h3⟩:=hpi.1 h
    rw [hbyte q h2] at h3
    exact h3 (hrest.1 hpad q (by omega) (by omega))
   refine (text_ok a n cap zs w L P ha hl hw (by omega) (by omega) hcap hL hP hbef h0 hpad).mono ?_
   rintro e w' ⟨rfl,hb⟩
   refine⟨?_,hb⟩
   rw [textI,if_neg h,if_neg hp,hN,show (4 * L+P) / 4=L by omega]
  ·have hp:padBad (joinL zs)=true:=by
    apply Classical.byContradiction
    intro hno
    apply hpad
    apply hrest.2
    intro q hq1 hq2
    by_cases e:q=P
    ·subst e;rw [← hbyte q hq2];exact h0
    ·apply Classical.byContradiction
     intro hne
     exact hno (hpi.2 ⟨q,by omega,hq2,by rw [hbyte q hq2];exact hne⟩)
   refine (text_pad a n cap zs w L P ha hl hw (by omega) hL hP hbef h0 hpad).mono ?_
   rintro e w' ⟨rfl,rfl⟩
   refine⟨?_,Below.refl _ _⟩
   rw [textI,if_neg h,if_pos hp]
theorem Clone.info:(Tryz.prog.info? 22).map (fun i=>(i.zero,i.size,i.bytes))=some (some (.int .u32 0),1,4):=by kernel_rfl
set_option maxHeartbeats 400000 in
theorem clone_some (x:Addr) (n cap:Nat) (zs:List Int) (w:World) (hv:View .u32 w (some x) zs) (hl:zs.length=n) (hn:4 * n≤140737488351232) :
  Calls Tryz.prog 104 #[.slice (some x) n cap] w fun e w'=>∃ g cx,e=.returned (.slice (some ⟨g,0,none⟩) n cx) ∧
   w'.ownsRow w.heap.size 22 1 (.slice (some ⟨g,0,none⟩) n cx) n (zs.map (Value.int .u32))∧Below w.heap.size w w':=by
 obtain⟨i0,hi,hz0,hz1,hz2⟩:=info_parts Clone.info
 have hnn:=fun w=>Lib.run_eql_slice_nil (P:=Tryz.prog) w 52 22 (some x) n cap 0 0 Tryz.underlying52
 simp only [Option.isNone_some] at hnn
 have hbs:∀ w,(Instr.buildSlice 52 0 #[]).run Tryz.prog w=.ok (.slice (some ⟨w.heap.size,0,none⟩) 0 0) (w.alloc (.cells #[] 22)):=fun w=>by kernel_rfl
 have hown0:(w.alloc (.cells #[] 22)).ownsRow w.heap.size 22 1 (.slice (some ⟨w.heap.size,0,none⟩) 0 0) 0 []:=World.ownsRow_lit w #[] 0 (Nat.le_refl _) (by unfold maxLen;omega) rfl
 have hnews:∀ j u,(zs.map (Value.int .u32))[j]?=some u→(w.alloc (.cells #[] 22)).cell? (x.add j)=some u:=by
  intro j u hj
  rw [List.getElem?_map] at hj
  have hjl:j<zs.length:=by
   rcases Nat.lt_or_ge j zs.length with h | h
   ·exact h
   ·rw [List.getElem?_eq_none h] at hj;simp at hj
  obtain⟨b,off,e,hb,hc⟩:=hv j hjl
  simp at e
  subst e
  rw [Addr.add_lit,World.cell?_alloc_past _ _ _ hb,hc,← hj,List.getElem?_eq_getElem hjl]
  simp [nth,List.getD,hjl]
 have HL:Hid (zs.length=n):=hl
 clear hl hv
 go_enter Tryz.func104,Tryz.ntmps104
 go_wp2_with (at_builtin;refine wpList_append_own _ rfl (.tmp 5) (.tmp 6) 52 rfl w.heap.size 22 i0 (.int .u32 0) 1 4 Tryz.underlying52 hi hz0 hz1 hz2 rfl (by decide) _ _ _ rfl hown0 x n cap (zs.map (Value.int .u32)) rfl (by rw [List.length_map,HL.out];omega) hnews (ints_oneCell .u32 zs) (by unfold maxLen;omega) (by omega) (by simp) ?_)
 intro v' w1 hown1 hgrow1 hnil1
 have hb1:Below w.heap.size w w1:=((Below.refl _ w).alloc (Nat.le_refl _) _).grown hgrow1 (by simp) (fun k hk=>by simp [Value.ownBlock] at hk;omega)
 have hex:∃ g cx,v'=.slice (some ⟨g,0,none⟩) n cx:=by
  rcases hown1.2 with ⟨h1,_⟩ | ⟨g,cx,cur,h1,_⟩
  ·exact absurd h1 hnil1
  ·exact⟨g,cx,h1⟩
 obtain⟨g,cx,hv'⟩:=hex
 rw [hv'] at hown1 ⊢
 clear hnil1 hgrow1 hnews hown0
 go_wp2
 go_ret
 exact⟨g,cx,rfl,hown1,hb1⟩
set_option maxHeartbeats 400000 in
theorem refByte_nat (a:Option Addr) (n cap:Nat) (zs:List Int) (w:World) (k:Nat) (ha:View .u32 w a zs) (hl:zs.length=n) (hw:Within 4294967296 zs) (hn:4 * n≤140737488351232) (hk:k<4 * n) :
  Calls Tryz.prog 162 #[.slice a n cap,.int .i64 k] w fun e w'=>e=.returned (.int .u8 (nth (joinL zs) k))∧w=w':=by
 have HJ:Hid (nth (joinL zs) k=byt (nth zs (k / 4)) (k % 4)):=joinL_getD zs k (by omega)
 obtain⟨b,off,rfl,_,c⟩:=ha (k / 4) (by omega)
 have hx:=hw.at (k:=k / 4) (by omega)
 obtain⟨X,hX⟩:∃ X,X=nth zs (k / 4):=⟨_,rfl⟩
 rw [← hX] at c hx
 have HX:Hid (X=nth zs (k / 4)):=hX
 have hx0:=hx.1
 have hx1:=hx.2
 clear ha hw hX hx hl
 have i0:(0:Int)≤(k:Int) / 4:=by omega
 have i1:(k:Int) / 4<(n:Int):=by omega
 have ei:((k:Int) / 4).toNat=k / 4:=by omega
 go_enter Tryz.func162,Tryz.ntmps162
 go_wp2
 go_loop [5,6] (fun x i=>∃ j:Nat,j≤k % 4∧i=.int .i64 j∧x=.int .u32 (X / 256 ^ j)) (fun _ i=>4 - (intOf i).toNat)
 case atStart=>exact⟨0,Nat.zero_le _,rfl,by simp⟩
 case round =>
  obtain⟨j,hj,rfl,rfl⟩:=hrel
  have y0:=div_pow_lo X j hx0
  have y1:=div_pow_hi X j _ hx0 hx1
  have HS:Hid (X / 256 ^ j / 256=X / 256 ^ (j+1)):=div_pow_succ X j
  have HB:Hid (byt X j=X / 256 ^ j % 256):=rfl
  generalize X / 256 ^ j=y at y0 y1 HS HB
  by_cases hlt:j<k % 4
  ·have hlt':(j:Int)<(k:Int) % 4:=by omega
   go_wp2
   go_round
   case rel=>exact⟨j+1,by omega,by go_num,by rw [HS.out]⟩
   case measure=>simp [intOf];omega
  ·have hlt':(k:Int) % 4≤(j:Int):=by omega
   go_wp2
   go_ret
   obtain rfl:j=k % 4:=by omega
   exact⟨ret_int (by rw [HJ.out,← HX.out,HB.out]),rfl⟩
theorem RefText.info:(Tryz.prog.info? 5).map (fun i=>(i.zero,i.size,i.bytes))=some (some (.int .u8 0),1,1):=by kernel_rfl
set_option maxHeartbeats 1000000 in
theorem refText_none (a:Option Addr) (n cap:Nat) (zs:List Int) (w:World) (ha:View .u32 w a zs) (hl:zs.length=n) (hw:Within 4294967296 zs) (hn:4 * n≤140737488351232) (h:∀ i,i<4 * n→nth (joinL zs) i≠0) :
  Calls Tryz.prog 139 #[.slice a n cap] w fun e w'=>e=.returned (.tuple #[.string ⟨#[]⟩,.int .i64 0,.int .i64 11])∧w=w':=by
 have HB:∀ k:Nat,k<4 * n→Calls Tryz.prog 162 #[.slice a n cap,.int .i64 k] w fun e w'=>e=.returned (.int .u8 (nth (joinL zs) k))∧w=w' :=
  fun k hk=>refByte_nat a n cap zs w k ha hl hw hn hk
 generalize joinL zs=js at HB h
 have H0:Hid (∀ i,i<4 * n→nth js i≠0):=h
 clear ha hl hw h
 go_enter Tryz.func139,Tryz.ntmps139
 go_wp2
 go_loop [5] (fun i=>∃ k:Nat,k≤4 * n∧i=.int .i64 k) (fun i=>4 * n - (intOf i).toNat)
 case atStart=>exact⟨0,Nat.zero_le _,rfl⟩
 case round =>
  obtain⟨k,hk,rfl⟩:=hrel
  by_cases hlt:k<4 * n
  ·have hcall:=HB k hlt
   have hne:(nth js k==0)=false:=by simp;exact H0.out k hlt
   generalize nth js k=x at hcall hne
   have hki:(k:Int)<4 * (n:Int):=by omega
   clear HB
   go_wp2_with (go_at_call 162;refine hcall.mono ?_;rintro e w' ⟨rfl,rfl⟩)
   go_round
   case rel=>exact⟨k+1,by omega,by go_num⟩
   case measure=>simp [intOf];omega
  ·obtain rfl:k=4 * n:=by omega
   have hki:¬ (4 * (n:Int))<4 * (n:Int):=by omega
   have hke:((4 * (n:Int))==4 * (n:Int))=true:=by simp
   go_wp2
   go_ret3
   exact⟨rfl,rfl⟩
set_option maxHeartbeats 1000000 in
theorem refText_pad (a:Option Addr) (n cap:Nat) (zs:List Int) (w:World) (L P M:Nat) (ha:View .u32 w a zs) (hl:zs.length=n) (hw:Within 4294967296 zs) (hn:4 * n≤140737488351232)
  (hL:L<n) (hP:P<4) (h:∀ i,i<4 * L+P→nth (joinL zs) i≠0) (h0:nth (joinL zs) (4 * L+P)=0) (hM1:4 * L+P<M) (hM2:M<4 * L+4) (hM:nth (joinL zs) M≠0) :
  Calls Tryz.prog 139 #[.slice a n cap] w fun e w'=>e=.returned (.tuple #[.string ⟨#[]⟩,.int .i64 0,.int .i64 12])∧w=w':=by
 have HB:∀ k:Nat,k<4 * n→Calls Tryz.prog 162 #[.slice a n cap,.int .i64 k] w fun e w'=>e=.returned (.int .u8 (nth (joinL zs) k))∧w=w' :=
  fun k hk=>refByte_nat a n cap zs w k ha hl hw hn hk
 generalize joinL zs=js at HB h h0 hM
 have HN:Hid (∀ i,i<4 * L+P→nth js i≠0):=h
 have H0:Hid (nth js (4 * L+P)=0):=h0
 have HM:Hid (nth js M≠0):=hM
 clear ha hl hw h h0 hM
 go_enter Tryz.func139,Tryz.ntmps139
 go_wp2
 go_loop [5] (fun i=>∃ k:Nat,k≤4 * L+P∧i=.int .i64 k) (fun i=>4 * n - (intOf i).toNat)
 case atStart=>exact⟨0,Nat.zero_le _,rfl⟩
 case round =>
  obtain⟨k,hk,rfl⟩:=hrel
  have hki:(k:Int)<4 * (n:Int):=by omega
  have hcall:=HB k (by omega)
  by_cases hlt:k<4 * L+P
  ·have hne:(nth js k==0)=false:=by simp;exact HN.out k hlt
   generalize nth js k=x at hcall hne
   clear HB
   go_wp2_with (go_at_call 162;refine hcall.mono ?_;rintro e w' ⟨rfl,rfl⟩)
   go_round
   case rel=>exact⟨k+1,by omega,by go_num⟩
   case measure=>simp [intOf];omega
  ·have ek:k=4 * L+P:=by omega
   rw [show nth js k=0 by rw [ek];exact H0.out] at hcall
   have hke:((k:Int)==4 * (n:Int))=false:=by simp;omega
   have EK:Hid (k=4 * L+P):=ek
   clear ek
   go_wp2_with (go_at_call 162;refine hcall.mono ?_;rintro e w' ⟨rfl,rfl⟩)
   go_loop [6] (fun i=>∃ j:Nat,4 * L+P<j∧j≤M∧i=.int .i64 j) (fun i=>4 * n - (intOf i).toNat)
   case atStart=>exact⟨k+1,by have:=EK.out;omega,by have:=EK.out;omega,by go_num⟩
   case round =>
    obtain⟨j,hj1,hj2,rfl⟩:=hrel
    have hjc:=HB j (by omega)
    have hjm:(((j:Int) % 4)==0)=false:=by simp;omega
    clear hcall
    by_cases hx:nth js j=0
    ·rw [hx] at hjc
     have hjM:j≠M:=fun e=>HM.out (by rw [← e];exact hx)
     go_wp2_with (go_at_call 162;refine hjc.mono ?_;rintro e w' ⟨rfl,rfl⟩)
     go_round
     case rel=>exact⟨j+1,by omega,by omega,by go_num⟩
     case measure=>simp [intOf];omega
    ·have hne:(nth js j==0)=false:=by simp;exact hx
     generalize nth js j=x at hjc hne
     clear hx HB
     go_wp2_with (go_at_call 162;refine hjc.mono ?_;rintro e w' ⟨rfl,rfl⟩)
     go_ret3
     exact⟨rfl,rfl⟩
set_option maxRecDepth 10000 in
set_option maxHeartbeats 1000000 in
theorem refText_ok (a:Option Addr) (n cap:Nat) (zs:List Int) (w:World) (L P:Nat) (ha:View .u32 w a zs) (hl:zs.length=n) (hw:Within 4294967296 zs) (hn:4 * n≤140737488351232)
  (hL:L<n) (hP:P<4) (h:∀ i,i<4 * L+P→nth (joinL zs) i≠0) (h0:nth (joinL zs) (4 * L+P)=0) (hM:∀ i,4 * L+P<i→i<4 * L+4→nth (joinL zs) i=0) :
  Calls Tryz.prog 139 #[.slice a n cap] w fun e w'=>e=.returned (.tuple #[.string (strOfNums ((joinL zs).take (4 * L+P))),.int .i64 ((L:Int)+1),.int .i64 0])∧Below w.heap.size w w':=by
 obtain⟨i0,hi,hz0,hz1,hz2⟩:=info_parts RefText.info
 have HB:∀ wx,Below w.heap.size w wx→∀ k:Nat,k<4 * n→Calls Tryz.prog 162 #[.slice a n cap,.int .i64 k] wx fun e w'=>e=.returned (.int .u8 (nth (joinL zs) k))∧wx=w' :=
  fun wx hx k hk=>refByte_nat a n cap zs wx k (ha.below hx) hl hw hn hk
 have HJL:Hid ((joinL zs).length=4 * n):=by rw [joinL_len,hl];rfl
 generalize joinL zs=js at HB h h0 hM HJL ⊢
 have HN:Hid (∀ i,i<4 * L+P→nth js i≠0):=h
 have H0:Hid (nth js (4 * L+P)=0):=h0
 have HM:Hid (∀ i,4 * L+P<i→i<4 * L+4→nth js i=0):=hM
 clear ha hl hw h h0 hM
 go_enter Tryz.func139,Tryz.ntmps139
 go_wp2
 go_loop [5] (fun i=>∃ k:Nat,k≤4 * L+P∧i=.int .i64 k) (fun i=>4 * n - (intOf i).toNat)
 case atStart=>exact⟨0,Nat.zero_le _,rfl⟩
 case round =>
  obtain⟨k,hk,rfl⟩:=hrel
  have hki:(k:Int)<4 * (n:Int):=by omega
  have hcall:=HB w (Below.refl _ _) k (by omega)
  by_cases hlt:k<4 * L+P
  ·have hne:(nth js k==0)=false:=by simp;exact HN.out k hlt
   generalize nth js k=x at hcall hne
   clear HB
   go_wp2_with (go_at_call 162;refine hcall.mono ?_;rintro e w' ⟨rfl,rfl⟩)
   go_round
   case rel=>exact⟨k+1,by omega,by go_num⟩
   case measure=>simp [intOf];omega
  ·have ek:k=4 * L+P:=by omega
   rw [show nth js k=0 by rw [ek];exact H0.out] at hcall
   have hke:((k:Int)==4 * (n:Int))=false:=by simp;omega
   have EK:Hid (k=4 * L+P):=ek
   clear ek
   go_wp2_with (go_at_call 162;refine hcall.mono ?_;rintro e w' ⟨rfl,rfl⟩)
   go_loop [6] (fun i=>∃ j:Nat,4 * L+P<j∧j≤4 * L+4∧i=.int .i64 j) (fun i=>4 * n+4 - (intOf i).toNat)
   case atStart=>exact⟨k+1,by have:=EK.out;omega,by have:=EK.out;omega,by go_num⟩
   case round =>
    obtain⟨j,hj1,hj2,rfl⟩:=hrel
    clear hcall
    by_cases hjl:j<4 * L+4
    ·have hjc:=HB w (Below.refl _ _) j (by omega)
     have hjm:(((j:Int) % 4)==0)=false:=by simp;omega
     rw [HM.out j hj1 hjl] at hjc
     go_wp2_with (go_at_call 162;refine hjc.mono ?_;rintro e w' ⟨rfl,rfl⟩)
     go_round
     case rel=>exact⟨j+1,by omega,by omega,by go_num⟩
     case measure=>simp [intOf];omega
    ·have hjm:(((j:Int) % 4)==0)=true:=by simp;omega
     go_wp2_with (at_make;refine wpList_make_full _ rfl _ _ 44 rfl w.heap.size 5 i0 (.int .u8 0) 1 Tryz.underlying44 hi hz0 hz1 _ _ _ _ k rfl rfl (by omega) (by omega) (by rw [hz2];omega) (by unfold maxLen;omega) (Nat.le_refl _) ?_)
     intro w1 hown1 hgrow1
     have hb1:Below w.heap.size w w1:=(Below.refl _ w).grown hgrow1 (Nat.le_refl _) (by simp)
     have hr1:=made_row (js.take k) hown1
     clear hown1 hgrow1
     have HTL:Hid ((js.take k).length=k):=by show (js.take k).length=k;rw [List.length_take,HJL.out];omega
     go_wp2
     go_loopw [8] (fun i wr=>∃ t:Nat,t≤k∧i=.int .i64 t∧wr.ownsRow w.heap.size 5 1 (.slice (some ⟨w.heap.size,0,none⟩) k k) k ((filled (js.take k) t k).map (Value.int .u8))∧Below w.heap.size w wr)
      (fun i _=>k - (intOf i).toNat)
     case atStart=>exact⟨0,Nat.zero_le _,rfl,hr1,hb1⟩
     case round =>
      obtain⟨t,ht,rfl,hown,hnx⟩:=hrel
      clear hr1 hb1
      by_cases htl:t<k
      ·obtain⟨d1,d2,d3⟩:=fill_step hown htl (by rw [HTL.out];exact htl)
       have htc:=HB wr hnx t (by omega)
       rw [nth_take _ _ _ htl] at d3
       generalize nth js t=x at htc d3
       clear hown HB
       go_wp2_with (go_at_call 162;refine htc.mono ?_;rintro e w' ⟨rfl,rfl⟩)
       go_roundw
       case rel=>exact⟨t+1,by omega,by go_num,d3,hnx.setCell (Nat.le_refl _) _⟩
       case measure=>simp [intOf];omega
      ·obtain rfl:t=k:=by omega
       rw [filled_whole _ _ HTL.out] at hown
       have hcv:(convert 44 9 (.slice (some ⟨w.heap.size,0,none⟩) t t)).run Tryz.prog wr=.ok (.string (strOfNums (js.take t))) wr:=by
        refine run_convert_bytes_arg wr _ _ Tryz.underlying44 Tryz.underlying5 w.heap.size 0 t t (js.take t) HTL.out (fun i hi=>?_) _ Tryz.underlying9
        obtain⟨b',off',e,_,hcell⟩:=View.ofRow hown HTL.out i (by rw [HTL.out];exact hi)
        simp at e
        obtain⟨rfl,rfl⟩:=e
        exact hcell
       have hdiv:(t:Int) / 4=(L:Int):=by have:=EK.out;omega
       clear hown HB
       go_wp2
       go_ret3
       exact⟨by rw [← EK.out];rfl,hnx⟩

structure Rdr (W0 w : World) (gr ga n cw p : Nat) (zs : List Int) : Prop where
  rd : Rd 200 W0 w gr (.slice (some ⟨ga, 0, none⟩) n cw) p
  view : View .u32 W0 (some ⟨ga, 0, none⟩) zs
  apart : ga ≠ gr
  len : zs.length = n
  le : p ≤ n
  room : n ≤ cw
  small : 4 * n ≤ 140737488351232
  within : Within 4294967296 zs
theorem Rdr.words {W0 w:World} {gr ga n cw p:Nat} {zs:List Int} (h:Rdr W0 w gr ga n cw p zs):View .u32 w (some ⟨ga,0,none⟩) zs :=
 h.rd.view h.view (fun b off s e=>by simp at e;have:=h.apart;omega)
theorem Rdr.below {W0 w w':World} {gr ga n cw p:Nat} {zs:List Int} (h:Rdr W0 w gr ga n cw p zs) (hb:Below w.heap.size w w'):Rdr W0 w' gr ga n cw p zs :=
 ⟨h.rd.below hb,h.view,h.apart,h.len,h.le,h.room,h.small,h.within⟩
theorem Rdr.set {W0 w:World} {gr ga n cw p:Nat} {zs:List Int} (h:Rdr W0 w gr ga n cw p zs) (q:Nat) (u:Int) (hu:u=(q:Int)) (hq:q≤n):Rdr W0 (w.setCell ⟨gr,1,none⟩ (.int .i64 u)) gr ga n cw q zs :=
 ⟨h.rd.set q u hu,h.view,h.apart,h.len,hq,h.room,h.small,h.within⟩
theorem Rdr.drew {W0 w:World} {gr ga n cw p:Nat} {zs:List Int} (h:Rdr W0 w gr ga n cw p zs) (q:Nat):Rdr W0 (w.drewN q) gr ga n cw p zs:=h.below (bel_drewN (Below.refl _ _) q)
theorem left_any {W0 w:World} {gr ga n cw p:Nat} {zs:List Int} (h:Rdr W0 w gr ga n cw p zs) :
  Calls Tryz.prog 166 #[.pointer (some ⟨gr,0,none⟩)] w fun e w'=>e=.returned (.int .i64 ((n:Int) - p))∧∃ q,w'=w.drewN q:=by
 obtain⟨c0,c1,f1⟩:=cell_of_two h.rd.box
 have hle:=h.le
 have hsm:=h.small
 clear h
 go_enter Tryz.func166,Tryz.ntmps166
 go_wp2
 go_quiet (fail)
 go_wp2
 go_ret
 exact⟨rfl,_,rfl⟩
set_option maxHeartbeats 1000000 in
/-- A word is taken. -/
theorem take_word {W0 w:World} {gr ga n cw p:Nat} {zs:List Int} (m:Int) (h:Rdr W0 w gr ga n cw p zs) (hp:p<n) :
  Calls Tryz.prog 176 #[.pointer (some ⟨gr,0,none⟩),.int .i64 0,.int .i64 m] w fun e w'=>∃ c,e=.returned (.tuple #[.slice (some ⟨ga,p,none⟩) 1 c,.string ⟨#[]⟩,.int .i64 0])∧Rdr W0 w' gr ga n cw (p+1) zs:=by
 obtain⟨c0,c1,f1⟩:=cell_of_two h.rd.box
 have hle:=h.le
 have hsm:=h.small
 have hrm:=h.room
 have hne:¬ cw=p:=by omega
 have hp1:(1:Int)≤(n:Int) - (p:Int):=by omega
 have hp2:¬ ((n:Int) - (p:Int)<1):=by omega
 have hcap:(1:Int)≤((cw - p:Nat):Int):=by omega
 have hpn:(p:Int)≤(n:Int):=by omega
 have H:Hid (Rdr W0 w gr ga n cw p zs):=h
 clear h
 go_enter Tryz.func176,Tryz.ntmps176
 go_wp2
 go_quiet (fail)
 go_wp2
 go_ret3
 exact⟨_,rfl,(H.out.drew _).set (p+1) _ (by omega) hp⟩
set_option maxHeartbeats 1000000 in
/-- No word is left. -/
theorem take_end {W0 w:World} {gr ga n cw:Nat} {zs:List Int} (m:Int) (h:Rdr W0 w gr ga n cw n zs) :
  Calls Tryz.prog 176 #[.pointer (some ⟨gr,0,none⟩),.int .i64 0,.int .i64 m] w fun e w'=>e=.returned (.tuple #[.slice none 0 0,.string ⟨#[]⟩,.int .i64 14])∧∃ q,w'=w.drewN q:=by
 obtain⟨c0,c1,f1⟩:=cell_of_two h.rd.box
 have hsm:=h.small
 have hrm:=h.room
 obtain⟨sa,hsa⟩:∃ sa,(if cw=n then some (⟨ga,0,none⟩:Addr) else some ⟨ga,n,none⟩)=sa:=⟨_,rfl⟩
 have hnn:n - n=0:=Nat.sub_self n
 clear h
 go_enter Tryz.func176,Tryz.ntmps176
 go_wp2
 go_quiet (fail)
 go_wp2
 go_ret3
 exact⟨rfl,_,rfl⟩
set_option maxHeartbeats 1000000 in
/-- A text is asked for, and there is an error. -/
theorem take_text_no {W0 w:World} {gr ga n cw p:Nat} {zs:List Int} (m:Int) (h:Rdr W0 w gr ga n cw p zs) (s:ByteArray) (k er:Int) (her:er≠0)
  (hT:∀ b cb w2,n - p≤cb→View .u32 w2 b (zs.drop p)→Calls Tryz.prog 181 #[.slice b (n - p:Nat) cb] w2 fun e w'=>e=.returned (.tuple #[.string s,.int .i64 k,.int .i64 er])∧Below w2.heap.size w2 w') :
  Calls Tryz.prog 176 #[.pointer (some ⟨gr,0,none⟩),.int .i64 1,.int .i64 m] w fun e w'=>e=.returned (.tuple #[.slice none 0 0,.string ⟨#[]⟩,.int .i64 er])∧Below w.heap.size w w':=by
 obtain⟨c0,c1,f1⟩:=cell_of_two h.rd.box
 have hle:=h.le
 have hsm:=h.small
 have hrm:=h.room
 have HLZ:Hid (zs.length=n):=h.len
 obtain⟨sa,hsa,hsav⟩:∃ sa,(if cw=p then some (⟨ga,0,none⟩:Addr) else some ⟨ga,p,none⟩)=some sa∧Hid (∀ wx,View .u32 wx (some ⟨ga,0,none⟩) zs→View .u32 wx (some sa) (zs.drop p)):=by
  by_cases e:cw=p
  ·refine⟨⟨ga,0,none⟩,by rw [if_pos e],fun wx _=>?_⟩
   rw [List.drop_of_length_le (by rw [HLZ.out];omega)]
   exact view_nil
  ·refine⟨⟨ga,p,none⟩,by rw [if_neg e],fun wx hv=>?_⟩
   have:=View.drop hv p
   rw [Nat.zero_add] at this
   exact this
 have hpn:(p:Int)≤(n:Int):=by omega
 have he:(er==0)=false:=by simpa using her
 have H:Hid (Rdr W0 w gr ga n cw p zs):=h
 clear h her
 go_enter Tryz.func176,Tryz.ntmps176
 go_wp2
 go_quiet (fail)
 go_wp2_with fail
 refine (hT (some sa) (cw - p) (w.drewN nq) (by omega) (hsav.out _ (H.out.drew nq).words)).mono ?_
 rintro e w1 ⟨rfl,hb1⟩
 go_wp2
 go_ret3
 exact⟨rfl,(bel_drewN (Below.refl _ w) nq).trans hb1⟩
set_option maxHeartbeats 1000000 in
/-- A text is taken. -/
theorem take_text_yes {W0 w:World} {gr ga n cw p:Nat} {zs:List Int} (m:Int) (h:Rdr W0 w gr ga n cw p zs) (s:ByteArray) (k:Nat) (hk:p+k≤n)
  (hT:∀ b cb w2,n - p≤cb→View .u32 w2 b (zs.drop p)→Calls Tryz.prog 181 #[.slice b (n - p:Nat) cb] w2 fun e w'=>e=.returned (.tuple #[.string s,.int .i64 k,.int .i64 0])∧Below w2.heap.size w2 w') :
  Calls Tryz.prog 176 #[.pointer (some ⟨gr,0,none⟩),.int .i64 1,.int .i64 m] w fun e w'=>∃ v,e=.returned (.tuple #[v,.string s,.int .i64 0])∧Rdr W0 w' gr ga n cw (p+k) zs∧w.grownBy w' (some gr):=by
 obtain⟨c0,c1,f1⟩:=cell_of_two h.rd.box
 have hle:=h.le
 have hsm:=h.small
 have hrm:=h.room
 have HLZ:Hid (zs.length=n):=h.len
 obtain⟨sa,hsa,hsav⟩:∃ sa,(if cw=p then some (⟨ga,0,none⟩:Addr) else some ⟨ga,p,none⟩)=some sa∧Hid (∀ wx,View .u32 wx (some ⟨ga,0,none⟩) zs→View .u32 wx (some sa) (zs.drop p)):=by
  by_cases e:cw=p
  ·refine⟨⟨ga,0,none⟩,by rw [if_pos e],fun wx _=>?_⟩
   rw [List.drop_of_length_le (by rw [HLZ.out];omega)]
   exact view_nil
  ·refine⟨⟨ga,p,none⟩,by rw [if_neg e],fun wx hv=>?_⟩
   have:=View.drop hv p
   rw [Nat.zero_add] at this
   exact this
 have hpn:(p:Int)≤(n:Int):=by omega
 have hm':¬ ((n - p:Nat):Int)<(k:Int):=by omega
 have hmc:(k:Int)≤((cw - p:Nat):Int):=by omega
 have H:Hid (Rdr W0 w gr ga n cw p zs):=h
 clear h
 go_enter Tryz.func176,Tryz.ntmps176
 go_wp2
 go_quiet (fail)
 go_wp2_with fail
 refine (hT (some sa) (cw - p) (w.drewN nq) (by omega) (hsav.out _ (H.out.drew nq).words)).mono ?_
 rintro e w1 ⟨rfl,hb1⟩
 have HR1:Hid (Rdr W0 w1 gr ga n cw p zs):=(H.out.drew nq).below hb1
 obtain⟨d0,d1,g1⟩:=cell_of_two HR1.out.rd.box
 have HB:Hid (Below w.heap.size w w1):=(bel_drewN (Below.refl _ w) nq).trans hb1
 clear hb1 hT
 go_wp2
 go_ret3
 refine⟨_,rfl,HR1.out.set (p+k) _ (by omega) hk,?_⟩
 have hb:=HB.out
 exact World.grownBy.trans ⟨hb.os,hb.tape,hb.output,hb.size,fun i hi _=>hb.block i hi⟩ (grown_setCell w1 gr 1 _)
theorem word_some {W0 w:World} {gr ga n cw p:Nat} {zs:List Int} (h:Rdr W0 w gr ga n cw p zs) (hp:p<n) :
  Calls Tryz.prog 164 #[.pointer (some ⟨gr,0,none⟩)] w fun e w'=>e=.returned (.tuple #[.int .u32 (nth zs p),.int .i64 0])∧Rdr W0 w' gr ga n cw (p+1) zs:=by
 have hT:=take_word (m:=0) h hp
 have hlen:=h.len
 clear h
 go_enter Tryz.func164,Tryz.ntmps164
 go_wp2_with fail
 refine hT.mono ?_
 rintro e w1 ⟨c,rfl,hR⟩
 obtain⟨b,off,e1,_,hc⟩:=hR.words p (by rw [hlen];exact hp)
 simp at e1
 obtain⟨rfl,rfl⟩:=e1
 rw [Nat.zero_add] at hc
 clear hlen
 go_wp2
 go_ret2
 exact⟨rfl,hR⟩
theorem word_none {W0 w:World} {gr ga n cw:Nat} {zs:List Int} (h:Rdr W0 w gr ga n cw n zs) :
  Calls Tryz.prog 164 #[.pointer (some ⟨gr,0,none⟩)] w fun e w'=>e=.returned (.tuple #[.int .u32 0,.int .i64 14])∧Rdr W0 w' gr ga n cw n zs:=by
 have hT:=take_end (m:=0) h
 go_enter Tryz.func164,Tryz.ntmps164
 go_wp2_with fail
 refine hT.mono ?_
 rintro e w1 ⟨rfl,q,rfl⟩
 go_wp2
 go_ret2
 exact⟨rfl,h.drew q⟩
theorem rtext_any {W0 w:World} {gr ga n cw p:Nat} {zs:List Int} (h:Rdr W0 w gr ga n cw p zs) (s:ByteArray) (k er:Int) (hk0:0≤k) (hk:k≤(n - p:Nat)) (hz:er≠0→s=⟨#[]⟩∧k=0)
  (hT:∀ b cb w2,n - p≤cb→View .u32 w2 b (zs.drop p)→Calls Tryz.prog 181 #[.slice b (n - p:Nat) cb] w2 fun e w'=>e=.returned (.tuple #[.string s,.int .i64 k,.int .i64 er])∧Below w2.heap.size w2 w') :
  Calls Tryz.prog 177 #[.pointer (some ⟨gr,0,none⟩)] w fun e w'=>e=.returned (.tuple #[.string s,.int .i64 er])∧Rdr W0 w' gr ga n cw (p+k.toNat) zs:=by
 have hle:=h.le
 by_cases her:er=0
 ·subst her
  obtain⟨kk,rfl⟩:=Int.eq_ofNat_of_zero_le hk0
  have hA:=take_text_yes (m:=0) h s kk (by omega) hT
  rw [Int.toNat_natCast]
  clear hz hT h
  go_enter Tryz.func177,Tryz.ntmps177
  go_wp2_with fail
  refine hA.mono ?_
  rintro e w1 ⟨v,rfl,hR,_⟩
  go_wp2
  go_ret2
  exact⟨rfl,hR⟩
 ·obtain⟨rfl,rfl⟩:=hz her
  have hA:=take_text_no (m:=0) h ⟨#[]⟩ 0 er her hT
  have H:Hid (Rdr W0 w gr ga n cw p zs):=h
  clear hz hT h her
  go_enter Tryz.func177,Tryz.ntmps177
  go_wp2_with fail
  refine hA.mono ?_
  rintro e w1 ⟨rfl,hb⟩
  go_wp2
  go_ret2
  exact⟨rfl,H.out.below hb⟩
set_option linter.unusedVariables false
set_option linter.unusedSimpArgs false
def rdrC (o:Int) (f:Frm) (b:Int) (gr:Nat):Array Value:=#[.int .u16 o,.string f.1,.bool f.2.1,.bool f.2.2.1,.string f.2.2.2.1,.string f.2.2.2.2.1,.int .i64 f.2.2.2.2.2.1,.int .u8 f.2.2.2.2.2.2,.int .u32 b,.pointer (some ⟨gr,0,none⟩)]
structure RdS (w : World) (R : Nat) (o : Int) (f : Frm) (b : Int) (gr ga n cw p : Nat) (zs : List Int) : Prop where
  box : w.heap[R]? = some (.cells (rdrC o f b gr) 166 (0, 0))
  ne : R ≠ gr
  rd : Rdr w w gr ga n cw p zs
theorem Rdr.rebase {W0 w:World} {gr ga n cw p:Nat} {zs:List Int} (h:Rdr W0 w gr ga n cw p zs):Rdr w w gr ga n cw p zs :=
 ⟨⟨World.grownBy.refl _ _,h.rd.box⟩,h.words,h.apart,h.len,h.le,h.room,h.small,h.within⟩
theorem RdS.step {w w':World} {R:Nat} {o:Int} {f:Frm} {b:Int} {gr ga n cw p q:Nat} {zs:List Int} (h:RdS w R o f b gr ga n cw p zs) (h':Rdr w w' gr ga n cw q zs):RdS w' R o f b gr ga n cw q zs :=
 ⟨(h'.rd.grown.block R (Array.getElem?_eq_some_iff.1 h.box).1 (fun e=>h.ne (by cases e;rfl))).trans h.box,h.ne,h'.rebase⟩
theorem RdS.below {w w':World} {R:Nat} {o:Int} {f:Frm} {b:Int} {gr ga n cw p:Nat} {zs:List Int} (h:RdS w R o f b gr ga n cw p zs) (hb:Below w.heap.size w w'):RdS w' R o f b gr ga n cw p zs :=
 ⟨(hb.block R (Array.getElem?_eq_some_iff.1 h.box).1).trans h.box,h.ne,(h.rd.below hb).rebase⟩
theorem RdS.cells {w:World} {R:Nat} {o:Int} {f:Frm} {b:Int} {gr ga n cw p:Nat} {zs:List Int} (h:RdS w R o f b gr ga n cw p zs) :
  w.cell? ⟨R,0,none⟩=some (.int .u16 o)∧w.cell? ⟨R,2,none⟩=some (.bool f.2.1)∧w.cell? ⟨R,3,none⟩=some (.bool f.2.2.1)∧w.cell? ⟨R,8,none⟩=some (.int .u32 b)∧w.cell? ⟨R,9,none⟩=some (.pointer (some ⟨gr,0,none⟩)):=by
 obtain⟨hc,_⟩:=one_block h.box
 exact⟨hc 0,hc 2,hc 3,hc 8,hc 9⟩
theorem RdS.lt {w:World} {R:Nat} {o:Int} {f:Frm} {b:Int} {gr ga n cw p:Nat} {zs:List Int} (h:RdS w R o f b gr ga n cw p zs):R<w.heap.size∧gr<w.heap.size :=
 ⟨(Array.getElem?_eq_some_iff.1 h.box).1,h.rd.rd.lt⟩
def ownI (has:Bool) (lacks:Int) (zs:List Int) (b:Int) (p:Nat):Int×Int:=if has then (if zs.length≤p then (0,lacks) else (nth zs p,if noneB (nth zs p) b then 43 else 0)) else (0,0)
set_option maxHeartbeats 1000000 in
theorem ownIdR_any (w:World) (R:Nat) (o:Int) (f:Frm) (b:Int) (gr ga n cw p:Nat) (zs:List Int) (has:Bool) (lacks:Int) (h:RdS w R o f b gr ga n cw p zs) (hlk:lacks≠0) :
  Calls Tryz.prog 143 #[.pointer (some ⟨R,0,none⟩),.bool has,.int .i64 lacks] w fun e w'=>e=.returned (.tuple #[.int .u32 (ownI has lacks zs b p).1,.int .i64 (ownI has lacks zs b p).2])∧w.grownBy w' (some gr) ∧
   ((ownI has lacks zs b p).2=0→RdS w' R o f b gr ga n cw (p+has.toNat) zs):=by
 have hlen:=h.rd.len
 have hle:=h.rd.le
 cases has
 ·have e1:ownI false lacks zs b p=(0,0):=rfl
  rw [e1]
  go_enter Tryz.func143,Tryz.ntmps143
  go_wp2
  refine bodyPost_ret (v:=.tuple #[.int .u32 0,.int .i64 0]) ?_ rfl ⟨rfl,World.grownBy.refl _ _,fun _=>h⟩
  simp [results,Tryz.results143,go_sem]
 ·have c9:=h.cells.2.2.2.2
  by_cases hp:p=n
  ·subst hp
   have e1:ownI true lacks zs b p=(0,lacks):=by unfold ownI;simp [hlen]
   have hWd:=word_none h.rd
   rw [e1]
   go_enter Tryz.func143,Tryz.ntmps143
   go_wp2_with fail
   refine hWd.mono ?_
   rintro e w1 ⟨rfl,hr1⟩
   have hg:=hr1.rd.grown
   clear hWd hr1
   go_wp2
   refine bodyPost_ret (v:=.tuple #[.int .u32 0,.int .i64 lacks]) ?_ rfl ⟨rfl,hg,fun h0=>absurd h0 hlk⟩
   simp [results,Tryz.results143,go_sem]
  ·have hlt:p<n:=by omega
   have e1:ownI true lacks zs b p=(nth zs p,if noneB (nth zs p) b then 43 else 0):=by unfold ownI;rw [if_pos rfl,if_neg (by omega)]
   have hWd:=word_some h.rd hlt
   have hF:=fun wx hx=>idFault_any R (nth zs p) b wx hx
   rw [e1]
   generalize nth zs p=x at *
   generalize (if noneB x b=true then (43:Int) else 0)=r at *
   clear e1
   go_enter Tryz.func143,Tryz.ntmps143
   go_wp2_with fail
   refine hWd.mono ?_
   rintro e w1 ⟨rfl,hr1⟩
   have hg:=hr1.rd.grown
   have hS1:=h.step hr1
   have hF1:=hF _ hS1.cells.2.2.2.1
   clear hWd hr1 hF
   go_wp2_with fail
   refine hF1.mono ?_
   rintro e w2 ⟨rfl,rfl⟩
   clear hF1
   go_wp2
   refine bodyPost_ret (v:=.tuple #[.int .u32 x,.int .i64 r]) ?_ rfl ⟨rfl,hg,fun _=>hS1⟩
   simp [results,Tryz.results143,go_sem]
theorem three_put {w:World} {B T:Nat} {z0 z1 z2:Value} (h:w.heap[B]?=some (.cells #[z0,z1,z2] T (0,0))) (u0 u1 u2:Value) :
  (((w.setCell ⟨B,0,none⟩ u0).setCell ⟨B,1,none⟩ u1).setCell ⟨B,2,none⟩ u2).heap[B]?=some (.cells #[u0,u1,u2] T (0,0)):=by
 simp only [World.setCell,Array.getElem?_modify,h];simp
theorem three_keep (w:World) (B:Nat) (u0 u1 u2:Value):Below B w (((w.setCell ⟨B,0,none⟩ u0).setCell ⟨B,1,none⟩ u1).setCell ⟨B,2,none⟩ u2) :=
 (((Below.refl B w).setCell (Nat.le_refl _) _).setCell (Nat.le_refl _) _).setCell (Nat.le_refl _) _
theorem three_cells {w:World} {G T:Nat} {a b c:Value} (h:w.heap[G]?=some (.cells #[a,b,c] T (0,0))):w.cell? ⟨G,0,none⟩=some a∧w.cell? ⟨G,1,none⟩=some b∧w.cell? ⟨G,2,none⟩=some c∧∀ i,w.frozen? ⟨G,i,none⟩=false:=by
 obtain⟨hc,hf⟩:=one_block h
 exact⟨hc 0,hc 1,hc 2,hf⟩
theorem setFar1' {w:World} {B T:Nat} {z0 z1 z2:Value} (h:w.heap[B]?=some (.cells #[z0,z1,z2] T (0,0))) (i:Nat) (u:Value):(w.setCell ⟨B,i,none⟩ u).heap[B]?=some (.cells (#[z0,z1,z2].setIfInBounds i u) T (0,0)):=by
 simp [World.setCell,Array.getElem?_modify,h]
theorem grown_then {w w' w'':World} {g:Nat} (h:w.grownBy w' (some g)) (hb:Below w.heap.size w' w''):w.grownBy w'' (some g) :=
 ⟨hb.os.trans h.os,hb.tape.trans h.tape,hb.output.trans h.output,Nat.le_trans h.size hb.size,fun k hk hne=>(hb.block k hk).trans (h.block k hk hne)⟩
theorem below_then {w w' w'':World} {g:Nat} (hb:Below w.heap.size w w') (h:w'.grownBy w'' (some g)):w.grownBy w'' (some g) :=
 ⟨h.os.trans hb.os,h.tape.trans hb.tape,h.output.trans hb.output,Nat.le_trans hb.size h.size,fun k hk hne=>(h.block k (Nat.lt_of_lt_of_le hk hb.size) hne).trans (hb.block k hk)⟩
theorem RdS.keep {w w':World} {R:Nat} {o:Int} {f:Frm} {b:Int} {gr ga n cw p:Nat} {zs:List Int} {B:Nat} (h:RdS w R o f b gr ga n cw p zs) (hb:Below B w w') (hR:R<B) (hg:gr<B) (ha:0<n→ga<B):RdS w' R o f b gr ga n cw p zs:=by
 refine⟨(hb.block R hR).trans h.box,h.ne,⟨⟨World.grownBy.refl _ _,(hb.block gr hg).trans h.rd.rd.box⟩,?_,h.rd.apart,h.rd.len,h.rd.le,h.rd.room,h.rd.small,h.rd.within⟩⟩
 intro j hj
 obtain⟨b',off,e,hlt,hc⟩:=h.rd.words j hj
 cases e
 exact⟨ga,0,rfl,Nat.lt_of_lt_of_le hlt hb.size,(hb.cell (p:=⟨ga,0+j,none⟩) (ha (by have:=h.rd.len;omega))).trans hc⟩
theorem RdS.ga {w:World} {R:Nat} {o:Int} {f:Frm} {b:Int} {gr ga n cw p:Nat} {zs:List Int} (h:RdS w R o f b gr ga n cw p zs) (hn:0<n):ga<w.heap.size:=by
 obtain⟨b',off,e,hlt,_⟩:=h.rd.words 0 (by rw [h.rd.len];exact hn)
 cases e
 exact hlt
theorem argI_word {c:Int} {zs:List Int} {b:Int} (hc:c≠0) (hz:zs.length≠0) (hk:kindI c≠3):(argI c zs b).2.2=faultW c (nth zs 0) b∧(faultW c (nth zs 0) b=0→argI c zs b=((kindI c,nth zs 0,⟨#[]⟩),1,0)):=by
 unfold argI faultW
 rw [if_neg (by simp [hc,hz]),if_neg hk]
 by_cases h1:kindI c=1
 ·cases h2:noneB (nth zs 0) b <;> simp [h1,h2]
 ·by_cases h4:kindI c=4
  ·cases h2:enumB c (nth zs 0) <;> simp [h4,h2]
  ·simp [h1,h4]
theorem argI_zero (zs:List Int) (b:Int):(argI 0 zs b).2.2=42:=by unfold argI;rw [if_pos (.inl rfl)]
set_option maxHeartbeats 2000000 in
theorem rarg_any (w:World) (R:Nat) (o:Int) (f:Frm) (b:Int) (gr ga n cw p:Nat) (zs:List Int) (c:Int) (h:RdS w R o f b gr ga n cw p zs) (hp:p<n) (hkd:c≠0→kindI c≠0) :
  Calls Tryz.prog 167 #[.pointer (some ⟨R,0,none⟩),.int .u8 c] w fun e w'=>∃ y,e=.returned (.tuple #[argV y,.int .i64 (argI c (zs.drop p) b).2.2])∧w.grownBy w' (some gr) ∧
   ((argI c (zs.drop p) b).2.2=0→y=(argI c (zs.drop p) b).1∧RdS w' R o f b gr ga n cw (p+(argI c (zs.drop p) b).2.1.toNat) zs):=by
 have hlen:=h.rd.len
 have hga:=h.ga (by omega)
 have hlt:=h.lt
 have hdl:(zs.drop p).length=n - p:=by rw [List.length_drop,hlen]
 have hB1:Below w.heap.size w (w.alloc (.cells #[.int .u8 0,.int .u32 0,.string ⟨#[]⟩] 61)):=(Below.refl _ w).alloc (Nat.le_refl _) _
 have kX:=alloc_new w #[.int .u8 0,.int .u32 0,.string ⟨#[]⟩] 61
 have lX:w.heap.size<(w.alloc (.cells #[.int .u8 0,.int .u32 0,.string ⟨#[]⟩] 61)).heap.size:=by simp
 by_cases hc0:c=0
 ·subst hc0
  rw [argI_zero]
  go_enter Tryz.func167,Tryz.ntmps167
  go_wp2
  refine bodyPost_ret (v:=.tuple #[argV noArg,.int .i64 42]) ?_ rfl ⟨noArg,rfl,?_,fun h0=>by cases h0⟩
  ·simp [results,Tryz.results167,go_sem,argV,noArg]
  ·exact below_then (g:=gr) hB1 (World.grownBy.refl _ _)
 ·have hc0':(c==0)=false:=by simpa using hc0
  have hK:=fun w=>kind_any c w
  have hkn:=hkd hc0
  have hkr:=kindI_range c
  have hb2:Below (w.heap.size+1) (w.alloc (.cells #[.int .u8 0,.int .u32 0,.string ⟨#[]⟩] 61)) ((w.alloc (.cells #[.int .u8 0,.int .u32 0,.string ⟨#[]⟩] 61)).alloc (.cells #[.int .u8 (kindI c),.int .u32 0,.string ⟨#[]⟩] 61)):=(Below.refl _ _).alloc (by simp) _
  have kA:((w.alloc (.cells #[.int .u8 0,.int .u32 0,.string ⟨#[]⟩] 61)).alloc (.cells #[.int .u8 (kindI c),.int .u32 0,.string ⟨#[]⟩] 61)).heap[w.heap.size+1]?=some (.cells #[.int .u8 (kindI c),.int .u32 0,.string ⟨#[]⟩] 61 (0,0)):=by simpa using alloc_new (w.alloc (.cells #[.int .u8 0,.int .u32 0,.string ⟨#[]⟩] 61)) #[.int .u8 (kindI c),.int .u32 0,.string ⟨#[]⟩] 61
  have kX2:=(hb2.block _ (by omega)).trans kX
  have hbW:=hB1.trans (hb2.mono (by omega))
  have hSW:=h.below hbW
  by_cases k3:kindI c=3
  ·have eA:argI c (zs.drop p) b=((3,0,(textI (zs.drop p)).1),(textI (zs.drop p)).2.1,(textI (zs.drop p)).2.2):=by
    unfold argI;rw [if_neg (by simp only [hc0,false_or];omega),if_pos k3]
   rw [eA]
   simp only
   rw [k3] at hK kA kX2 hbW hSW
   have hr:=textI_range (zs.drop p)
   have hw':Within 4294967296 (zs.drop p):=fun z hz=>h.rd.within z (List.mem_of_mem_drop hz)
   have hsm:=h.rd.small
   have hT:=fun wx (hx:Rdr wx wx gr ga n cw p zs)=>rtext_any hx (textI (zs.drop p)).1 (textI (zs.drop p)).2.1 (textI (zs.drop p)).2.2 hr.1 (by have:=hr.2.1;rw [hdl] at this;exact this) (fun h0=>hr.2.2.2.1 h0) (fun b' cb w2 hcb hv2=>text_any b' (n - p) cb (zs.drop p) w2 hv2 hdl hw' (by omega) hcb)
   generalize (textI (zs.drop p)).1=st at *
   generalize (textI (zs.drop p)).2.1=tk at *
   generalize (textI (zs.drop p)).2.2=te at *
   clear hr eA hkr hkn hkd
   go_enter Tryz.func167,Tryz.ntmps167
   go_wp2_with fail
   refine (hK _).mono ?_
   rintro e w1 ⟨rfl,rfl⟩
   have c9:=hSW.cells.2.2.2.2
   obtain⟨a0,a1,a2,af⟩:=three_cells kA
   have hT2:=hT _ hSW.rd
   have hsz:((w.alloc (.cells #[.int .u8 0,.int .u32 0,.string ⟨#[]⟩] 61)).alloc (.cells #[.int .u8 3,.int .u32 0,.string ⟨#[]⟩] 61)).heap.size=w.heap.size+2:=by simp
   clear hK kX hb2 hT
   go_wp2_with fail
   generalize (w.alloc (.cells #[.int .u8 0,.int .u32 0,.string ⟨#[]⟩] 61)).alloc (.cells #[.int .u8 3,.int .u32 0,.string ⟨#[]⟩] 61)=W at *
   refine hT2.mono ?_
   rintro e w2 ⟨rfl,hr2⟩
   have hg2:=hr2.rd.grown
   have hS2:=hSW.step hr2
   have kA2:=(hg2.block _ (by omega) (fun e=>by cases e;omega)).trans kA
   have kX3:=(hg2.block _ (by omega) (fun e=>by cases e;omega)).trans kX2
   obtain⟨b0,b1,b2,bf⟩:=three_cells kA2
   have kA3:=setFar1' kA2 2 (.string st)
   have kX4:(w2.setCell ⟨w.heap.size+1,2,none⟩ (.string st)).heap[w.heap.size]?=_:=(Below.heap_setCell _ _ _ _ (by simp)).trans kX3
   obtain⟨d0,d1,d2,df⟩:=three_cells kA3
   obtain⟨x0,x1,x2,xf⟩:=three_cells kX4
   clear hT2 a0 a1 a2 af kA kX2 hr2 c9 hSW
   go_wp2
   have hB5:=three_put kX4 (.int .u8 3) (.int .u32 0) (.string st)
   have hBel:=((Below.refl w.heap.size w2).setCell (p:=⟨w.heap.size+1,2,none⟩) (by simp) (.string st)).trans (three_keep (w2.setCell ⟨w.heap.size+1,2,none⟩ (.string st)) w.heap.size (.int .u8 3) (.int .u32 0) (.string st))
   have hS5:=hS2.keep hBel hlt.1 hlt.2 (fun _=>hga)
   have hgf:=grown_then (below_then hbW hg2) hBel
   clear b0 b1 b2 bf d0 d1 d2 df x0 x1 x2 xf kX4 kA3 kA2 kX3 hS2
   generalize (((w2.setCell _ _).setCell _ _).setCell _ _).setCell _ _=WF at hB5 hBel hS5 hgf ⊢
   obtain⟨g0,g1,g2,_⟩:=three_cells hB5
   refine bodyPost_ret (v:=.tuple #[argV (3,0,st),.int .i64 te]) ?_ rfl ⟨(3,0,st),rfl,hgf,fun _=>⟨rfl,hS5⟩⟩
   simp [results,Tryz.results167,go_sem,argV,g0,g1,g2]
  ·obtain⟨eW,hE⟩:=argI_word hc0 (show (zs.drop p).length≠0 by omega) k3 (b:=b)
   rw [eW]
   have eN:nth (zs.drop p) 0=nth zs p:=by simp [nth,List.getD]
   rw [eN] at hE ⊢
   obtain⟨x,hx⟩:∃ x,x=nth zs p:=⟨_,rfl⟩
   rw [← hx] at hE ⊢
   obtain⟨r,hr⟩:∃ r,r=faultW c x b:=⟨_,rfl⟩
   rw [← hr] at hE ⊢
   have HX:Hid (x=nth zs p):=hx
   have HR:Hid (r=faultW c x b):=hr
   have HEE:Hid (r=0→argI c (zs.drop p) b=((kindI c,x,⟨#[]⟩),1,0)):=hE
   clear hx hr hE eN eW
   rcases hkr with hkc | hkc | hkc | hkc | hkc
   ·exact absurd hkc hkn
   ·have eK:kindI c=1:=hkc
    have HE1:=HEE.out
    rw [eK] at hK kA kX2 hbW hSW HE1
    have HE:Hid _:=HE1
    clear HE1 HEE
    clear eK hkc hkd hkn k3
    go_enter Tryz.func167,Tryz.ntmps167
    go_wp2_with fail
    refine (hK _).mono ?_
    rintro e w1 ⟨rfl,rfl⟩
    have c9:=hSW.cells.2.2.2.2
    obtain⟨a0,a1,a2,af⟩:=three_cells kA
    have hT2:=word_some hSW.rd hp
    have hsz:((w.alloc (.cells #[.int .u8 0,.int .u32 0,.string ⟨#[]⟩] 61)).alloc (.cells #[.int .u8 1,.int .u32 0,.string ⟨#[]⟩] 61)).heap.size=w.heap.size+2:=by simp
    rw [← HX.out] at hT2
    clear hK kX hb2
    go_wp2_with fail
    generalize (w.alloc (.cells #[.int .u8 0,.int .u32 0,.string ⟨#[]⟩] 61)).alloc (.cells #[.int .u8 1,.int .u32 0,.string ⟨#[]⟩] 61)=W at *
    refine hT2.mono ?_
    rintro e w2 ⟨rfl,hr2⟩
    have hg2:=hr2.rd.grown
    have hS2:=hSW.step hr2
    have kA2:=(hg2.block _ (by omega) (fun e=>by cases e;omega)).trans kA
    have kX3:=(hg2.block _ (by omega) (fun e=>by cases e;omega)).trans kX2
    have s2:=hg2.size
    obtain⟨b0,b1,b2,bf⟩:=three_cells kA2
    have kA3:=setFar1' kA2 1 (.int .u32 x)
    have kX4:(w2.setCell ⟨w.heap.size+1,1,none⟩ (.int .u32 x)).heap[w.heap.size]?=_:=(Below.heap_setCell _ _ _ _ (by simp)).trans kX3
    have hB3:Below w.heap.size w2 (w2.setCell ⟨w.heap.size+1,1,none⟩ (.int .u32 x)):=(Below.refl _ _).setCell (by simp) _
    have hS3:=hS2.keep hB3 hlt.1 hlt.2 (fun _=>hga)
    have hsz3:w.heap.size+2≤(w2.setCell ⟨w.heap.size+1,1,none⟩ (.int .u32 x)).heap.size:=by rw [World.size_setCell];omega
    clear hT2 a0 a1 a2 af kA kX2 hr2 c9 hSW hS2
    go_wp2
    generalize w2.setCell ⟨w.heap.size+1,1,none⟩ (.int .u32 x)=W3 at *
    obtain⟨d0,d1,d2,df⟩:=three_cells kA3
    change W3.cell? _=some (Value.int .u32 x) at d1
    have q1:=fun s:InC (Below W3.heap.size W3)=>s.cell (p:=⟨w.heap.size+1,1,none⟩) (by show w.heap.size+1<_;omega) d1
    have hF:=fun s:InC (Below W3.heap.size W3)=>Calls.inC s (faultW_any R c x b s.w (by have:=s.ok.size;omega) (s.cell (p:=⟨R,8,none⟩) (by show R<_;omega) hS3.cells.2.2.2.1))
    rw [← HR.out] at hF
    clear b0 b1 b2 bf
    refine wp_region_class (C:=Below W3.heap.size W3) (by kernel_rfl) (by kernel_rfl) (below_drew W3) ?_
    have hne:Nonempty (InC (Below W3.heap.size W3)):=⟨⟨W3,Below.refl _ _⟩⟩
    repeat (go_big_quiet_step ((go_at_call 149;exact hF _)))
    refine wpQuiet_nil ?_
    rintro _ ⟨s,rfl⟩
    have kA4:=(s.ok.block _ (by omega)).trans kA3
    have kX5:=(s.ok.block _ (by omega)).trans kX4
    have hS4:=hS3.below s.ok
    have hB4:=hB3.trans (s.ok.mono (by omega))
    obtain⟨s,hs⟩:=s
    simp only at *
    obtain⟨f0,f1,f2,ff⟩:=three_cells kA4
    obtain⟨x0,x1,x2,xf⟩:=three_cells kX5
    change s.cell? _=some (Value.int .u8 1) at f0
    change s.cell? _=some (Value.int .u32 x) at f1
    change s.cell? _=some (Value.string ⟨#[]⟩) at f2
    clear hne hF q1 d0 d1 d2 df hs kA3 kX4 hB3 hS3 kA2 kX3
    go_wp2
    have hB5:=three_put kX5 (.int .u8 1) (.int .u32 x) (.string ⟨#[]⟩)
    have hBel:=hB4.trans (three_keep s w.heap.size (.int .u8 1) (.int .u32 x) (.string ⟨#[]⟩))
    have hS5:=hS4.keep (three_keep s w.heap.size (.int .u8 1) (.int .u32 x) (.string ⟨#[]⟩)) hlt.1 hlt.2 (fun _=>hga)
    have hgf:=grown_then (below_then hbW hg2) hBel
    clear f0 f1 f2 ff x0 x1 x2 xf kX5 kA4 hB4 hS4
    generalize ((s.setCell _ _).setCell _ _).setCell _ _=WF at hB5 hBel hS5 hgf ⊢
    obtain⟨g0,g1,g2,_⟩:=three_cells hB5
    refine bodyPost_ret (v:=.tuple #[argV (1,x,⟨#[]⟩),.int .i64 r]) ?_ rfl ⟨(1,x,⟨#[]⟩),rfl,hgf,fun h0=>?_⟩
    ·simp [results,Tryz.results167,go_sem,argV,g0,g1,g2]
    ·rw [HE.out h0]
     exact⟨rfl,hS5⟩
   ·have eK:kindI c=2:=hkc
    have HE1:=HEE.out
    rw [eK] at hK kA kX2 hbW hSW HE1
    have HE:Hid _:=HE1
    clear HE1 HEE
    clear eK hkc hkd hkn k3
    go_enter Tryz.func167,Tryz.ntmps167
    go_wp2_with fail
    refine (hK _).mono ?_
    rintro e w1 ⟨rfl,rfl⟩
    have c9:=hSW.cells.2.2.2.2
    obtain⟨a0,a1,a2,af⟩:=three_cells kA
    have hT2:=word_some hSW.rd hp
    have hsz:((w.alloc (.cells #[.int .u8 0,.int .u32 0,.string ⟨#[]⟩] 61)).alloc (.cells #[.int .u8 2,.int .u32 0,.string ⟨#[]⟩] 61)).heap.size=w.heap.size+2:=by simp
    rw [← HX.out] at hT2
    clear hK kX hb2
    go_wp2_with fail
    generalize (w.alloc (.cells #[.int .u8 0,.int .u32 0,.string ⟨#[]⟩] 61)).alloc (.cells #[.int .u8 2,.int .u32 0,.string ⟨#[]⟩] 61)=W at *
    refine hT2.mono ?_
    rintro e w2 ⟨rfl,hr2⟩
    have hg2:=hr2.rd.grown
    have hS2:=hSW.step hr2
    have kA2:=(hg2.block _ (by omega) (fun e=>by cases e;omega)).trans kA
    have kX3:=(hg2.block _ (by omega) (fun e=>by cases e;omega)).trans kX2
    have s2:=hg2.size
    obtain⟨b0,b1,b2,bf⟩:=three_cells kA2
    have kA3:=setFar1' kA2 1 (.int .u32 x)
    have kX4:(w2.setCell ⟨w.heap.size+1,1,none⟩ (.int .u32 x)).heap[w.heap.size]?=_:=(Below.heap_setCell _ _ _ _ (by simp)).trans kX3
    have hB3:Below w.heap.size w2 (w2.setCell ⟨w.heap.size+1,1,none⟩ (.int .u32 x)):=(Below.refl _ _).setCell (by simp) _
    have hS3:=hS2.keep hB3 hlt.1 hlt.2 (fun _=>hga)
    have hsz3:w.heap.size+2≤(w2.setCell ⟨w.heap.size+1,1,none⟩ (.int .u32 x)).heap.size:=by rw [World.size_setCell];omega
    clear hT2 a0 a1 a2 af kA kX2 hr2 c9 hSW hS2
    go_wp2
    generalize w2.setCell ⟨w.heap.size+1,1,none⟩ (.int .u32 x)=W3 at *
    obtain⟨d0,d1,d2,df⟩:=three_cells kA3
    change W3.cell? _=some (Value.int .u32 x) at d1
    have q1:=fun s:InC (Below W3.heap.size W3)=>s.cell (p:=⟨w.heap.size+1,1,none⟩) (by show w.heap.size+1<_;omega) d1
    have hF:=fun s:InC (Below W3.heap.size W3)=>Calls.inC s (faultW_any R c x b s.w (by have:=s.ok.size;omega) (s.cell (p:=⟨R,8,none⟩) (by show R<_;omega) hS3.cells.2.2.2.1))
    rw [← HR.out] at hF
    clear b0 b1 b2 bf
    refine wp_region_class (C:=Below W3.heap.size W3) (by kernel_rfl) (by kernel_rfl) (below_drew W3) ?_
    have hne:Nonempty (InC (Below W3.heap.size W3)):=⟨⟨W3,Below.refl _ _⟩⟩
    repeat (go_big_quiet_step ((go_at_call 149;exact hF _)))
    refine wpQuiet_nil ?_
    rintro _ ⟨s,rfl⟩
    have kA4:=(s.ok.block _ (by omega)).trans kA3
    have kX5:=(s.ok.block _ (by omega)).trans kX4
    have hS4:=hS3.below s.ok
    have hB4:=hB3.trans (s.ok.mono (by omega))
    obtain⟨s,hs⟩:=s
    simp only at *
    obtain⟨f0,f1,f2,ff⟩:=three_cells kA4
    obtain⟨x0,x1,x2,xf⟩:=three_cells kX5
    change s.cell? _=some (Value.int .u8 2) at f0
    change s.cell? _=some (Value.int .u32 x) at f1
    change s.cell? _=some (Value.string ⟨#[]⟩) at f2
    clear hne hF q1 d0 d1 d2 df hs kA3 kX4 hB3 hS3 kA2 kX3
    go_wp2
    have hB5:=three_put kX5 (.int .u8 2) (.int .u32 x) (.string ⟨#[]⟩)
    have hBel:=hB4.trans (three_keep s w.heap.size (.int .u8 2) (.int .u32 x) (.string ⟨#[]⟩))
    have hS5:=hS4.keep (three_keep s w.heap.size (.int .u8 2) (.int .u32 x) (.string ⟨#[]⟩)) hlt.1 hlt.2 (fun _=>hga)
    have hgf:=grown_then (below_then hbW hg2) hBel
    clear f0 f1 f2 ff x0 x1 x2 xf kX5 kA4 hB4 hS4
    generalize ((s.setCell _ _).setCell _ _).setCell _ _=WF at hB5 hBel hS5 hgf ⊢
    obtain⟨g0,g1,g2,_⟩:=three_cells hB5
    refine bodyPost_ret (v:=.tuple #[argV (2,x,⟨#[]⟩),.int .i64 r]) ?_ rfl ⟨(2,x,⟨#[]⟩),rfl,hgf,fun h0=>?_⟩
    ·simp [results,Tryz.results167,go_sem,argV,g0,g1,g2]
    ·rw [HE.out h0]
     exact⟨rfl,hS5⟩
   ·exact absurd hkc k3
   ·have eK:kindI c=4:=hkc
    have HE1:=HEE.out
    rw [eK] at hK kA kX2 hbW hSW HE1
    have HE:Hid _:=HE1
    clear HE1 HEE
    clear eK hkc hkd hkn k3
    go_enter Tryz.func167,Tryz.ntmps167
    go_wp2_with fail
    refine (hK _).mono ?_
    rintro e w1 ⟨rfl,rfl⟩
    have c9:=hSW.cells.2.2.2.2
    obtain⟨a0,a1,a2,af⟩:=three_cells kA
    have hT2:=word_some hSW.rd hp
    have hsz:((w.alloc (.cells #[.int .u8 0,.int .u32 0,.string ⟨#[]⟩] 61)).alloc (.cells #[.int .u8 4,.int .u32 0,.string ⟨#[]⟩] 61)).heap.size=w.heap.size+2:=by simp
    rw [← HX.out] at hT2
    clear hK kX hb2
    go_wp2_with fail
    generalize (w.alloc (.cells #[.int .u8 0,.int .u32 0,.string ⟨#[]⟩] 61)).alloc (.cells #[.int .u8 4,.int .u32 0,.string ⟨#[]⟩] 61)=W at *
    refine hT2.mono ?_
    rintro e w2 ⟨rfl,hr2⟩
    have hg2:=hr2.rd.grown
    have hS2:=hSW.step hr2
    have kA2:=(hg2.block _ (by omega) (fun e=>by cases e;omega)).trans kA
    have kX3:=(hg2.block _ (by omega) (fun e=>by cases e;omega)).trans kX2
    have s2:=hg2.size
    obtain⟨b0,b1,b2,bf⟩:=three_cells kA2
    have kA3:=setFar1' kA2 1 (.int .u32 x)
    have kX4:(w2.setCell ⟨w.heap.size+1,1,none⟩ (.int .u32 x)).heap[w.heap.size]?=_:=(Below.heap_setCell _ _ _ _ (by simp)).trans kX3
    have hB3:Below w.heap.size w2 (w2.setCell ⟨w.heap.size+1,1,none⟩ (.int .u32 x)):=(Below.refl _ _).setCell (by simp) _
    have hS3:=hS2.keep hB3 hlt.1 hlt.2 (fun _=>hga)
    have hsz3:w.heap.size+2≤(w2.setCell ⟨w.heap.size+1,1,none⟩ (.int .u32 x)).heap.size:=by rw [World.size_setCell];omega
    clear hT2 a0 a1 a2 af kA kX2 hr2 c9 hSW hS2
    go_wp2
    generalize w2.setCell ⟨w.heap.size+1,1,none⟩ (.int .u32 x)=W3 at *
    obtain⟨d0,d1,d2,df⟩:=three_cells kA3
    change W3.cell? _=some (Value.int .u32 x) at d1
    have q1:=fun s:InC (Below W3.heap.size W3)=>s.cell (p:=⟨w.heap.size+1,1,none⟩) (by show w.heap.size+1<_;omega) d1
    have hF:=fun s:InC (Below W3.heap.size W3)=>Calls.inC s (faultW_any R c x b s.w (by have:=s.ok.size;omega) (s.cell (p:=⟨R,8,none⟩) (by show R<_;omega) hS3.cells.2.2.2.1))
    rw [← HR.out] at hF
    clear b0 b1 b2 bf
    refine wp_region_class (C:=Below W3.heap.size W3) (by kernel_rfl) (by kernel_rfl) (below_drew W3) ?_
    have hne:Nonempty (InC (Below W3.heap.size W3)):=⟨⟨W3,Below.refl _ _⟩⟩
    repeat (go_big_quiet_step ((go_at_call 149;exact hF _)))
    refine wpQuiet_nil ?_
    rintro _ ⟨s,rfl⟩
    have kA4:=(s.ok.block _ (by omega)).trans kA3
    have kX5:=(s.ok.block _ (by omega)).trans kX4
    have hS4:=hS3.below s.ok
    have hB4:=hB3.trans (s.ok.mono (by omega))
    obtain⟨s,hs⟩:=s
    simp only at *
    obtain⟨f0,f1,f2,ff⟩:=three_cells kA4
    obtain⟨x0,x1,x2,xf⟩:=three_cells kX5
    change s.cell? _=some (Value.int .u8 4) at f0
    change s.cell? _=some (Value.int .u32 x) at f1
    change s.cell? _=some (Value.string ⟨#[]⟩) at f2
    clear hne hF q1 d0 d1 d2 df hs kA3 kX4 hB3 hS3 kA2 kX3
    go_wp2
    have hB5:=three_put kX5 (.int .u8 4) (.int .u32 x) (.string ⟨#[]⟩)
    have hBel:=hB4.trans (three_keep s w.heap.size (.int .u8 4) (.int .u32 x) (.string ⟨#[]⟩))
    have hS5:=hS4.keep (three_keep s w.heap.size (.int .u8 4) (.int .u32 x) (.string ⟨#[]⟩)) hlt.1 hlt.2 (fun _=>hga)
    have hgf:=grown_then (below_then hbW hg2) hBel
    clear f0 f1 f2 ff x0 x1 x2 xf kX5 kA4 hB4 hS4
    generalize ((s.setCell _ _).setCell _ _).setCell _ _=WF at hB5 hBel hS5 hgf ⊢
    obtain⟨g0,g1,g2,_⟩:=three_cells hB5
    refine bodyPost_ret (v:=.tuple #[argV (4,x,⟨#[]⟩),.int .i64 r]) ?_ rfl ⟨(4,x,⟨#[]⟩),rfl,hgf,fun h0=>?_⟩
    ·simp [results,Tryz.results167,go_sem,argV,g0,g1,g2]
    ·rw [HE.out h0]
     exact⟨rfl,hS5⟩
end Go.Proofs.YtonhnflilfjkbaaGreatDoor
