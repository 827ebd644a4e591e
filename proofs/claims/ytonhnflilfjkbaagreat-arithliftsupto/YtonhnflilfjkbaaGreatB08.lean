/-
  Texts in one: Ref13Field, DrawLies.
-/
import Derived.Test.YtonhnflilfjkbaaGreatB07
namespace Go.Proofs.YtonhnflilfjkbaaGreat
open Go.RowKit
set_option linter.unusedVariables false
set_option linter.unusedSimpArgs false
set_option maxRecDepth 10000
theorem measI {k n:Nat} (h:k<n):n - (intOf (.int .i64 ((k:Int)+1))).toNat<n - (intOf (.int .i64 (k:Int))).toNat:=by simp [intOf];omega
theorem off_eq (x:Int):x % 32=(offN x:Int):=by unfold offN;omega
theorem wid_small {o:Nat} {c:Int} (c0:0≤c) (ho:o<32) (h:c<32 - (o:Int)):c=(widN o c:Int):=by unfold widN;omega
theorem wid_great {o:Nat} {c:Int} (ho:o<32) (h:¬ c<32 - (o:Int)):(32:Int) - (o:Int)=(widN o c:Int):=by unfold widN;omega
theorem in_next (a b:Int) (o k:Nat) (j:Nat):(if j=o+k then bt b k else inB a b o k j)=inB a b o (k+1) j:=by
 unfold inB
 by_cases e:j=o+k
 ·subst e
  rw [if_pos rfl,if_pos (by omega),show o+k - o=k by omega]
 ·rw [if_neg e]
  by_cases c:o≤j∧j<o+k
  ·rw [if_pos c,if_pos (by omega)]
  ·rw [if_neg c,if_neg (by omega)]
set_option maxHeartbeats 4000000 in
theorem refField_short (op:Int) (a:Option Addr) (len cap:Nat) (w:World) (h:(len:Int)<3):Calls Tryz.prog 13 #[.int .u16 op,.slice a len cap] w fun e w'=>e=.returned (.tuple #[.int .u32 0,.bool false])∧Below w.heap.size w w':=by
 go_enter Tryz.func13,Tryz.ntmps13
 go_wp2
 go_ret2
 exact⟨rfl,Below.refl _ _⟩
set_option maxHeartbeats 4000000 in
theorem refField_other (op N:Int) (a:Option Addr) (len cap:Nat) (w:World) (h:¬ (len:Int)<3) (hN:¬ (len:Int)=N) (hA:Calls Tryz.prog 9 #[.int .u16 op] w fun e w'=>e=.returned (.int .i64 N)∧Below w.heap.size w w'):Calls Tryz.prog 13 #[.int .u16 op,.slice a len cap] w fun e w'=>e=.returned (.tuple #[.int .u32 0,.bool false])∧Below w.heap.size w w':=by
 go_enter Tryz.func13,Tryz.ntmps13
 go_wp2_with fail
 refine hA.mono ?_
 rintro e w1 ⟨rfl,hb1⟩
 go_wp2
 go_ret2
 exact⟨rfl,hb1⟩
set_option maxHeartbeats 4000000 in
theorem refField_169 (b off cap:Nat) (z0 z1 z2:Int) (w:World) (c0:w.cell? ⟨b,off,none⟩=some (.int .u32 z0)) (c1:w.cell? ⟨b,off+1,none⟩=some (.int .u32 z1)) (c2:w.cell? ⟨b,off+2,none⟩=some (.int .u32 z2)) (hlt:b<w.heap.size)
  (hA:Calls Tryz.prog 9 #[.int .u16 169] w fun e w'=>e=.returned (.int .i64 3)∧Below w.heap.size w w'):Calls Tryz.prog 13 #[.int .u16 169,.slice (some ⟨b,off,none⟩) 3 cap] w fun e w'=>e=.returned (.tuple #[.int .u32 (if z0=0 then z2 else z1),.bool true])∧Below w.heap.size w w':=by
 by_cases hz:z0=0
 ·rw [if_pos hz]
  subst hz
  go_enter Tryz.func13,Tryz.ntmps13
  go_wp2_with fail
  refine hA.mono ?_
  rintro e w1 ⟨rfl,hb1⟩
  have d0:=(hb1.cell (p:=⟨b,off,none⟩) hlt).trans c0
  have d1:=(hb1.cell (p:=⟨b,off+1,none⟩) hlt).trans c1
  have d2:=(hb1.cell (p:=⟨b,off+2,none⟩) hlt).trans c2
  go_wp2
  go_ret2
  exact⟨rfl,hb1⟩
 ·rw [if_neg hz]
  go_enter Tryz.func13,Tryz.ntmps13
  go_wp2_with fail
  refine hA.mono ?_
  rintro e w1 ⟨rfl,hb1⟩
  have d0:=(hb1.cell (p:=⟨b,off,none⟩) hlt).trans c0
  have d1:=(hb1.cell (p:=⟨b,off+1,none⟩) hlt).trans c1
  have d2:=(hb1.cell (p:=⟨b,off+2,none⟩) hlt).trans c2
  go_wp2
  go_ret2
  exact⟨rfl,hb1⟩
set_option maxHeartbeats 4000000 in
theorem refField_201s (b off cap O N:Nat) (z0 z1 z2 z3:Int) (w:World) (c0:w.cell? ⟨b,off,none⟩=some (.int .u32 z0)) (c1:w.cell? ⟨b,off+1,none⟩=some (.int .u32 z1)) (c2:w.cell? ⟨b,off+2,none⟩=some (.int .u32 z2)) (c3:w.cell? ⟨b,off+3,none⟩=some (.int .u32 z3)) (i0:0≤z0∧z0<4294967296) (i1:0≤z1∧z1<4294967296) (i2:0≤z2∧z2<4294967296) (i3:0≤z3∧z3<4294967296) (hlt:b<w.heap.size) (ho:z2 % 32=(O:Int)) (hO:O<32) (hw:O+N≤32) (hc:z3=(N:Int)) (hs:z3<32 - (O:Int))
  (hA:Calls Tryz.prog 9 #[.int .u16 201] w fun e w'=>e=.returned (.int .i64 4)∧Below w.heap.size w w'):Calls Tryz.prog 13 #[.int .u16 201,.slice (some ⟨b,off,none⟩) 4 cap] w fun e w'=>e=.returned (.tuple #[.int .u32 (hB (inB z0 z1 O N) 32 0),.bool true])∧Below w.heap.size w w':=by
 have hF:=fun w=>refOf_any13 (inB z0 z1 O N) (inB_01 z0 z1 O N) w
 have hOi:(O:Int)<32:=by omega
 have hNi:(N:Int)≤32:=by omega
 have HW:=hide hw
 go_enter Tryz.func13,Tryz.ntmps13
 go_wp2_with fail
 refine hA.mono ?_
 rintro e w0 ⟨rfl,hb0⟩
 have d0:=(hb0.cell (p:=⟨b,off,none⟩) hlt).trans c0
 have d1:=(hb0.cell (p:=⟨b,off+1,none⟩) hlt).trans c1
 have d2:=(hb0.cell (p:=⟨b,off+2,none⟩) hlt).trans c2
 have d3:=(hb0.cell (p:=⟨b,off+3,none⟩) hlt).trans c3
 clear hA c0 c1 c2 c3
 go_wp2_with fail
 refine (refBits_any z0 w0 i0.1 i0.2).mono ?_
 rintro e w1 ⟨rfl,hb1⟩
 have hb01:=hb0.trans (hb1.mono hb0.size)
 have hlt0:b<w0.heap.size:=Nat.lt_of_lt_of_le hlt hb0.size
 generalize hAR:(arr32 (bt z0)).toArray=AR
 have HA:=hide (ArrB.new w1 (fun _=>0))
 rw [arr32_zero] at HA
 have e1:=(hb1.cell (p:=⟨b,off+1,none⟩) hlt0).trans d1
 have hlt1:b<w1.heap.size:=Nat.lt_of_lt_of_le hlt0 hb1.size
 clear d0 d1 d2 d3
 go_wp2_with (first | fail | (refine wpList_store32A rfl _ _ rfl _ _ (bt z0) _ rfl rfl hAR HA.out ?_;intro w2 hA2 hg2;have hb12:=arr_next hb01 hA2 hg2;have e2:=(hb12.2.cell (p:=⟨b,off+1,none⟩) hlt1).trans e1))
 refine (refBits_any z1 w2 i1.1 i1.2).mono ?_
 rintro e w3 ⟨rfl,hb3⟩
 generalize hBR:(arr32 (bt z1)).toArray=BR
 clear hg2 HA e1 e2
 have HA:=hide (ArrB.new w3 (fun _=>0))
 rw [arr32_zero] at HA
 go_wp2_with (first | fail | (refine wpList_store32A rfl _ _ rfl _ _ (bt z1) _ rfl rfl hBR HA.out ?_;intro w4 hA4 hg4))
 have hb03:Below w.heap.size w w3:=hb12.1.trans (hb3.mono hb12.1.size)
 have hb4:=arr_next hb03 hA4 hg4
 have HM:Hid (MvK w w4 w1.heap.size w3.heap.size (inB z0 z1 O 0) (bt z1)):=by
  have e1:=hA2.lt
  have e2:=hb3.size
  exact⟨hb01.size,by omega,((hA2.below hb3).below hb4.2).congr (fun j _=>by unfold inB;rw [if_neg (by omega)]),hA4,hb4.1⟩
 clear HA hA2 hA4 hg4 hb0 hb1 hb01 hb12 hb3 hb03 hb4 hlt hlt0 hlt1 hBR hAR
 generalize w3.heap.size=X at *
 generalize w1.heap.size=L at *
 go_loopw [10] (fun i wr=>∃ k:Nat,k≤N∧i=.int .i64 k∧MvK w wr L X (inB z0 z1 O k) (bt z1)) (fun i _=>N - (intOf i).toNat)
 case atStart=>exact⟨0,by omega,rfl,HM.out⟩
 case round =>
  obtain⟨k,hk,rfl,hM⟩:=hrel
  clear HM
  have hw2:=HW.out
  by_cases hlt:k<N
  ·have hki:(k:Int)<(N:Int):=by omega
   have hok:(O:Int)+(k:Int)<32:=by omega
   have hT:((O:Int)+(k:Int)).toNat=O+k:=by omega
   have hcX:=hM.2.2.2.1.cell k (by omega)
   have hcL:=hM.2.2.1.cell (O+k) (by omega)
   have hfL:=hM.2.2.1.frozen (O+k)
   have HS:Hid (MvK w (wr.setCell ⟨L,O+k,none⟩ (.int .u32 (bt z1 k))) L X (inB z0 z1 O (k+1)) (bt z1)) :=
    ⟨hM.1,hM.2.1,(hM.2.2.1.set (O+k) (by omega) (bt z1 k)).congr (fun j _=>in_next z0 z1 O k j),hM.2.2.2.1.other (Below.heap_setCell _ _ _ _ (by have:=hM.2.1;simp;omega)),hM.2.2.2.2.setCell (by simp;exact hM.1) _⟩
   have HLT:=hide hlt
   clear hM hlt hk hw2
   generalize bt z1 k=y at *
   go_wp2
   exact⟨⟨k+1,HLT.out,by simp,HS.out⟩,measI HLT.out⟩
  ·have e32:k=N:=by omega
   have HX:=hide hM.2.2.1
   have hb:=hM.2.2.2.2
   have hki:¬ (k:Int)<(N:Int):=by omega
   subst e32
   clear hM hw2
   go_wp2_with (first | (refine wpList_load32A rfl _ rfl _ _ rfl HX.out ?_;intro AR2 hAR2))
   rw [hAR2] at hF
   refine (hF _).mono ?_
   rintro e w5 ⟨rfl,hb5⟩
   go_wp2
   go_ret2
   exact⟨rfl,hb.trans (hb5.mono hb.size)⟩
set_option maxHeartbeats 4000000 in
theorem refField_201g (b off cap O N:Nat) (z0 z1 z2 z3:Int) (w:World) (c0:w.cell? ⟨b,off,none⟩=some (.int .u32 z0)) (c1:w.cell? ⟨b,off+1,none⟩=some (.int .u32 z1)) (c2:w.cell? ⟨b,off+2,none⟩=some (.int .u32 z2)) (c3:w.cell? ⟨b,off+3,none⟩=some (.int .u32 z3)) (i0:0≤z0∧z0<4294967296) (i1:0≤z1∧z1<4294967296) (i2:0≤z2∧z2<4294967296) (i3:0≤z3∧z3<4294967296) (hlt:b<w.heap.size) (ho:z2 % 32=(O:Int)) (hO:O<32) (hw:O+N≤32) (hc:(32:Int) - (O:Int)=(N:Int)) (hs:¬ z3<32 - (O:Int))
  (hA:Calls Tryz.prog 9 #[.int .u16 201] w fun e w'=>e=.returned (.int .i64 4)∧Below w.heap.size w w'):Calls Tryz.prog 13 #[.int .u16 201,.slice (some ⟨b,off,none⟩) 4 cap] w fun e w'=>e=.returned (.tuple #[.int .u32 (hB (inB z0 z1 O N) 32 0),.bool true])∧Below w.heap.size w w':=by
 have hF:=fun w=>refOf_any13 (inB z0 z1 O N) (inB_01 z0 z1 O N) w
 have hOi:(O:Int)<32:=by omega
 have hNi:(N:Int)≤32:=by omega
 have HW:=hide hw
 go_enter Tryz.func13,Tryz.ntmps13
 go_wp2_with fail
 refine hA.mono ?_
 rintro e w0 ⟨rfl,hb0⟩
 have d0:=(hb0.cell (p:=⟨b,off,none⟩) hlt).trans c0
 have d1:=(hb0.cell (p:=⟨b,off+1,none⟩) hlt).trans c1
 have d2:=(hb0.cell (p:=⟨b,off+2,none⟩) hlt).trans c2
 have d3:=(hb0.cell (p:=⟨b,off+3,none⟩) hlt).trans c3
 clear hA c0 c1 c2 c3
 go_wp2_with fail
 refine (refBits_any z0 w0 i0.1 i0.2).mono ?_
 rintro e w1 ⟨rfl,hb1⟩
 have hb01:=hb0.trans (hb1.mono hb0.size)
 have hlt0:b<w0.heap.size:=Nat.lt_of_lt_of_le hlt hb0.size
 generalize hAR:(arr32 (bt z0)).toArray=AR
 have HA:=hide (ArrB.new w1 (fun _=>0))
 rw [arr32_zero] at HA
 have e1:=(hb1.cell (p:=⟨b,off+1,none⟩) hlt0).trans d1
 have hlt1:b<w1.heap.size:=Nat.lt_of_lt_of_le hlt0 hb1.size
 clear d0 d1 d2 d3
 go_wp2_with (first | fail | (refine wpList_store32A rfl _ _ rfl _ _ (bt z0) _ rfl rfl hAR HA.out ?_;intro w2 hA2 hg2;have hb12:=arr_next hb01 hA2 hg2;have e2:=(hb12.2.cell (p:=⟨b,off+1,none⟩) hlt1).trans e1))
 refine (refBits_any z1 w2 i1.1 i1.2).mono ?_
 rintro e w3 ⟨rfl,hb3⟩
 generalize hBR:(arr32 (bt z1)).toArray=BR
 clear hg2 HA e1 e2
 have HA:=hide (ArrB.new w3 (fun _=>0))
 rw [arr32_zero] at HA
 go_wp2_with (first | fail | (refine wpList_store32A rfl _ _ rfl _ _ (bt z1) _ rfl rfl hBR HA.out ?_;intro w4 hA4 hg4))
 have hb03:Below w.heap.size w w3:=hb12.1.trans (hb3.mono hb12.1.size)
 have hb4:=arr_next hb03 hA4 hg4
 have HM:Hid (MvK w w4 w1.heap.size w3.heap.size (inB z0 z1 O 0) (bt z1)):=by
  have e1:=hA2.lt
  have e2:=hb3.size
  exact⟨hb01.size,by omega,((hA2.below hb3).below hb4.2).congr (fun j _=>by unfold inB;rw [if_neg (by omega)]),hA4,hb4.1⟩
 clear HA hA2 hA4 hg4 hb0 hb1 hb01 hb12 hb3 hb03 hb4 hlt hlt0 hlt1 hBR hAR
 generalize w3.heap.size=X at *
 generalize w1.heap.size=L at *
 go_loopw [10] (fun i wr=>∃ k:Nat,k≤N∧i=.int .i64 k∧MvK w wr L X (inB z0 z1 O k) (bt z1)) (fun i _=>N - (intOf i).toNat)
 case atStart=>exact⟨0,by omega,rfl,HM.out⟩
 case round =>
  obtain⟨k,hk,rfl,hM⟩:=hrel
  clear HM
  have hw2:=HW.out
  by_cases hlt:k<N
  ·have hki:(k:Int)<(N:Int):=by omega
   have hok:(O:Int)+(k:Int)<32:=by omega
   have hT:((O:Int)+(k:Int)).toNat=O+k:=by omega
   have hcX:=hM.2.2.2.1.cell k (by omega)
   have hcL:=hM.2.2.1.cell (O+k) (by omega)
   have hfL:=hM.2.2.1.frozen (O+k)
   have HS:Hid (MvK w (wr.setCell ⟨L,O+k,none⟩ (.int .u32 (bt z1 k))) L X (inB z0 z1 O (k+1)) (bt z1)) :=
    ⟨hM.1,hM.2.1,(hM.2.2.1.set (O+k) (by omega) (bt z1 k)).congr (fun j _=>in_next z0 z1 O k j),hM.2.2.2.1.other (Below.heap_setCell _ _ _ _ (by have:=hM.2.1;simp;omega)),hM.2.2.2.2.setCell (by simp;exact hM.1) _⟩
   have HLT:=hide hlt
   clear hM hlt hk hw2
   generalize bt z1 k=y at *
   go_wp2
   exact⟨⟨k+1,HLT.out,by simp,HS.out⟩,measI HLT.out⟩
  ·have e32:k=N:=by omega
   have HX:=hide hM.2.2.1
   have hb:=hM.2.2.2.2
   have hki:¬ (k:Int)<(N:Int):=by omega
   subst e32
   clear hM hw2
   go_wp2_with (first | (refine wpList_load32A rfl _ rfl _ _ rfl HX.out ?_;intro AR2 hAR2))
   rw [hAR2] at hF
   refine (hF _).mono ?_
   rintro e w5 ⟨rfl,hb5⟩
   go_wp2
   go_ret2
   exact⟨rfl,hb.trans (hb5.mono hb.size)⟩
set_option maxHeartbeats 4000000 in
theorem refField_202s (b off cap O N:Nat) (z0 z1 z2:Int) (w:World) (c0:w.cell? ⟨b,off,none⟩=some (.int .u32 z0)) (c1:w.cell? ⟨b,off+1,none⟩=some (.int .u32 z1)) (c2:w.cell? ⟨b,off+2,none⟩=some (.int .u32 z2)) (i0:0≤z0∧z0<4294967296) (i1:0≤z1∧z1<4294967296) (i2:0≤z2∧z2<4294967296) (hlt:b<w.heap.size) (ho:z1 % 32=(O:Int)) (hO:O<32) (hw:O+N≤32) (hc:z2=(N:Int)) (hs:z2<32 - (O:Int))
  (hA:Calls Tryz.prog 9 #[.int .u16 202] w fun e w'=>e=.returned (.int .i64 3)∧Below w.heap.size w w'):Calls Tryz.prog 13 #[.int .u16 202,.slice (some ⟨b,off,none⟩) 3 cap] w fun e w'=>e=.returned (.tuple #[.int .u32 (hB (sfB z0 O N) 32 0),.bool true])∧Below w.heap.size w w':=by
 have hF:=fun w=>refOf_any13 (sfB z0 O N) (sfB_01 z0 O N) w
 have hOi:(O:Int)<32:=by omega
 have hNi:(N:Int)≤32:=by omega
 have HW:=hide hw
 go_enter Tryz.func13,Tryz.ntmps13
 go_wp2_with fail
 refine hA.mono ?_
 rintro e w0 ⟨rfl,hb0⟩
 have d0:=(hb0.cell (p:=⟨b,off,none⟩) hlt).trans c0
 have d1:=(hb0.cell (p:=⟨b,off+1,none⟩) hlt).trans c1
 have d2:=(hb0.cell (p:=⟨b,off+2,none⟩) hlt).trans c2
 clear hA c0 c1 c2
 go_wp2_with fail
 refine (refBits_any z0 w0 i0.1 i0.2).mono ?_
 rintro e w1 ⟨rfl,hb1⟩
 have hb01:=hb0.trans (hb1.mono hb0.size)
 have hlt0:b<w0.heap.size:=Nat.lt_of_lt_of_le hlt hb0.size
 generalize hAR:(arr32 (bt z0)).toArray=AR
 have HA:=hide (ArrB.new w1 (fun _=>0))
 rw [arr32_zero] at HA
 clear d0 d1 d2 hlt0
 go_wp2_with (first | fail | (refine wpList_store32A rfl _ _ rfl _ _ (bt z0) _ rfl rfl hAR HA.out ?_;intro w2 hA2 hg2))
 have HM:=hide (MvK.start hb01 hA2 hg2)
 rw [arr32_zero] at HM
 clear HA hA2 hg2 hb0 hb1 hb01 hlt hAR
 generalize hX:w2.heap.size=X at *
 generalize w1.heap.size=L at *
 generalize w2.alloc (.cells #[.int .u32 0,.int .u32 0,.int .u32 0,.int .u32 0,.int .u32 0,.int .u32 0,.int .u32 0,.int .u32 0,.int .u32 0,.int .u32 0,.int .u32 0,.int .u32 0,.int .u32 0,.int .u32 0,.int .u32 0,.int .u32 0,.int .u32 0,.int .u32 0,.int .u32 0,.int .u32 0,.int .u32 0,.int .u32 0,.int .u32 0,.int .u32 0,.int .u32 0,.int .u32 0,.int .u32 0,.int .u32 0,.int .u32 0,.int .u32 0,.int .u32 0,.int .u32 0] 44)=W3 at *
 clear hX
 go_loopw [12] (fun i wr=>∃ k:Nat,k≤32∧i=.int .i64 k∧MvK w wr L X (bt z0) (fun j=>if j<k then sfB z0 O N j else 0)) (fun i _=>32 - (intOf i).toNat)
 case atStart=>exact⟨0,by omega,rfl,HM.out.congr (fun k _=>by simp)⟩
 case round =>
  obtain⟨k,hk,rfl,hM⟩:=hrel
  clear HM
  have hw2:=HW.out
  by_cases hlt:k<32
  ·have hki:(k:Int)<32:=by omega
   have HLT:=hide hlt
   have hcX:=hM.2.2.2.1.cell k hlt
   have hfX:=hM.2.2.2.1.frozen k
   have HSv:Hid (∀ v:Int,v=sfB z0 O N k→MvK w (wr.setCell ⟨X,k,none⟩ (.int .u32 v)) L X (bt z0) (fun j=>if j<k+1 then sfB z0 O N j else 0)):=fun v hv=>(hM.set k hlt v).congr (upto_next (sfB z0 O N) k v hv)
   have HM:=hide hM
   by_cases hkn:k<N
   ·have hkN:(k:Int)<(N:Int):=by omega
    have hok:(O:Int)+(k:Int)<32:=by omega
    have hT:((O:Int)+(k:Int)).toNat=O+k:=by omega
    have hcL:=hM.2.2.1.cell (O+k) (by omega)
    have HV:Hid (bt z0 (O+k)=sfB z0 O N k):=by show _=sfB z0 O N k;unfold sfB;rw [if_neg (by omega),show min k (N - 1)=k by omega]
    clear hM hlt hk hw2 hkn HM
    go_wp2
    exact⟨⟨k+1,HLT.out,by simp,HSv.out _ HV.out⟩,meas32 HLT.out⟩
   ·have hkN:(N:Int)≤(k:Int):=by omega
    by_cases hN0:N=0
    ·have hNz:¬ (0:Int)<(N:Int):=by omega
     have HV:Hid (sfB z0 O N k=0):=by show sfB z0 O N k=0;unfold sfB;rw [if_pos hN0]
     have HSk:Hid (MvK w wr L X (bt z0) (fun j=>if j<k+1 then sfB z0 O N j else 0)):=hM.congr (upto_skip (sfB z0 O N) k HV.out)
     clear hN0 hM hlt hk hw2 hkn HM hcX hfX HSv
     go_wp2
     all_goals exact⟨⟨k+1,HLT.out,by simp,HSk.out⟩,meas32 HLT.out⟩
    ·have hN1:(0:Int)<(N:Int):=by omega
     have hok:(O:Int)+(N:Int) - 1<32:=by omega
     have hok0:(0:Int)≤(O:Int)+(N:Int) - 1:=by omega
     have hT:((O:Int)+(N:Int) - 1).toNat=O+(N - 1):=by omega
     have hcL:=hM.2.2.1.cell (O+(N - 1)) (by omega)
     have HV:Hid (bt z0 (O+(N - 1))=sfB z0 O N k):=by show _=sfB z0 O N k;unfold sfB;rw [if_neg hN0,show min k (N - 1)=N - 1 by omega]
     clear hM hlt hk hw2 hkn HM hN0
     go_wp2
     exact⟨⟨k+1,HLT.out,by simp,HSv.out _ HV.out⟩,meas32 HLT.out⟩
  ·have e32:k=32:=by omega
   have HX:=hide (hM.2.2.2.1.congr (g:=sfB z0 O N) (fun j hj=>by simp [show j<k by omega]))
   have hb:=hM.2.2.2.2
   have hki:¬ (k:Int)<32:=by omega
   clear hM e32 hw2
   go_wp2_with (first | (refine wpList_load32A rfl _ rfl _ _ rfl HX.out ?_;intro AR2 hAR2))
   rw [hAR2] at hF
   refine (hF _).mono ?_
   rintro e w5 ⟨rfl,hb5⟩
   go_wp2
   go_ret2
   exact⟨rfl,hb.trans (hb5.mono hb.size)⟩
set_option maxHeartbeats 4000000 in
theorem refField_203s (b off cap O N:Nat) (z0 z1 z2:Int) (w:World) (c0:w.cell? ⟨b,off,none⟩=some (.int .u32 z0)) (c1:w.cell? ⟨b,off+1,none⟩=some (.int .u32 z1)) (c2:w.cell? ⟨b,off+2,none⟩=some (.int .u32 z2)) (i0:0≤z0∧z0<4294967296) (i1:0≤z1∧z1<4294967296) (i2:0≤z2∧z2<4294967296) (hlt:b<w.heap.size) (ho:z1 % 32=(O:Int)) (hO:O<32) (hw:O+N≤32) (hc:z2=(N:Int)) (hs:z2<32 - (O:Int))
  (hA:Calls Tryz.prog 9 #[.int .u16 203] w fun e w'=>e=.returned (.int .i64 3)∧Below w.heap.size w w'):Calls Tryz.prog 13 #[.int .u16 203,.slice (some ⟨b,off,none⟩) 3 cap] w fun e w'=>e=.returned (.tuple #[.int .u32 (hB (flB z0 O N) 32 0),.bool true])∧Below w.heap.size w w':=by
 have hF:=fun w=>refOf_any13 (flB z0 O N) (flB_01 z0 O N) w
 have hOi:(O:Int)<32:=by omega
 have hNi:(N:Int)≤32:=by omega
 have HW:=hide hw
 go_enter Tryz.func13,Tryz.ntmps13
 go_wp2_with fail
 refine hA.mono ?_
 rintro e w0 ⟨rfl,hb0⟩
 have d0:=(hb0.cell (p:=⟨b,off,none⟩) hlt).trans c0
 have d1:=(hb0.cell (p:=⟨b,off+1,none⟩) hlt).trans c1
 have d2:=(hb0.cell (p:=⟨b,off+2,none⟩) hlt).trans c2
 clear hA c0 c1 c2
 go_wp2_with fail
 refine (refBits_any z0 w0 i0.1 i0.2).mono ?_
 rintro e w1 ⟨rfl,hb1⟩
 have hb01:=hb0.trans (hb1.mono hb0.size)
 have hlt0:b<w0.heap.size:=Nat.lt_of_lt_of_le hlt hb0.size
 generalize hAR:(arr32 (bt z0)).toArray=AR
 have HA:=hide (ArrB.new w1 (fun _=>0))
 rw [arr32_zero] at HA
 clear d0 d1 d2 hlt0
 go_wp2_with (first | fail | (refine wpList_store32A rfl _ _ rfl _ _ (bt z0) _ rfl rfl hAR HA.out ?_;intro w2 hA2 hg2))
 have HM:=hide (MvK.start hb01 hA2 hg2)
 rw [arr32_zero] at HM
 clear HA hA2 hg2 hb0 hb1 hb01 hlt hAR
 generalize hX:w2.heap.size=X at *
 generalize w1.heap.size=L at *
 generalize w2.alloc (.cells #[.int .u32 0,.int .u32 0,.int .u32 0,.int .u32 0,.int .u32 0,.int .u32 0,.int .u32 0,.int .u32 0,.int .u32 0,.int .u32 0,.int .u32 0,.int .u32 0,.int .u32 0,.int .u32 0,.int .u32 0,.int .u32 0,.int .u32 0,.int .u32 0,.int .u32 0,.int .u32 0,.int .u32 0,.int .u32 0,.int .u32 0,.int .u32 0,.int .u32 0,.int .u32 0,.int .u32 0,.int .u32 0,.int .u32 0,.int .u32 0,.int .u32 0,.int .u32 0] 44)=W3 at *
 clear hX
 go_loopw [12] (fun i wr=>∃ k:Nat,k≤32∧i=.int .i64 k∧MvK w wr L X (bt z0) (fun j=>if j<k then flB z0 O N j else 0)) (fun i _=>32 - (intOf i).toNat)
 case atStart=>exact⟨0,by omega,rfl,HM.out.congr (fun k _=>by simp)⟩
 case round =>
  obtain⟨k,hk,rfl,hM⟩:=hrel
  clear HM
  have hw2:=HW.out
  by_cases hlt:k<32
  ·have hki:(k:Int)<32:=by omega
   have HLT:=hide hlt
   have hcX:=hM.2.2.2.1.cell k hlt
   have hfX:=hM.2.2.2.1.frozen k
   have HSv:Hid (∀ v:Int,v=flB z0 O N k→MvK w (wr.setCell ⟨X,k,none⟩ (.int .u32 v)) L X (bt z0) (fun j=>if j<k+1 then flB z0 O N j else 0)):=fun v hv=>(hM.set k hlt v).congr (upto_next (flB z0 O N) k v hv)
   have HM:=hide hM
   by_cases hkn:k<N
   ·have hkN:(k:Int)<(N:Int):=by omega
    have hok:(O:Int)+(k:Int)<32:=by omega
    have hT:((O:Int)+(k:Int)).toNat=O+k:=by omega
    have hcL:=hM.2.2.1.cell (O+k) (by omega)
    have HV:Hid (bt z0 (O+k)=flB z0 O N k):=by show _=flB z0 O N k;unfold flB;rw [if_pos hkn]
    clear hM hlt hk hw2 hkn HM
    go_wp2
    exact⟨⟨k+1,HLT.out,by simp,HSv.out _ HV.out⟩,meas32 HLT.out⟩
   ·have hkN:(N:Int)≤(k:Int):=by omega
    have HV:Hid (flB z0 O N k=0):=by show flB z0 O N k=0;unfold flB;rw [if_neg hkn]
    have HSk:Hid (MvK w wr L X (bt z0) (fun j=>if j<k+1 then flB z0 O N j else 0)):=hM.congr (upto_skip (flB z0 O N) k HV.out)
    clear hM hlt hk hw2 hkn HM hcX hfX HSv
    go_wp2
    exact⟨⟨k+1,HLT.out,by simp,HSk.out⟩,meas32 HLT.out⟩
  ·have e32:k=32:=by omega
   have HX:=hide (hM.2.2.2.1.congr (g:=flB z0 O N) (fun j hj=>by simp [show j<k by omega]))
   have hb:=hM.2.2.2.2
   have hki:¬ (k:Int)<32:=by omega
   clear hM e32 hw2
   go_wp2_with (first | (refine wpList_load32A rfl _ rfl _ _ rfl HX.out ?_;intro AR2 hAR2))
   rw [hAR2] at hF
   refine (hF _).mono ?_
   rintro e w5 ⟨rfl,hb5⟩
   go_wp2
   go_ret2
   exact⟨rfl,hb.trans (hb5.mono hb.size)⟩
set_option maxHeartbeats 4000000 in
theorem refField_202g (b off cap O N:Nat) (z0 z1 z2:Int) (w:World) (c0:w.cell? ⟨b,off,none⟩=some (.int .u32 z0)) (c1:w.cell? ⟨b,off+1,none⟩=some (.int .u32 z1)) (c2:w.cell? ⟨b,off+2,none⟩=some (.int .u32 z2)) (i0:0≤z0∧z0<4294967296) (i1:0≤z1∧z1<4294967296) (i2:0≤z2∧z2<4294967296) (hlt:b<w.heap.size) (ho:z1 % 32=(O:Int)) (hO:O<32) (hw:O+N≤32) (hc:(32:Int) - (O:Int)=(N:Int)) (hs:¬ z2<32 - (O:Int))
  (hA:Calls Tryz.prog 9 #[.int .u16 202] w fun e w'=>e=.returned (.int .i64 3)∧Below w.heap.size w w'):Calls Tryz.prog 13 #[.int .u16 202,.slice (some ⟨b,off,none⟩) 3 cap] w fun e w'=>e=.returned (.tuple #[.int .u32 (hB (sfB z0 O N) 32 0),.bool true])∧Below w.heap.size w w':=by
 have hF:=fun w=>refOf_any13 (sfB z0 O N) (sfB_01 z0 O N) w
 have hOi:(O:Int)<32:=by omega
 have hNi:(N:Int)≤32:=by omega
 have HW:=hide hw
 go_enter Tryz.func13,Tryz.ntmps13
 go_wp2_with fail
 refine hA.mono ?_
 rintro e w0 ⟨rfl,hb0⟩
 have d0:=(hb0.cell (p:=⟨b,off,none⟩) hlt).trans c0
 have d1:=(hb0.cell (p:=⟨b,off+1,none⟩) hlt).trans c1
 have d2:=(hb0.cell (p:=⟨b,off+2,none⟩) hlt).trans c2
 clear hA c0 c1 c2
 go_wp2_with fail
 refine (refBits_any z0 w0 i0.1 i0.2).mono ?_
 rintro e w1 ⟨rfl,hb1⟩
 have hb01:=hb0.trans (hb1.mono hb0.size)
 have hlt0:b<w0.heap.size:=Nat.lt_of_lt_of_le hlt hb0.size
 generalize hAR:(arr32 (bt z0)).toArray=AR
 have HA:=hide (ArrB.new w1 (fun _=>0))
 rw [arr32_zero] at HA
 clear d0 d1 d2 hlt0
 go_wp2_with (first | fail | (refine wpList_store32A rfl _ _ rfl _ _ (bt z0) _ rfl rfl hAR HA.out ?_;intro w2 hA2 hg2))
 have HM:=hide (MvK.start hb01 hA2 hg2)
 rw [arr32_zero] at HM
 clear HA hA2 hg2 hb0 hb1 hb01 hlt hAR
 generalize hX:w2.heap.size=X at *
 generalize w1.heap.size=L at *
 generalize w2.alloc (.cells #[.int .u32 0,.int .u32 0,.int .u32 0,.int .u32 0,.int .u32 0,.int .u32 0,.int .u32 0,.int .u32 0,.int .u32 0,.int .u32 0,.int .u32 0,.int .u32 0,.int .u32 0,.int .u32 0,.int .u32 0,.int .u32 0,.int .u32 0,.int .u32 0,.int .u32 0,.int .u32 0,.int .u32 0,.int .u32 0,.int .u32 0,.int .u32 0,.int .u32 0,.int .u32 0,.int .u32 0,.int .u32 0,.int .u32 0,.int .u32 0,.int .u32 0,.int .u32 0] 44)=W3 at *
 clear hX
 go_loopw [12] (fun i wr=>∃ k:Nat,k≤32∧i=.int .i64 k∧MvK w wr L X (bt z0) (fun j=>if j<k then sfB z0 O N j else 0)) (fun i _=>32 - (intOf i).toNat)
 case atStart=>exact⟨0,by omega,rfl,HM.out.congr (fun k _=>by simp)⟩
 case round =>
  obtain⟨k,hk,rfl,hM⟩:=hrel
  clear HM
  have hw2:=HW.out
  by_cases hlt:k<32
  ·have hki:(k:Int)<32:=by omega
   have HLT:=hide hlt
   have hcX:=hM.2.2.2.1.cell k hlt
   have hfX:=hM.2.2.2.1.frozen k
   have HSv:Hid (∀ v:Int,v=sfB z0 O N k→MvK w (wr.setCell ⟨X,k,none⟩ (.int .u32 v)) L X (bt z0) (fun j=>if j<k+1 then sfB z0 O N j else 0)):=fun v hv=>(hM.set k hlt v).congr (upto_next (sfB z0 O N) k v hv)
   have HM:=hide hM
   by_cases hkn:k<N
   ·have hkN:(k:Int)<(N:Int):=by omega
    have hok:(O:Int)+(k:Int)<32:=by omega
    have hT:((O:Int)+(k:Int)).toNat=O+k:=by omega
    have hcL:=hM.2.2.1.cell (O+k) (by omega)
    have HV:Hid (bt z0 (O+k)=sfB z0 O N k):=by show _=sfB z0 O N k;unfold sfB;rw [if_neg (by omega),show min k (N - 1)=k by omega]
    clear hM hlt hk hw2 hkn HM
    go_wp2
    exact⟨⟨k+1,HLT.out,by simp,HSv.out _ HV.out⟩,meas32 HLT.out⟩
   ·have hkN:(N:Int)≤(k:Int):=by omega
    by_cases hN0:N=0
    ·have hNz:¬ (0:Int)<(N:Int):=by omega
     have HV:Hid (sfB z0 O N k=0):=by show sfB z0 O N k=0;unfold sfB;rw [if_pos hN0]
     have HSk:Hid (MvK w wr L X (bt z0) (fun j=>if j<k+1 then sfB z0 O N j else 0)):=hM.congr (upto_skip (sfB z0 O N) k HV.out)
     clear hN0 hM hlt hk hw2 hkn HM hcX hfX HSv
     go_wp2
     all_goals exact⟨⟨k+1,HLT.out,by simp,HSk.out⟩,meas32 HLT.out⟩
    ·have hN1:(0:Int)<(N:Int):=by omega
     have hok:(O:Int)+(N:Int) - 1<32:=by omega
     have hok0:(0:Int)≤(O:Int)+(N:Int) - 1:=by omega
     have hT:((O:Int)+(N:Int) - 1).toNat=O+(N - 1):=by omega
     have hcL:=hM.2.2.1.cell (O+(N - 1)) (by omega)
     have HV:Hid (bt z0 (O+(N - 1))=sfB z0 O N k):=by show _=sfB z0 O N k;unfold sfB;rw [if_neg hN0,show min k (N - 1)=N - 1 by omega]
     clear hM hlt hk hw2 hkn HM hN0
     go_wp2
     exact⟨⟨k+1,HLT.out,by simp,HSv.out _ HV.out⟩,meas32 HLT.out⟩
  ·have e32:k=32:=by omega
   have HX:=hide (hM.2.2.2.1.congr (g:=sfB z0 O N) (fun j hj=>by simp [show j<k by omega]))
   have hb:=hM.2.2.2.2
   have hki:¬ (k:Int)<32:=by omega
   clear hM e32 hw2
   go_wp2_with (first | (refine wpList_load32A rfl _ rfl _ _ rfl HX.out ?_;intro AR2 hAR2))
   rw [hAR2] at hF
   refine (hF _).mono ?_
   rintro e w5 ⟨rfl,hb5⟩
   go_wp2
   go_ret2
   exact⟨rfl,hb.trans (hb5.mono hb.size)⟩
set_option maxHeartbeats 4000000 in
theorem refField_203g (b off cap O N:Nat) (z0 z1 z2:Int) (w:World) (c0:w.cell? ⟨b,off,none⟩=some (.int .u32 z0)) (c1:w.cell? ⟨b,off+1,none⟩=some (.int .u32 z1)) (c2:w.cell? ⟨b,off+2,none⟩=some (.int .u32 z2)) (i0:0≤z0∧z0<4294967296) (i1:0≤z1∧z1<4294967296) (i2:0≤z2∧z2<4294967296) (hlt:b<w.heap.size) (ho:z1 % 32=(O:Int)) (hO:O<32) (hw:O+N≤32) (hc:(32:Int) - (O:Int)=(N:Int)) (hs:¬ z2<32 - (O:Int))
  (hA:Calls Tryz.prog 9 #[.int .u16 203] w fun e w'=>e=.returned (.int .i64 3)∧Below w.heap.size w w'):Calls Tryz.prog 13 #[.int .u16 203,.slice (some ⟨b,off,none⟩) 3 cap] w fun e w'=>e=.returned (.tuple #[.int .u32 (hB (flB z0 O N) 32 0),.bool true])∧Below w.heap.size w w':=by
 have hF:=fun w=>refOf_any13 (flB z0 O N) (flB_01 z0 O N) w
 have hOi:(O:Int)<32:=by omega
 have hNi:(N:Int)≤32:=by omega
 have HW:=hide hw
 go_enter Tryz.func13,Tryz.ntmps13
 go_wp2_with fail
 refine hA.mono ?_
 rintro e w0 ⟨rfl,hb0⟩
 have d0:=(hb0.cell (p:=⟨b,off,none⟩) hlt).trans c0
 have d1:=(hb0.cell (p:=⟨b,off+1,none⟩) hlt).trans c1
 have d2:=(hb0.cell (p:=⟨b,off+2,none⟩) hlt).trans c2
 clear hA c0 c1 c2
 go_wp2_with fail
 refine (refBits_any z0 w0 i0.1 i0.2).mono ?_
 rintro e w1 ⟨rfl,hb1⟩
 have hb01:=hb0.trans (hb1.mono hb0.size)
 have hlt0:b<w0.heap.size:=Nat.lt_of_lt_of_le hlt hb0.size
 generalize hAR:(arr32 (bt z0)).toArray=AR
 have HA:=hide (ArrB.new w1 (fun _=>0))
 rw [arr32_zero] at HA
 clear d0 d1 d2 hlt0
 go_wp2_with (first | fail | (refine wpList_store32A rfl _ _ rfl _ _ (bt z0) _ rfl rfl hAR HA.out ?_;intro w2 hA2 hg2))
 have HM:=hide (MvK.start hb01 hA2 hg2)
 rw [arr32_zero] at HM
 clear HA hA2 hg2 hb0 hb1 hb01 hlt hAR
 generalize hX:w2.heap.size=X at *
 generalize w1.heap.size=L at *
 generalize w2.alloc (.cells #[.int .u32 0,.int .u32 0,.int .u32 0,.int .u32 0,.int .u32 0,.int .u32 0,.int .u32 0,.int .u32 0,.int .u32 0,.int .u32 0,.int .u32 0,.int .u32 0,.int .u32 0,.int .u32 0,.int .u32 0,.int .u32 0,.int .u32 0,.int .u32 0,.int .u32 0,.int .u32 0,.int .u32 0,.int .u32 0,.int .u32 0,.int .u32 0,.int .u32 0,.int .u32 0,.int .u32 0,.int .u32 0,.int .u32 0,.int .u32 0,.int .u32 0,.int .u32 0] 44)=W3 at *
 clear hX
 go_loopw [12] (fun i wr=>∃ k:Nat,k≤32∧i=.int .i64 k∧MvK w wr L X (bt z0) (fun j=>if j<k then flB z0 O N j else 0)) (fun i _=>32 - (intOf i).toNat)
 case atStart=>exact⟨0,by omega,rfl,HM.out.congr (fun k _=>by simp)⟩
 case round =>
  obtain⟨k,hk,rfl,hM⟩:=hrel
  clear HM
  have hw2:=HW.out
  by_cases hlt:k<32
  ·have hki:(k:Int)<32:=by omega
   have HLT:=hide hlt
   have hcX:=hM.2.2.2.1.cell k hlt
   have hfX:=hM.2.2.2.1.frozen k
   have HSv:Hid (∀ v:Int,v=flB z0 O N k→MvK w (wr.setCell ⟨X,k,none⟩ (.int .u32 v)) L X (bt z0) (fun j=>if j<k+1 then flB z0 O N j else 0)):=fun v hv=>(hM.set k hlt v).congr (upto_next (flB z0 O N) k v hv)
   have HM:=hide hM
   by_cases hkn:k<N
   ·have hkN:(k:Int)<(N:Int):=by omega
    have hok:(O:Int)+(k:Int)<32:=by omega
    have hT:((O:Int)+(k:Int)).toNat=O+k:=by omega
    have hcL:=hM.2.2.1.cell (O+k) (by omega)
    have HV:Hid (bt z0 (O+k)=flB z0 O N k):=by show _=flB z0 O N k;unfold flB;rw [if_pos hkn]
    clear hM hlt hk hw2 hkn HM
    go_wp2
    exact⟨⟨k+1,HLT.out,by simp,HSv.out _ HV.out⟩,meas32 HLT.out⟩
   ·have hkN:(N:Int)≤(k:Int):=by omega
    have HV:Hid (flB z0 O N k=0):=by show flB z0 O N k=0;unfold flB;rw [if_neg hkn]
    have HSk:Hid (MvK w wr L X (bt z0) (fun j=>if j<k+1 then flB z0 O N j else 0)):=hM.congr (upto_skip (flB z0 O N) k HV.out)
    clear hM hlt hk hw2 hkn HM hcX hfX HSv
    go_wp2
    exact⟨⟨k+1,HLT.out,by simp,HSk.out⟩,meas32 HLT.out⟩
  ·have e32:k=32:=by omega
   have HX:=hide (hM.2.2.2.1.congr (g:=flB z0 O N) (fun j hj=>by simp [show j<k by omega]))
   have hb:=hM.2.2.2.2
   have hki:¬ (k:Int)<32:=by omega
   clear hM e32 hw2
   go_wp2_with (first | (refine wpList_load32A rfl _ rfl _ _ rfl HX.out ?_;intro AR2 hAR2))
   rw [hAR2] at hF
   refine (hF _).mono ?_
   rintro e w5 ⟨rfl,hb5⟩
   go_wp2
   go_ret2
   exact⟨rfl,hb.trans (hb5.mono hb.size)⟩
theorem mo_arity (op:Int) (h:moB op=false):arV op<3:=by
 unfold moB at h
 simp at h
 unfold arV
 rw [if_neg (show ¬ (op=169∨op=202∨op=203) by omega),if_neg (show ¬ op=201 by omega)]
 split
 ·omega
 ·split <;> omega
set_option maxHeartbeats 4000000 in
theorem refField_any (op:Int) (a:Option Addr) (len cap:Nat) (zs:List Int) (w:World) (h0:0≤op) (h1:op<65536) (hv:View .u32 w a zs) (hw:Within 4294967296 zs) (hl:zs.length=len):Calls Tryz.prog 13 #[.int .u16 op,.slice a len cap] w fun e w'=>e=.returned (.tuple #[.int .u32 (fiV op zs),.bool (fiB op zs)])∧Below w.heap.size w w':=by
 have hA:=refArity_any op w h0 h1
 by_cases hF:fiB op zs=true
 ·have hF2:=hF
  unfold fiB at hF2
  rw [Bool.and_eq_true,decide_eq_true_eq] at hF2
  have e1:fiV op zs=moV op zs:=by unfold fiV;rw [if_pos hF2]
  rw [hF,e1]
  obtain⟨m1,m2⟩:=hF2
  rw [hl] at m2
  rw [← m2] at hA
  unfold moB at m1
  rw [decide_eq_true_eq] at m1
  have h3:3≤len:=by
   rcases m1 with rfl | rfl | rfl | rfl
   ·rw [ar169] at m2;omega
   ·rw [ar201] at m2;omega
   ·rw [ar202] at m2;omega
   ·rw [ar203] at m2;omega
  obtain⟨b,off,rfl,hc⟩:=view_at hv (by omega)
  obtain⟨b',off',e',hlt,_⟩:=hv 0 (by omega)
  simp only [Option.some.injEq,Addr.mk.injEq,and_true] at e'
  obtain⟨rfl,rfl⟩:=e'
  have c0:=hc 0 (by omega)
  rw [Nat.add_zero] at c0
  have c1:=hc 1 (by omega)
  have c2:=hc 2 (by omega)
  have i0:=hw.at (k:=0) (by omega)
  have i1:=hw.at (k:=1) (by omega)
  have i2:=hw.at (k:=2) (by omega)
  rcases m1 with rfl | rfl | rfl | rfl
  ·have hn:len=3:=by rw [ar169] at m2;omega
   subst hn
   exact refField_169 b off cap _ _ _ w c0 c1 c2 hlt hA
  ·have hn:len=4:=by rw [ar201] at m2;omega
   subst hn
   have c3:=hc 3 (by omega)
   have i3:=hw.at (k:=3) (by omega)
   have ho:=offN_lt (nth zs 2)
   by_cases hs:nth zs 3<32 - (offN (nth zs 2):Int)
   ·exact refField_201s b off cap _ _ _ _ _ _ w c0 c1 c2 c3 i0 i1 i2 i3 hlt (off_eq _) ho (widN_le _ _ ho) (wid_small i3.1 ho hs) hs hA
   ·exact refField_201g b off cap _ _ _ _ _ _ w c0 c1 c2 c3 i0 i1 i2 i3 hlt (off_eq _) ho (widN_le _ _ ho) (wid_great ho hs) hs hA
  ·have hn:len=3:=by rw [ar202] at m2;omega
   subst hn
   have ho:=offN_lt (nth zs 1)
   by_cases hs:nth zs 2<32 - (offN (nth zs 1):Int)
   ·exact refField_202s b off cap _ _ _ _ _ w c0 c1 c2 i0 i1 i2 hlt (off_eq _) ho (widN_le _ _ ho) (wid_small i2.1 ho hs) hs hA
   ·exact refField_202g b off cap _ _ _ _ _ w c0 c1 c2 i0 i1 i2 hlt (off_eq _) ho (widN_le _ _ ho) (wid_great ho hs) hs hA
  ·have hn:len=3:=by rw [ar203] at m2;omega
   subst hn
   have ho:=offN_lt (nth zs 1)
   by_cases hs:nth zs 2<32 - (offN (nth zs 1):Int)
   ·exact refField_203s b off cap _ _ _ _ _ w c0 c1 c2 i0 i1 i2 hlt (off_eq _) ho (widN_le _ _ ho) (wid_small i2.1 ho hs) hs hA
   ·exact refField_203g b off cap _ _ _ _ _ w c0 c1 c2 i0 i1 i2 hlt (off_eq _) ho (widN_le _ _ ho) (wid_great ho hs) hs hA
 ·have hF1:fiB op zs=false:=by simpa using hF
  have hF2:¬ (moB op=true∧(zs.length:Int)=arV op):=by
   intro h
   apply hF
   unfold fiB
   rw [h.1]
   simp [h.2]
  have e1:fiV op zs=0:=by unfold fiV;rw [if_neg hF2]
  rw [hF1,e1]
  by_cases h3:(len:Int)<3
  ·exact refField_short op a len cap w h3
  ·refine refField_other op _ a len cap w h3 ?_ hA
   intro h
   rw [hl] at hF2
   cases hm:moB op
   ·have:=mo_arity op hm;omega
   ·exact hF2 ⟨hm,h⟩

end Go.Proofs.YtonhnflilfjkbaaGreat
