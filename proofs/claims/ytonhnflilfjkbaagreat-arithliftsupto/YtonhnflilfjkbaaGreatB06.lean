/-
  Texts in one: Ref13Moved, Ref13Small, Ref13Unary, Ref13Bitwise.
-/
import Derived.Test.YtonhnflilfjkbaaGreatB05
namespace Go.Proofs.YtonhnflilfjkbaaGreat
open Go.RowKit
set_option linter.unusedVariables false
set_option linter.unusedSimpArgs false
set_option maxRecDepth 10000
def mvB (op:Int) (f:Nat→Int) (n j:Nat):Int:=if op=196 then (if n≤j then f (j - n) else 0) else if j+n<32 then f (j+n) else if op=195 then f 31 else 0
theorem mvB_01 (op:Int) (f:Nat→Int) (hf:Is01 f) (n:Nat):Is01 (mvB op f n):=by
 intro j
 unfold mvB
 repeat' split
 all_goals first | exact hf _ | exact .inl rfl
theorem meas32 {k:Nat} (h:k<32):32 - (intOf (.int .i64 ((k:Int)+1))).toNat<32 - (intOf (.int .i64 (k:Int))).toNat:=by simp [intOf];omega
def MvK (w wr:World) (L X:Nat) (f g:Nat→Int):Prop:=w.heap.size≤L∧L<X∧ArrB wr L f∧ArrB wr X g∧Below w.heap.size w wr
theorem MvK.set {w wr:World} {L X:Nat} {f g:Nat→Int} (h:MvK w wr L X f g) (k:Nat) (hk:k<32) (v:Int):MvK w (wr.setCell ⟨X,k,none⟩ (.int .u32 v)) L X f (fun j=>if j=k then v else g j) :=
 ⟨h.1,h.2.1,h.2.2.1.other (Below.heap_setCell _ _ _ _ (by have:=h.2.1;simp;omega)),h.2.2.2.1.set k hk v,h.2.2.2.2.setCell (by have:=h.1;have:=h.2.1;simp;omega) _⟩
theorem MvK.congr {w wr:World} {L X:Nat} {f g g':Nat→Int} (h:MvK w wr L X f g) (e:∀ k,k<32→g k=g' k):MvK w wr L X f g':=⟨h.1,h.2.1,h.2.2.1,h.2.2.2.1.congr e,h.2.2.2.2⟩
theorem upto_next (h:Nat→Int) (k:Nat) (v:Int) (e:v=h k):∀ j,j<32→(if j=k then v else if j<k then h j else 0)=if j<k+1 then h j else 0:=by
 intro j _
 by_cases e1:j=k
 ·subst e1;simp [e]
 ·by_cases e2:j<k
  ·simp [e1,e2,show j<k+1 by omega]
  ·simp [e1,e2,show ¬ j<k+1 by omega]
theorem upto_skip (h:Nat→Int) (k:Nat) (e:h k=0):∀ j,j<32→(if j<k then h j else 0)=if j<k+1 then h j else 0:=by
 intro j _
 by_cases e1:j=k
 ·subst e1;simp [e]
 ·by_cases e2:j<k
  ·simp [e2,show j<k+1 by omega]
  ·simp [e2,show ¬ j<k+1 by omega]
theorem MvK.start {w w1 w2:World} {f:Nat→Int} {o:Obj} (hb1:Below w.heap.size w w1) (hA:ArrB w2 w1.heap.size f) (hg:(w1.alloc o).grownBy w2 (some w1.heap.size)):MvK w (w2.alloc (.cells (arr32 fun _=>0).toArray 44)) w1.heap.size w2.heap.size f (fun _=>0):=by
 have hb2:Below w.heap.size w w2:=(hb1.alloc hb1.size o).grown hg (by simp;have:=hb1.size;omega) (fun k e=>by cases e;exact hb1.size)
 exact⟨hb1.size,hA.lt,hA.below ((Below.refl _ _).alloc (Nat.le_refl _) _),ArrB.new w2 _,hb2.alloc hb2.size _⟩
set_option maxHeartbeats 4000000 in
theorem refMoved194_any (a b:Int) (n:Nat) (w:World) (a0:0≤a) (a1:a<4294967296) (b0:0≤b) (b1:b<4294967296) (hn:b % 32=(n:Int)):Calls Tryz.prog 23 #[.int .u16 194,.int .u32 a,.int .u32 b] w fun e w'=>e=.returned (.int .u32 (hB (mvB 194 (bt a) n) 32 0))∧Below w.heap.size w w':=by
 have hn32:n<32:=by omega
 have HN:=hide hn
 clear hn
 have hO:=fun w=>refOf_any13 (mvB 194 (bt a) n) (mvB_01 194 _ (is01_bt a) n) w
 go_enter Tryz.func23,Tryz.ntmps23
 go_wp2_with fail
 refine (refBits_any a w a0 a1).mono ?_
 rintro e w1 ⟨rfl,hb1⟩
 generalize hAR:(arr32 (bt a)).toArray=AR
 have HA:=hide (ArrB.new w1 (fun _=>0))
 rw [arr32_zero] at HA
 go_wp2_with (refine wpList_store32A rfl _ _ rfl _ _ (bt a) _ rfl rfl hAR HA.out ?_;intro w2 hA2 hg2)
 rw [HN.out]
 clear HN
 have HM:=hide (MvK.start hb1 hA2 hg2)
 rw [arr32_zero] at HM
 clear HA hA2 hg2 hb1
 generalize hX:w2.heap.size=X at *
 generalize w1.heap.size=L at *
 generalize w2.alloc (.cells #[.int .u32 0,.int .u32 0,.int .u32 0,.int .u32 0,.int .u32 0,.int .u32 0,.int .u32 0,.int .u32 0,.int .u32 0,.int .u32 0,.int .u32 0,.int .u32 0,.int .u32 0,.int .u32 0,.int .u32 0,.int .u32 0,.int .u32 0,.int .u32 0,.int .u32 0,.int .u32 0,.int .u32 0,.int .u32 0,.int .u32 0,.int .u32 0,.int .u32 0,.int .u32 0,.int .u32 0,.int .u32 0,.int .u32 0,.int .u32 0,.int .u32 0,.int .u32 0] 44)=W3 at *
 clear hX hAR
 go_loopw [10] (fun i wr=>∃ k:Nat,k≤32∧i=.int .i64 k∧MvK w wr L X (bt a) (fun j=>if j<k then mvB 194 (bt a) n j else 0)) (fun i _=>32 - (intOf i).toNat)
 case atStart=>exact⟨0,by omega,rfl,HM.out.congr (fun k _=>by simp)⟩
 case round =>
  obtain⟨k,hk,rfl,hM⟩:=hrel
  clear HM
  by_cases hlt:k<32
  ·have hki:(k:Int)<32:=by omega
   have hcX:=hM.2.2.2.1.cell k hlt
   have hfX:=hM.2.2.2.1.frozen k
   have HL:=hide (fun j (hj:j<32)=>hM.2.2.1.cell j hj)
   have HS:=hide (fun v=>hM.set k hlt v)
   have HM:=hide hM
   clear hM
   have hn0:(0:Int)≤(n:Int):=by omega
   have hni:(n:Int)<32:=by omega
   by_cases hh:k+n<32
   ·have hcL:=HL.out (k+n) hh
    have ei:((k:Int)+(n:Int)).toNat=k+n:=by omega
    have hi1:(k:Int)+(n:Int)<32:=by omega
    have HV:Hid (bt a (k+n)=mvB 194 (bt a) n k):=by show _=mvB _ _ _ _;simp [mvB,hh]
    have HLT:=hide hlt
    clear hh hn0 hni HL HM hlt hk
    go_wp2
    go_roundw
    case rel =>
     have hs:=(HS.out (mvB 194 (bt a) n k)).congr (upto_next (mvB 194 (bt a) n) k (mvB 194 (bt a) n k) rfl)
     rw [HV.out]
     exact⟨k+1,HLT.out,rfl,hs⟩
    case measure=>exact meas32 HLT.out
   ·have hi1:32≤(k:Int)+(n:Int):=by omega
    have HV:Hid (mvB 194 (bt a) n k=0):=by show mvB _ _ _ _=0;simp [mvB,hh]
    have HLT:=hide hlt
    clear hh hn0 hni hcX hfX HL HS hlt hk
    go_wp2
    exact⟨⟨k+1,HLT.out,rfl,HM.out.congr (upto_skip (mvB 194 (bt a) n) k HV.out)⟩,meas32 HLT.out⟩
  ·have e32:k=32:=by omega
   have HX:=hide (hM.2.2.2.1.congr (g:=mvB 194 (bt a) n) (fun j hj=>by simp [show j<k by omega]))
   have hb:=hM.2.2.2.2
   have hki:¬ (k:Int)<32:=by omega
   clear hM e32
   go_wp2_with (first | (refine wpList_load32A rfl _ rfl _ _ rfl HX.out ?_;intro AR2 hAR2))
   rw [hAR2] at hO
   refine (hO _).mono ?_
   rintro e w5 ⟨rfl,hb5⟩
   go_wp2
   go_ret
   exact⟨rfl,hb.trans (hb5.mono hb.size)⟩
set_option maxHeartbeats 4000000 in
theorem refMoved195_any (a b:Int) (n:Nat) (w:World) (a0:0≤a) (a1:a<4294967296) (b0:0≤b) (b1:b<4294967296) (hn:b % 32=(n:Int)):Calls Tryz.prog 23 #[.int .u16 195,.int .u32 a,.int .u32 b] w fun e w'=>e=.returned (.int .u32 (hB (mvB 195 (bt a) n) 32 0))∧Below w.heap.size w w':=by
 have hn32:n<32:=by omega
 have HN:=hide hn
 clear hn
 have hO:=fun w=>refOf_any13 (mvB 195 (bt a) n) (mvB_01 195 _ (is01_bt a) n) w
 go_enter Tryz.func23,Tryz.ntmps23
 go_wp2_with fail
 refine (refBits_any a w a0 a1).mono ?_
 rintro e w1 ⟨rfl,hb1⟩
 generalize hAR:(arr32 (bt a)).toArray=AR
 have HA:=hide (ArrB.new w1 (fun _=>0))
 rw [arr32_zero] at HA
 go_wp2_with (refine wpList_store32A rfl _ _ rfl _ _ (bt a) _ rfl rfl hAR HA.out ?_;intro w2 hA2 hg2)
 rw [HN.out]
 clear HN
 have HM:=hide (MvK.start hb1 hA2 hg2)
 rw [arr32_zero] at HM
 clear HA hA2 hg2 hb1
 generalize hX:w2.heap.size=X at *
 generalize w1.heap.size=L at *
 generalize w2.alloc (.cells #[.int .u32 0,.int .u32 0,.int .u32 0,.int .u32 0,.int .u32 0,.int .u32 0,.int .u32 0,.int .u32 0,.int .u32 0,.int .u32 0,.int .u32 0,.int .u32 0,.int .u32 0,.int .u32 0,.int .u32 0,.int .u32 0,.int .u32 0,.int .u32 0,.int .u32 0,.int .u32 0,.int .u32 0,.int .u32 0,.int .u32 0,.int .u32 0,.int .u32 0,.int .u32 0,.int .u32 0,.int .u32 0,.int .u32 0,.int .u32 0,.int .u32 0,.int .u32 0] 44)=W3 at *
 clear hX hAR
 go_loopw [10] (fun i wr=>∃ k:Nat,k≤32∧i=.int .i64 k∧MvK w wr L X (bt a) (fun j=>if j<k then mvB 195 (bt a) n j else 0)) (fun i _=>32 - (intOf i).toNat)
 case atStart=>exact⟨0,by omega,rfl,HM.out.congr (fun k _=>by simp)⟩
 case round =>
  obtain⟨k,hk,rfl,hM⟩:=hrel
  clear HM
  by_cases hlt:k<32
  ·have hki:(k:Int)<32:=by omega
   have hcX:=hM.2.2.2.1.cell k hlt
   have hfX:=hM.2.2.2.1.frozen k
   have HL:=hide (fun j (hj:j<32)=>hM.2.2.1.cell j hj)
   have HS:=hide (fun v=>hM.set k hlt v)
   have HM:=hide hM
   clear hM
   have hn0:(0:Int)≤(n:Int):=by omega
   have hni:(n:Int)<32:=by omega
   by_cases hh:k+n<32
   ·have hcL:=HL.out (k+n) hh
    have ei:((k:Int)+(n:Int)).toNat=k+n:=by omega
    have hi1:(k:Int)+(n:Int)<32:=by omega
    have HV:Hid (bt a (k+n)=mvB 195 (bt a) n k):=by show _=mvB _ _ _ _;simp [mvB,hh]
    have HLT:=hide hlt
    clear hh hn0 hni HL HM hlt hk
    go_wp2
    go_roundw
    case rel =>
     have hs:=(HS.out (mvB 195 (bt a) n k)).congr (upto_next (mvB 195 (bt a) n) k (mvB 195 (bt a) n k) rfl)
     rw [HV.out]
     exact⟨k+1,HLT.out,rfl,hs⟩
    case measure=>exact meas32 HLT.out
   ·have hi1:32≤(k:Int)+(n:Int):=by omega
    have hcL:=HL.out 31 (by omega)
    have HV:Hid (bt a 31=mvB 195 (bt a) n k):=by show _=mvB _ _ _ _;simp [mvB,hh]
    have HLT:=hide hlt
    clear hh hn0 hni HL HM hlt hk
    go_wp2
    go_roundw
    case rel =>
     have hs:=(HS.out (mvB 195 (bt a) n k)).congr (upto_next (mvB 195 (bt a) n) k (mvB 195 (bt a) n k) rfl)
     rw [HV.out]
     exact⟨k+1,HLT.out,rfl,hs⟩
    case measure=>exact meas32 HLT.out
  ·have e32:k=32:=by omega
   have HX:=hide (hM.2.2.2.1.congr (g:=mvB 195 (bt a) n) (fun j hj=>by simp [show j<k by omega]))
   have hb:=hM.2.2.2.2
   have hki:¬ (k:Int)<32:=by omega
   clear hM e32
   go_wp2_with (first | (refine wpList_load32A rfl _ rfl _ _ rfl HX.out ?_;intro AR2 hAR2))
   rw [hAR2] at hO
   refine (hO _).mono ?_
   rintro e w5 ⟨rfl,hb5⟩
   go_wp2
   go_ret
   exact⟨rfl,hb.trans (hb5.mono hb.size)⟩
set_option maxHeartbeats 4000000 in
theorem refMoved196_any (a b:Int) (n:Nat) (w:World) (a0:0≤a) (a1:a<4294967296) (b0:0≤b) (b1:b<4294967296) (hn:b % 32=(n:Int)):Calls Tryz.prog 23 #[.int .u16 196,.int .u32 a,.int .u32 b] w fun e w'=>e=.returned (.int .u32 (hB (mvB 196 (bt a) n) 32 0))∧Below w.heap.size w w':=by
 have hn32:n<32:=by omega
 have HN:=hide hn
 clear hn
 have hO:=fun w=>refOf_any13 (mvB 196 (bt a) n) (mvB_01 196 _ (is01_bt a) n) w
 go_enter Tryz.func23,Tryz.ntmps23
 go_wp2_with fail
 refine (refBits_any a w a0 a1).mono ?_
 rintro e w1 ⟨rfl,hb1⟩
 generalize hAR:(arr32 (bt a)).toArray=AR
 have HA:=hide (ArrB.new w1 (fun _=>0))
 rw [arr32_zero] at HA
 go_wp2_with (refine wpList_store32A rfl _ _ rfl _ _ (bt a) _ rfl rfl hAR HA.out ?_;intro w2 hA2 hg2)
 rw [HN.out]
 clear HN
 have HM:=hide (MvK.start hb1 hA2 hg2)
 rw [arr32_zero] at HM
 clear HA hA2 hg2 hb1
 generalize hX:w2.heap.size=X at *
 generalize w1.heap.size=L at *
 generalize w2.alloc (.cells #[.int .u32 0,.int .u32 0,.int .u32 0,.int .u32 0,.int .u32 0,.int .u32 0,.int .u32 0,.int .u32 0,.int .u32 0,.int .u32 0,.int .u32 0,.int .u32 0,.int .u32 0,.int .u32 0,.int .u32 0,.int .u32 0,.int .u32 0,.int .u32 0,.int .u32 0,.int .u32 0,.int .u32 0,.int .u32 0,.int .u32 0,.int .u32 0,.int .u32 0,.int .u32 0,.int .u32 0,.int .u32 0,.int .u32 0,.int .u32 0,.int .u32 0,.int .u32 0] 44)=W3 at *
 clear hX hAR
 go_loopw [10] (fun i wr=>∃ k:Nat,k≤32∧i=.int .i64 k∧MvK w wr L X (bt a) (fun j=>if j<k then mvB 196 (bt a) n j else 0)) (fun i _=>32 - (intOf i).toNat)
 case atStart=>exact⟨0,by omega,rfl,HM.out.congr (fun k _=>by simp)⟩
 case round =>
  obtain⟨k,hk,rfl,hM⟩:=hrel
  clear HM
  by_cases hlt:k<32
  ·have hki:(k:Int)<32:=by omega
   have hcX:=hM.2.2.2.1.cell k hlt
   have hfX:=hM.2.2.2.1.frozen k
   have HL:=hide (fun j (hj:j<32)=>hM.2.2.1.cell j hj)
   have HS:=hide (fun v=>hM.set k hlt v)
   have HM:=hide hM
   clear hM
   have hn0:(0:Int)≤(n:Int):=by omega
   have hni:(n:Int)<32:=by omega
   by_cases hh:n≤k
   ·have hcL:=HL.out (k - n) (by omega)
    have ei:((k:Int) - (n:Int)).toNat=k - n:=by omega
    have hi1:(k:Int) - (n:Int)<32:=by omega
    have hi0:0≤(k:Int) - (n:Int):=by omega
    have HV:Hid (bt a (k - n)=mvB 196 (bt a) n k):=by show _=mvB _ _ _ _;simp [mvB,hh]
    have HLT:=hide hlt
    clear hh hn0 hni HL HM hlt hk
    go_wp2
    go_roundw
    case rel =>
     have hs:=(HS.out (mvB 196 (bt a) n k)).congr (upto_next (mvB 196 (bt a) n) k (mvB 196 (bt a) n k) rfl)
     rw [HV.out]
     exact⟨k+1,HLT.out,rfl,hs⟩
    case measure=>exact meas32 HLT.out
   ·have hi0:(k:Int) - (n:Int)<0:=by omega
    have HV:Hid (mvB 196 (bt a) n k=0):=by show mvB _ _ _ _=0;simp [mvB,hh]
    have HLT:=hide hlt
    clear hh hn0 hni hcX hfX HL HS hlt hk
    go_wp2
    exact⟨⟨k+1,HLT.out,rfl,HM.out.congr (upto_skip (mvB 196 (bt a) n) k HV.out)⟩,meas32 HLT.out⟩
  ·have e32:k=32:=by omega
   have HX:=hide (hM.2.2.2.1.congr (g:=mvB 196 (bt a) n) (fun j hj=>by simp [show j<k by omega]))
   have hb:=hM.2.2.2.2
   have hki:¬ (k:Int)<32:=by omega
   clear hM e32
   go_wp2_with (first | (refine wpList_load32A rfl _ rfl _ _ rfl HX.out ?_;intro AR2 hAR2))
   rw [hAR2] at hO
   refine (hO _).mono ?_
   rintro e w5 ⟨rfl,hb5⟩
   go_wp2
   go_ret
   exact⟨rfl,hb.trans (hb5.mono hb.size)⟩
end Go.Proofs.YtonhnflilfjkbaaGreat
namespace Go.Proofs.YtonhnflilfjkbaaGreat
open Go.RowKit Go.Maps
set_option linter.unusedVariables false
set_option linter.unusedSimpArgs false
set_option maxRecDepth 10000
theorem refSigned_any (a:Int) (w:World) (a0:0≤a) (a1:a<4294967296):Calls Tryz.prog 21 #[.int .u32 a] w fun e w'=>e=.returned (.int .i64 (wrap32 a))∧w=w':=by
 by_cases h:a<2147483648
 ·have e:wrap32 a=a:=by unfold wrap32;omega
  rw [e]
  go_enter Tryz.func21,Tryz.ntmps21
  go_wp2
  go_ret
  exact⟨rfl,rfl⟩
 ·have e:wrap32 a=a - 4294967296:=by unfold wrap32;omega
  rw [e]
  go_enter Tryz.func21,Tryz.ntmps21
  go_wp2
  go_ret
  exact⟨rfl,rfl⟩
theorem refWord_any (n:Int) (w:World) (n0:-9223372036854775808≤n) (n1:n<9223372036854775808):Calls Tryz.prog 19 #[.int .i64 n] w fun e w'=>e=.returned (.int .u32 (n % 4294967296))∧w=w':=by
 have hr:=@Int.tmod_eq_emod n 4294967296
 have hr2:n.tmod 4294967296=n % 4294967296∨(n.tmod 4294967296<0∧n.tmod 4294967296+4294967296=n % 4294967296):=by
  rw [hr];split <;> omega
 have hin:-4294967296≤n.tmod 4294967296∧n.tmod 4294967296<4294967296:=by omega
 clear hr
 by_cases h:n.tmod 4294967296<0
 ·have e:n % 4294967296=n.tmod 4294967296+4294967296:=by omega
  rw [e]
  generalize hx:n.tmod 4294967296=x at *
  go_enter Tryz.func19,Tryz.ntmps19
  go_wp2
  go_ret
  exact⟨rfl,rfl⟩
 ·have e:n % 4294967296=n.tmod 4294967296:=by omega
  rw [e]
  generalize hx:n.tmod 4294967296=x at *
  go_enter Tryz.func19,Tryz.ntmps19
  go_wp2
  go_ret
  exact⟨rfl,rfl⟩
theorem refTruth_any (x:Bool) (w:World):Calls Tryz.prog 14 #[.bool x] w fun e w'=>e=.returned (.int .u32 (b2i x))∧w=w':=by
 cases x
 ·go_enter Tryz.func14,Tryz.ntmps14
  go_wp2
  go_ret
  exact⟨rfl,rfl⟩
 ·go_enter Tryz.func14,Tryz.ntmps14
  go_wp2
  go_ret
  exact⟨rfl,rfl⟩
theorem wrap64_at (x y:Int) (h:x=y) (hy:-9223372036854775808≤y∧y≤9223372036854775807):wrap64 x=y:=by subst h;unfold wrap64;omega
theorem wrap64_neg (x y:Int) (h:x=-y) (hy:-9223372036854775808≤y∧y≤9223372036854775807) (hx:-9223372036854775808≤x∧x≤9223372036854775807):wrap64 (-wrap64 x)=y:=by
 rw [wrap64_at x x rfl hx];exact wrap64_at _ _ (by omega) hy
theorem refCut_any13 (s t:Int) (w:World) (s0:-2147483648≤s) (s1:s<2147483648) (t0:-2147483648≤t) (t1:t<2147483648) (ht:t≠0):Calls Tryz.prog 32 #[.int .i64 s,.int .i64 t] w fun e w'=>e=.returned (.int .i64 (s.tdiv t))∧w=w':=by
 by_cases hs:s<0
 ·by_cases hh:t<0
  ·have e:s.tdiv t=-((-s) / t):=by rw [← Int.ediv_neg,← Int.tdiv_eq_ediv_of_nonneg (by omega),Int.neg_tdiv,Int.tdiv_neg,Int.neg_neg]
   have hd:=div_le (-s) (-t) (by omega) (by omega)
   rw [Int.ediv_neg] at hd
   rw [e]
   go_enter Tryz.func32,Tryz.ntmps32
   go_wp2
   go_ret
   first | exact⟨rfl,rfl⟩ | exact⟨ret_int (wrap64_at _ _ rfl (by omega)),rfl⟩
  ·have e:s.tdiv t=-((-s) / t):=by rw [← Int.tdiv_eq_ediv_of_nonneg (by omega),Int.neg_tdiv,Int.neg_neg]
   have hd:=div_le (-s) t (by omega) (by omega)
   rw [e]
   go_enter Tryz.func32,Tryz.ntmps32
   go_wp2
   go_ret
   first | exact⟨rfl,rfl⟩ | exact⟨ret_int (wrap64_at _ _ rfl (by omega)),rfl⟩ | exact⟨ret_int (wrap64_neg _ _ (by omega) (by omega) (by omega)),rfl⟩
 ·by_cases hh:t<0
  ·have e:s.tdiv t=s / t:=by rw [← Int.neg_neg t,Int.tdiv_neg,Int.ediv_neg,Int.tdiv_eq_ediv_of_nonneg (by omega)]
   have hd:=div_le s (-t) (by omega) (by omega)
   rw [Int.ediv_neg] at hd
   rw [e]
   go_enter Tryz.func32,Tryz.ntmps32
   go_wp2
   go_ret
   first | exact⟨rfl,rfl⟩ | exact⟨ret_int (wrap64_neg _ _ rfl (by omega) (by omega)),rfl⟩
  ·have e:s.tdiv t=s / t:=Int.tdiv_eq_ediv_of_nonneg (by omega)
   have hd:=div_le s t (by omega) (by omega)
   rw [e]
   go_enter Tryz.func32,Tryz.ntmps32
   go_wp2
   go_ret
   first | exact⟨rfl,rfl⟩ | exact⟨ret_int (wrap64_at _ _ rfl (by omega)),rfl⟩
theorem tdiv_in (s t:Int) (hs:-2147483648≤s∧s<2147483648) (ht:t≠0):-2147483648≤s.tdiv t∧s.tdiv t≤2147483648:=by
 have h1:=Int.natAbs_tdiv s t
 have h2:s.natAbs / t.natAbs≤s.natAbs:=Nat.div_le_self _ _
 have h3:s.natAbs.div t.natAbs=s.natAbs / t.natAbs:=rfl
 omega
theorem tmod_sub (s t:Int):s - t * s.tdiv t=s.tmod t:=by have:=Int.tmod_add_mul_tdiv s t;omega
set_option maxHeartbeats 2000000 in
theorem refDivided_at (op a b S T D R Q P:Int) (w:World) (a0:0≤a) (a1:a<4294967296) (b0:0≤b) (b1:b<4294967296) (hb:b≠0) (hop:op=134∨op=135∨op=137∨op=138∨op=139) (hS:wrap32 a=S) (hT:wrap32 b=T) (iS:-2147483648≤S∧S<2147483648) (iT:-2147483648≤T∧T<2147483648) (nT:T≠0)
  (hD:S.tdiv T=D) (iD:-2147483648≤D∧D≤2147483648) (hR:S - T * D=R) (hTD:-9223372036854775808≤T * D∧T * D≤9223372036854775807) (iR:-2147483648≤R∧R<2147483648) (hQ:a / b=Q) (hP:b * Q=P) (iP:0≤P∧P≤a) (iQ:0≤Q∧Q≤a) :
  Calls Tryz.prog 22 #[.int .u16 op,.int .u32 a,.int .u32 b] w fun e w'=>e=.returned (.int .u32 (if op=134 then Q % 4294967296 else if op=137 then (a - P) % 4294967296 else if op=135 then D % 4294967296 else if op=138 then R % 4294967296 else if R≠0∧(R<0↔¬ T<0) then (R+T) % 4294967296 else R % 4294967296))∧w=w':=by
 have hC:=fun w=>refCut_any13 S T w iS.1 iS.2 iT.1 iT.2 nT
 rw [hD] at hC
 have h1:=fun w=>refSigned_any a w a0 a1
 have h2:=fun w=>refSigned_any b w b0 b1
 rw [hS] at h1
 rw [hT] at h2
 clear hD
 rcases hop with rfl | rfl | rfl | rfl | rfl
 ·skip
  go_enter Tryz.func22,Tryz.ntmps22
  go_wp2_with fail
  refine (h1 _).mono ?_
  rintro e w' ⟨rfl,rfl⟩
  go_wp2_with fail
  refine (h2 _).mono ?_
  rintro e w' ⟨rfl,rfl⟩
  go_wp2_with fail
  refine (hC _).mono ?_
  rintro e w' ⟨rfl,rfl⟩
  go_wp2_with fail
  refine (refWord_any _ _ (by omega) (by omega)).mono ?_
  rintro e w' ⟨rfl,rfl⟩
  go_wp2
  go_ret
  exact⟨by simp,rfl⟩
 ·skip
  go_enter Tryz.func22,Tryz.ntmps22
  go_wp2_with fail
  refine (h1 _).mono ?_
  rintro e w' ⟨rfl,rfl⟩
  go_wp2_with fail
  refine (h2 _).mono ?_
  rintro e w' ⟨rfl,rfl⟩
  go_wp2_with fail
  refine (hC _).mono ?_
  rintro e w' ⟨rfl,rfl⟩
  go_wp2_with fail
  refine (hC _).mono ?_
  rintro e w' ⟨rfl,rfl⟩
  go_wp2_with fail
  refine (refWord_any _ _ (by omega) (by omega)).mono ?_
  rintro e w' ⟨rfl,rfl⟩
  go_wp2
  go_ret
  exact⟨by simp,rfl⟩
 ·skip
  go_enter Tryz.func22,Tryz.ntmps22
  go_wp2_with fail
  refine (h1 _).mono ?_
  rintro e w' ⟨rfl,rfl⟩
  go_wp2_with fail
  refine (h2 _).mono ?_
  rintro e w' ⟨rfl,rfl⟩
  go_wp2_with fail
  refine (hC _).mono ?_
  rintro e w' ⟨rfl,rfl⟩
  go_wp2_with fail
  refine (refWord_any _ _ (by omega) (by omega)).mono ?_
  rintro e w' ⟨rfl,rfl⟩
  go_wp2
  go_ret
  exact⟨by simp,rfl⟩
 ·skip
  go_enter Tryz.func22,Tryz.ntmps22
  go_wp2_with fail
  refine (h1 _).mono ?_
  rintro e w' ⟨rfl,rfl⟩
  go_wp2_with fail
  refine (h2 _).mono ?_
  rintro e w' ⟨rfl,rfl⟩
  go_wp2_with fail
  refine (hC _).mono ?_
  rintro e w' ⟨rfl,rfl⟩
  go_wp2_with fail
  refine (refWord_any _ _ (by omega) (by omega)).mono ?_
  rintro e w' ⟨rfl,rfl⟩
  go_wp2
  go_ret
  exact⟨by simp,rfl⟩
 ·skip
  have key:∀ V:Int,(if R≠0∧(R<0↔¬ T<0) then R+T else R)=V→Calls Tryz.prog 22 #[.int .u16 139,.int .u32 a,.int .u32 b] w fun e w'=>e=.returned (.int .u32 (V % 4294967296))∧w=w':=by
   intro V hV
   by_cases c1:R=0
   ·have eV:V=0:=by rw [← hV,c1];simp
    rw [eV]
    go_enter Tryz.func22,Tryz.ntmps22
    go_wp2_with fail
    refine (h1 _).mono ?_
    rintro e w' ⟨rfl,rfl⟩
    go_wp2_with fail
    refine (h2 _).mono ?_
    rintro e w' ⟨rfl,rfl⟩
    go_wp2_with fail
    refine (hC _).mono ?_
    rintro e w' ⟨rfl,rfl⟩
    go_wp2_with fail
    refine (refWord_any _ _ (by omega) (by omega)).mono ?_
    rintro e w' ⟨rfl,rfl⟩
    go_wp2
    go_ret
    exact⟨rfl,rfl⟩
   ·by_cases d1:T<0
    ·by_cases d2:R<0
     ·have eV:V=R:=by rw [← hV];simp [c1,d1,d2]
      rw [eV]
      clear hV eV
      go_enter Tryz.func22,Tryz.ntmps22
      go_wp2_with fail
      refine (h1 _).mono ?_
      rintro e w' ⟨rfl,rfl⟩
      go_wp2_with fail
      refine (h2 _).mono ?_
      rintro e w' ⟨rfl,rfl⟩
      go_wp2_with fail
      refine (hC _).mono ?_
      rintro e w' ⟨rfl,rfl⟩
      go_wp2_with fail
      refine (refWord_any _ _ (by omega) (by omega)).mono ?_
      rintro e w' ⟨rfl,rfl⟩
      go_wp2
      go_ret
      exact⟨rfl,rfl⟩
     ·have eV:V=R+T:=by rw [← hV];simp [c1,d1,d2]
      rw [eV]
      clear hV eV
      go_enter Tryz.func22,Tryz.ntmps22
      go_wp2_with fail
      refine (h1 _).mono ?_
      rintro e w' ⟨rfl,rfl⟩
      go_wp2_with fail
      refine (h2 _).mono ?_
      rintro e w' ⟨rfl,rfl⟩
      go_wp2_with fail
      refine (hC _).mono ?_
      rintro e w' ⟨rfl,rfl⟩
      go_wp2_with fail
      rotate_left
      ·exfalso
       rename _∨_=>hx
       rcases hx with hx | hx <;> simp at hx <;> omega
      refine (refWord_any _ _ (by omega) (by omega)).mono ?_
      rintro e w' ⟨rfl,rfl⟩
      go_wp2
      go_ret
      exact⟨rfl,rfl⟩
    ·by_cases d2:R<0
     ·have eV:V=R+T:=by rw [← hV];simp [c1,d1,d2]
      rw [eV]
      clear hV eV
      go_enter Tryz.func22,Tryz.ntmps22
      go_wp2_with fail
      refine (h1 _).mono ?_
      rintro e w' ⟨rfl,rfl⟩
      go_wp2_with fail
      refine (h2 _).mono ?_
      rintro e w' ⟨rfl,rfl⟩
      go_wp2_with fail
      refine (hC _).mono ?_
      rintro e w' ⟨rfl,rfl⟩
      go_wp2_with fail
      rotate_left
      ·exfalso
       rename _∨_=>hx
       rcases hx with hx | hx <;> simp at hx <;> omega
      refine (refWord_any _ _ (by omega) (by omega)).mono ?_
      rintro e w' ⟨rfl,rfl⟩
      go_wp2
      go_ret
      exact⟨rfl,rfl⟩
     ·have eV:V=R:=by rw [← hV];simp [c1,d1,d2]
      rw [eV]
      clear hV eV
      go_enter Tryz.func22,Tryz.ntmps22
      go_wp2_with fail
      refine (h1 _).mono ?_
      rintro e w' ⟨rfl,rfl⟩
      go_wp2_with fail
      refine (h2 _).mono ?_
      rintro e w' ⟨rfl,rfl⟩
      go_wp2_with fail
      refine (hC _).mono ?_
      rintro e w' ⟨rfl,rfl⟩
      go_wp2_with fail
      ·exfalso
       rename _∧_=>hx
       have hx2:=hx.2
       simp at hx2
       omega
      refine (refWord_any _ _ (by omega) (by omega)).mono ?_
      rintro e w' ⟨rfl,rfl⟩
      go_wp2
      go_ret
      exact⟨rfl,rfl⟩
  have hk:=key _ rfl
  by_cases c:R≠0∧(R<0↔¬ T<0)
  ·rw [if_pos c] at hk
   rw [if_neg (by decide),if_neg (by decide),if_neg (by decide),if_neg (by decide),if_pos c]
   exact hk
  ·rw [if_neg c] at hk
   rw [if_neg (by decide),if_neg (by decide),if_neg (by decide),if_neg (by decide),if_neg c]
   exact hk
end Go.Proofs.YtonhnflilfjkbaaGreat
namespace Go.Proofs.YtonhnflilfjkbaaGreat
open Go.RowKit
set_option linter.unusedVariables false
set_option linter.unusedSimpArgs false
set_option maxRecDepth 10000
def notB (a:Int) (j:Nat):Int:=1 - bt a j
theorem notB_01 (a:Int):Is01 (notB a):=fun j=>by unfold notB;rcases bt_or a j with h | h <;> omega
theorem not_eq (a:Int) (a0:0≤a) (a1:a<4294967296):hB (notB a) 32 0=4294967295 - a :=
 hB_eq _ _ (notB_01 a) (by omega) (by omega) fun k hk=>bt_not a k hk
set_option maxHeartbeats 4000000 in
theorem refUn83 (op a:Int) (w:World) (a0:0≤a) (a1:a<4294967296) (ho:op=83):Calls Tryz.prog 10 #[.int .u16 op,.int .u32 a] w fun e w'=>e=.returned (.tuple #[.int .u32 a,.bool true])∧Below w.heap.size w w':=by
 subst ho
 go_enter Tryz.func10,Tryz.ntmps10
 go_wp2_with fail
 refine (refBits_any a w a0 a1).mono ?_
 rintro e w1 ⟨rfl,hb1⟩
 generalize hAR:(arr32 (bt a)).toArray=AR
 have HA:=hide (ArrB.new w1 (fun _=>0))
 rw [arr32_zero] at HA
 go_wp2_with (first | fail | (refine wpList_store32A rfl _ _ rfl _ _ (bt a) _ rfl rfl hAR HA.out ?_;intro w2 hA2 hg2))
 have HM:=hide (MvK.start hb1 hA2 hg2)
 rw [arr32_zero] at HM
 clear HA hA2 hg2 hb1
 generalize hX:w2.heap.size=X at *
 generalize w1.heap.size=L at *
 generalize w2.alloc (.cells #[.int .u32 0,.int .u32 0,.int .u32 0,.int .u32 0,.int .u32 0,.int .u32 0,.int .u32 0,.int .u32 0,.int .u32 0,.int .u32 0,.int .u32 0,.int .u32 0,.int .u32 0,.int .u32 0,.int .u32 0,.int .u32 0,.int .u32 0,.int .u32 0,.int .u32 0,.int .u32 0,.int .u32 0,.int .u32 0,.int .u32 0,.int .u32 0,.int .u32 0,.int .u32 0,.int .u32 0,.int .u32 0,.int .u32 0,.int .u32 0,.int .u32 0,.int .u32 0] 44)=W3 at *
 clear hX hAR
 go_loopw [8,9] (fun x i wr=>∃ k:Nat,k≤32∧i=.int .i64 k∧x=.int .u32 (cntB (bt a) k)∧wr=W3) (fun _ i _=>32 - (intOf i).toNat)
 case atStart=>exact⟨0,by omega,rfl,rfl,rfl⟩
 case round =>
  obtain⟨k,hk,rfl,rfl,rfl⟩:=hrel
  by_cases hlt:k<32
  ·have hki:(k:Int)<32:=by omega
   have hc:=HM.out.2.2.1.cell k hlt
   have hin:=cntB_in (bt a) (is01_bt a) k
   have hb:=bt_or a k
   have HY:Hid (Value.int .u32 (cntB (bt a) k+bt a k)=Value.int .u32 (cntB (bt a) (k+1))):=rfl
   have HLT:=hide hlt
   clear hlt hk
   generalize cntB (bt a) k=Y at *
   generalize bt a k=y at *
   go_wp2
   exact⟨⟨k+1,HLT.out,by simp,HY.out,by trivial⟩,meas32 HLT.out⟩
  ·have e32:k=32:=by omega
   subst e32
   have hbw:=HM.out.2.2.2.2
   clear HM
   go_wp2
   go_ret2
   exact⟨rfl,hbw⟩
set_option maxHeartbeats 4000000 in
theorem refUn124 (op a:Int) (w:World) (a0:0≤a) (a1:a<4294967296) (ho:op=124):Calls Tryz.prog 10 #[.int .u16 op,.int .u32 a] w fun e w'=>e=.returned (.tuple #[.int .u32 a,.bool true])∧Below w.heap.size w w':=by
 subst ho
 go_enter Tryz.func10,Tryz.ntmps10
 go_wp2_with fail
 refine (refBits_any a w a0 a1).mono ?_
 rintro e w1 ⟨rfl,hb1⟩
 generalize hAR:(arr32 (bt a)).toArray=AR
 have HA:=hide (ArrB.new w1 (fun _=>0))
 rw [arr32_zero] at HA
 go_wp2_with (first | fail | (refine wpList_store32A rfl _ _ rfl _ _ (bt a) _ rfl rfl hAR HA.out ?_;intro w2 hA2 hg2))
 have HM:=hide (MvK.start hb1 hA2 hg2)
 rw [arr32_zero] at HM
 clear HA hA2 hg2 hb1
 generalize hX:w2.heap.size=X at *
 generalize w1.heap.size=L at *
 generalize w2.alloc (.cells #[.int .u32 0,.int .u32 0,.int .u32 0,.int .u32 0,.int .u32 0,.int .u32 0,.int .u32 0,.int .u32 0,.int .u32 0,.int .u32 0,.int .u32 0,.int .u32 0,.int .u32 0,.int .u32 0,.int .u32 0,.int .u32 0,.int .u32 0,.int .u32 0,.int .u32 0,.int .u32 0,.int .u32 0,.int .u32 0,.int .u32 0,.int .u32 0,.int .u32 0,.int .u32 0,.int .u32 0,.int .u32 0,.int .u32 0,.int .u32 0,.int .u32 0,.int .u32 0] 44)=W3 at *
 clear hX hAR
 go_loopw [8,9] (fun x i wr=>∃ k:Nat,k≤32∧i=.int .i64 k∧x=.int .u32 (cntB (bt a) k)∧wr=W3) (fun _ i _=>32 - (intOf i).toNat)
 case atStart=>exact⟨0,by omega,rfl,rfl,rfl⟩
 case round =>
  obtain⟨k,hk,rfl,rfl,rfl⟩:=hrel
  by_cases hlt:k<32
  ·have hki:(k:Int)<32:=by omega
   have hc:=HM.out.2.2.1.cell k hlt
   have hin:=cntB_in (bt a) (is01_bt a) k
   have hb:=bt_or a k
   have HY:Hid (Value.int .u32 (cntB (bt a) k+bt a k)=Value.int .u32 (cntB (bt a) (k+1))):=rfl
   have HLT:=hide hlt
   clear hlt hk
   generalize cntB (bt a) k=Y at *
   generalize bt a k=y at *
   go_wp2
   exact⟨⟨k+1,HLT.out,by simp,HY.out,by trivial⟩,meas32 HLT.out⟩
  ·have e32:k=32:=by omega
   subst e32
   have hbw:=HM.out.2.2.2.2
   clear HM
   go_wp2
   go_ret2
   exact⟨rfl,hbw⟩
set_option maxHeartbeats 4000000 in
theorem refUn126 (op a:Int) (w:World) (a0:0≤a) (a1:a<4294967296) (ho:op=126):Calls Tryz.prog 10 #[.int .u16 op,.int .u32 a] w fun e w'=>e=.returned (.tuple #[.int .u32 (unV 126 a),.bool true])∧Below w.heap.size w w':=by
 subst ho
 have HV:Hid ((-a) % 4294967296=unV 126 a):=rfl
 go_enter Tryz.func10,Tryz.ntmps10
 go_wp2_with fail
 refine (refBits_any a w a0 a1).mono ?_
 rintro e w1 ⟨rfl,hb1⟩
 generalize hAR:(arr32 (bt a)).toArray=AR
 have HA:=hide (ArrB.new w1 (fun _=>0))
 rw [arr32_zero] at HA
 go_wp2_with (first | fail | (refine wpList_store32A rfl _ _ rfl _ _ (bt a) _ rfl rfl hAR HA.out ?_;intro w2 hA2 hg2))
 have HM:=hide (MvK.start hb1 hA2 hg2)
 rw [arr32_zero] at HM
 clear HA hA2 hg2 hb1
 generalize hX:w2.heap.size=X at *
 generalize w1.heap.size=L at *
 generalize w2.alloc (.cells #[.int .u32 0,.int .u32 0,.int .u32 0,.int .u32 0,.int .u32 0,.int .u32 0,.int .u32 0,.int .u32 0,.int .u32 0,.int .u32 0,.int .u32 0,.int .u32 0,.int .u32 0,.int .u32 0,.int .u32 0,.int .u32 0,.int .u32 0,.int .u32 0,.int .u32 0,.int .u32 0,.int .u32 0,.int .u32 0,.int .u32 0,.int .u32 0,.int .u32 0,.int .u32 0,.int .u32 0,.int .u32 0,.int .u32 0,.int .u32 0,.int .u32 0,.int .u32 0] 44)=W3 at *
 clear hX hAR
 go_loopw [8,9] (fun x i wr=>∃ k:Nat,k≤32∧i=.int .i64 k∧x=.int .u32 (cntB (bt a) k)∧wr=W3) (fun _ i _=>32 - (intOf i).toNat)
 case atStart=>exact⟨0,by omega,rfl,rfl,rfl⟩
 case round =>
  obtain⟨k,hk,rfl,rfl,rfl⟩:=hrel
  by_cases hlt:k<32
  ·have hki:(k:Int)<32:=by omega
   have hc:=HM.out.2.2.1.cell k hlt
   have hin:=cntB_in (bt a) (is01_bt a) k
   have hb:=bt_or a k
   have HY:Hid (Value.int .u32 (cntB (bt a) k+bt a k)=Value.int .u32 (cntB (bt a) (k+1))):=rfl
   have HLT:=hide hlt
   clear hlt hk
   generalize cntB (bt a) k=Y at *
   generalize bt a k=y at *
   go_wp2
   exact⟨⟨k+1,HLT.out,by simp,HY.out,by trivial⟩,meas32 HLT.out⟩
  ·have e32:k=32:=by omega
   subst e32
   have hbw:=HM.out.2.2.2.2
   clear HM
   go_wp2_with fail
   refine (refWord_any _ _ (by omega) (by omega)).mono ?_
   rintro e w' ⟨rfl,rfl⟩
   go_wp2
   rw [HV.out]
   go_ret2
   exact⟨rfl,hbw⟩
set_option maxHeartbeats 4000000 in
theorem refUn168 (op a:Int) (w:World) (a0:0≤a) (a1:a<4294967296) (ho:op=168):Calls Tryz.prog 10 #[.int .u16 op,.int .u32 a] w fun e w'=>e=.returned (.tuple #[.int .u32 (unV 168 a),.bool true])∧Below w.heap.size w w':=by
 subst ho
 have hcz:=cntB_zero a a0 a1
 have hdz:decide (cntB (bt a) 32=0)=decide (a=0):=by rw [decide_eq_decide];exact hcz
 have HV:Hid (b2i (decide (cntB (bt a) 32=0))=unV 168 a):=by show _=b2i (decide (a=0));rw [hdz]
 clear hcz hdz
 go_enter Tryz.func10,Tryz.ntmps10
 go_wp2_with fail
 refine (refBits_any a w a0 a1).mono ?_
 rintro e w1 ⟨rfl,hb1⟩
 generalize hAR:(arr32 (bt a)).toArray=AR
 have HA:=hide (ArrB.new w1 (fun _=>0))
 rw [arr32_zero] at HA
 go_wp2_with (first | fail | (refine wpList_store32A rfl _ _ rfl _ _ (bt a) _ rfl rfl hAR HA.out ?_;intro w2 hA2 hg2))
 have HM:=hide (MvK.start hb1 hA2 hg2)
 rw [arr32_zero] at HM
 clear HA hA2 hg2 hb1
 generalize hX:w2.heap.size=X at *
 generalize w1.heap.size=L at *
 generalize w2.alloc (.cells #[.int .u32 0,.int .u32 0,.int .u32 0,.int .u32 0,.int .u32 0,.int .u32 0,.int .u32 0,.int .u32 0,.int .u32 0,.int .u32 0,.int .u32 0,.int .u32 0,.int .u32 0,.int .u32 0,.int .u32 0,.int .u32 0,.int .u32 0,.int .u32 0,.int .u32 0,.int .u32 0,.int .u32 0,.int .u32 0,.int .u32 0,.int .u32 0,.int .u32 0,.int .u32 0,.int .u32 0,.int .u32 0,.int .u32 0,.int .u32 0,.int .u32 0,.int .u32 0] 44)=W3 at *
 clear hX hAR
 go_loopw [8,9] (fun x i wr=>∃ k:Nat,k≤32∧i=.int .i64 k∧x=.int .u32 (cntB (bt a) k)∧wr=W3) (fun _ i _=>32 - (intOf i).toNat)
 case atStart=>exact⟨0,by omega,rfl,rfl,rfl⟩
 case round =>
  obtain⟨k,hk,rfl,rfl,rfl⟩:=hrel
  by_cases hlt:k<32
  ·have hki:(k:Int)<32:=by omega
   have hc:=HM.out.2.2.1.cell k hlt
   have hin:=cntB_in (bt a) (is01_bt a) k
   have hb:=bt_or a k
   have HY:Hid (Value.int .u32 (cntB (bt a) k+bt a k)=Value.int .u32 (cntB (bt a) (k+1))):=rfl
   have HLT:=hide hlt
   clear hlt hk
   generalize cntB (bt a) k=Y at *
   generalize bt a k=y at *
   go_wp2
   exact⟨⟨k+1,HLT.out,by simp,HY.out,by trivial⟩,meas32 HLT.out⟩
  ·have e32:k=32:=by omega
   subst e32
   have hbw:=HM.out.2.2.2.2
   clear HM
   generalize cntB (bt a) 32=Y at *
   go_wp2_with fail
   refine (refTruth_any _ _).mono ?_
   rintro e w' ⟨rfl,rfl⟩
   go_wp2
   rw [beq_dec,HV.out]
   go_ret2
   exact⟨rfl,hbw⟩
set_option maxHeartbeats 4000000 in
theorem refUn205 (op a:Int) (w:World) (a0:0≤a) (a1:a<4294967296) (ho:op=205):Calls Tryz.prog 10 #[.int .u16 op,.int .u32 a] w fun e w'=>e=.returned (.tuple #[.int .u32 (unV 205 a),.bool true])∧Below w.heap.size w w':=by
 subst ho
 have HV:Hid (cntB (bt a) 32=unV 205 a):=rfl
 go_enter Tryz.func10,Tryz.ntmps10
 go_wp2_with fail
 refine (refBits_any a w a0 a1).mono ?_
 rintro e w1 ⟨rfl,hb1⟩
 generalize hAR:(arr32 (bt a)).toArray=AR
 have HA:=hide (ArrB.new w1 (fun _=>0))
 rw [arr32_zero] at HA
 go_wp2_with (first | fail | (refine wpList_store32A rfl _ _ rfl _ _ (bt a) _ rfl rfl hAR HA.out ?_;intro w2 hA2 hg2))
 have HM:=hide (MvK.start hb1 hA2 hg2)
 rw [arr32_zero] at HM
 clear HA hA2 hg2 hb1
 generalize hX:w2.heap.size=X at *
 generalize w1.heap.size=L at *
 generalize w2.alloc (.cells #[.int .u32 0,.int .u32 0,.int .u32 0,.int .u32 0,.int .u32 0,.int .u32 0,.int .u32 0,.int .u32 0,.int .u32 0,.int .u32 0,.int .u32 0,.int .u32 0,.int .u32 0,.int .u32 0,.int .u32 0,.int .u32 0,.int .u32 0,.int .u32 0,.int .u32 0,.int .u32 0,.int .u32 0,.int .u32 0,.int .u32 0,.int .u32 0,.int .u32 0,.int .u32 0,.int .u32 0,.int .u32 0,.int .u32 0,.int .u32 0,.int .u32 0,.int .u32 0] 44)=W3 at *
 clear hX hAR
 go_loopw [8,9] (fun x i wr=>∃ k:Nat,k≤32∧i=.int .i64 k∧x=.int .u32 (cntB (bt a) k)∧wr=W3) (fun _ i _=>32 - (intOf i).toNat)
 case atStart=>exact⟨0,by omega,rfl,rfl,rfl⟩
 case round =>
  obtain⟨k,hk,rfl,rfl,rfl⟩:=hrel
  by_cases hlt:k<32
  ·have hki:(k:Int)<32:=by omega
   have hc:=HM.out.2.2.1.cell k hlt
   have hin:=cntB_in (bt a) (is01_bt a) k
   have hb:=bt_or a k
   have HY:Hid (Value.int .u32 (cntB (bt a) k+bt a k)=Value.int .u32 (cntB (bt a) (k+1))):=rfl
   have HLT:=hide hlt
   clear hlt hk
   generalize cntB (bt a) k=Y at *
   generalize bt a k=y at *
   go_wp2
   exact⟨⟨k+1,HLT.out,by simp,HY.out,by trivial⟩,meas32 HLT.out⟩
  ·have e32:k=32:=by omega
   subst e32
   have hbw:=HM.out.2.2.2.2
   clear HM
   rw [HV.out]
   go_wp2
   go_ret2
   exact⟨rfl,hbw⟩
set_option maxHeartbeats 4000000 in
theorem refUnNone (op a:Int) (w:World) (a0:0≤a) (a1:a<4294967296) (c1:¬ op=83) (c2:¬ op=124) (c3:¬ op=126) (c4:¬ op=168) (c5:¬ op=200) (c6:¬ op=204) (c7:¬ op=205):Calls Tryz.prog 10 #[.int .u16 op,.int .u32 a] w fun e w'=>e=.returned (.tuple #[.int .u32 0,.bool false])∧Below w.heap.size w w':=by
 go_enter Tryz.func10,Tryz.ntmps10
 go_wp2_with fail
 refine (refBits_any a w a0 a1).mono ?_
 rintro e w1 ⟨rfl,hb1⟩
 generalize hAR:(arr32 (bt a)).toArray=AR
 have HA:=hide (ArrB.new w1 (fun _=>0))
 rw [arr32_zero] at HA
 go_wp2_with (first | fail | (refine wpList_store32A rfl _ _ rfl _ _ (bt a) _ rfl rfl hAR HA.out ?_;intro w2 hA2 hg2))
 have HM:=hide (MvK.start hb1 hA2 hg2)
 rw [arr32_zero] at HM
 clear HA hA2 hg2 hb1
 generalize hX:w2.heap.size=X at *
 generalize w1.heap.size=L at *
 generalize w2.alloc (.cells #[.int .u32 0,.int .u32 0,.int .u32 0,.int .u32 0,.int .u32 0,.int .u32 0,.int .u32 0,.int .u32 0,.int .u32 0,.int .u32 0,.int .u32 0,.int .u32 0,.int .u32 0,.int .u32 0,.int .u32 0,.int .u32 0,.int .u32 0,.int .u32 0,.int .u32 0,.int .u32 0,.int .u32 0,.int .u32 0,.int .u32 0,.int .u32 0,.int .u32 0,.int .u32 0,.int .u32 0,.int .u32 0,.int .u32 0,.int .u32 0,.int .u32 0,.int .u32 0] 44)=W3 at *
 clear hX hAR
 go_loopw [8,9] (fun x i wr=>∃ k:Nat,k≤32∧i=.int .i64 k∧x=.int .u32 (cntB (bt a) k)∧wr=W3) (fun _ i _=>32 - (intOf i).toNat)
 case atStart=>exact⟨0,by omega,rfl,rfl,rfl⟩
 case round =>
  obtain⟨k,hk,rfl,rfl,rfl⟩:=hrel
  by_cases hlt:k<32
  ·have hki:(k:Int)<32:=by omega
   have hc:=HM.out.2.2.1.cell k hlt
   have hin:=cntB_in (bt a) (is01_bt a) k
   have hb:=bt_or a k
   have HY:Hid (Value.int .u32 (cntB (bt a) k+bt a k)=Value.int .u32 (cntB (bt a) (k+1))):=rfl
   have HLT:=hide hlt
   clear hlt hk
   generalize cntB (bt a) k=Y at *
   generalize bt a k=y at *
   go_wp2
   exact⟨⟨k+1,HLT.out,by simp,HY.out,by trivial⟩,meas32 HLT.out⟩
  ·have e32:k=32:=by omega
   subst e32
   have hbw:=HM.out.2.2.2.2
   clear HM
   go_wp2
   go_ret2
   exact⟨rfl,hbw⟩
set_option maxHeartbeats 4000000 in
theorem refUn200 (op a:Int) (w:World) (a0:0≤a) (a1:a<4294967296) (ho:op=200):Calls Tryz.prog 10 #[.int .u16 op,.int .u32 a] w fun e w'=>e=.returned (.tuple #[.int .u32 (unV 200 a),.bool true])∧Below w.heap.size w w':=by
 subst ho
 have hO:=fun w=>refOf_any13 (notB a) (notB_01 a) w
 have hV:hB (notB a) 32 0=unV 200 a:=not_eq a a0 a1
 rw [hV] at hO
 generalize unV 200 a=V at *
 clear hV
 go_enter Tryz.func10,Tryz.ntmps10
 go_wp2_with fail
 refine (refBits_any a w a0 a1).mono ?_
 rintro e w1 ⟨rfl,hb1⟩
 generalize hAR:(arr32 (bt a)).toArray=AR
 have HA:=hide (ArrB.new w1 (fun _=>0))
 rw [arr32_zero] at HA
 go_wp2_with (first | fail | (refine wpList_store32A rfl _ _ rfl _ _ (bt a) _ rfl rfl hAR HA.out ?_;intro w2 hA2 hg2))
 have HM:=hide (MvK.start hb1 hA2 hg2)
 rw [arr32_zero] at HM
 clear HA hA2 hg2 hb1
 generalize hX:w2.heap.size=X at *
 generalize w1.heap.size=L at *
 generalize w2.alloc (.cells #[.int .u32 0,.int .u32 0,.int .u32 0,.int .u32 0,.int .u32 0,.int .u32 0,.int .u32 0,.int .u32 0,.int .u32 0,.int .u32 0,.int .u32 0,.int .u32 0,.int .u32 0,.int .u32 0,.int .u32 0,.int .u32 0,.int .u32 0,.int .u32 0,.int .u32 0,.int .u32 0,.int .u32 0,.int .u32 0,.int .u32 0,.int .u32 0,.int .u32 0,.int .u32 0,.int .u32 0,.int .u32 0,.int .u32 0,.int .u32 0,.int .u32 0,.int .u32 0] 44)=W3 at *
 clear hX hAR
 go_loopw [8,9] (fun x i wr=>∃ k:Nat,k≤32∧i=.int .i64 k∧x=.int .u32 (cntB (bt a) k)∧wr=W3) (fun _ i _=>32 - (intOf i).toNat)
 case atStart=>exact⟨0,by omega,rfl,rfl,rfl⟩
 case round =>
  obtain⟨k,hk,rfl,rfl,rfl⟩:=hrel
  by_cases hlt:k<32
  ·have hki:(k:Int)<32:=by omega
   have hc:=HM.out.2.2.1.cell k hlt
   have hin:=cntB_in (bt a) (is01_bt a) k
   have hb:=bt_or a k
   have HY:Hid (Value.int .u32 (cntB (bt a) k+bt a k)=Value.int .u32 (cntB (bt a) (k+1))):=rfl
   have HLT:=hide hlt
   clear hlt hk
   generalize cntB (bt a) k=Y at *
   generalize bt a k=y at *
   go_wp2
   exact⟨⟨k+1,HLT.out,by simp,HY.out,by trivial⟩,meas32 HLT.out⟩
  ·have e32:k=32:=by omega
   subst e32
   have hbw:=HM.out.2.2.2.2
   clear hlt hk
   generalize cntB (bt a) 32=Y at *
   go_wp2_with fail
   go_loopw [10] (fun i wr=>∃ k:Nat,k≤32∧i=.int .i64 k∧MvK w wr L X (bt a) (fun j=>if j<k then notB a j else 0)) (fun i _=>32 - (intOf i).toNat)
   case atStart=>exact⟨0,by omega,rfl,HM.out.congr (fun k _=>by simp)⟩
   case round =>
    obtain⟨k,hk,rfl,hM⟩:=hrel
    clear HM hbw
    by_cases hlt:k<32
    ·have hki:(k:Int)<32:=by omega
     have hcX:=hM.2.2.2.1.cell k hlt
     have hfX:=hM.2.2.2.1.frozen k
     have hcL:=hM.2.2.1.cell k (by omega)
     have HSv:Hid (∀ v:Int,v=notB a k→MvK w (wr.setCell ⟨X,k,none⟩ (.int .u32 v)) L X (bt a) (fun j=>if j<k+1 then notB a j else 0)):=fun v hv=>(hM.set k hlt v).congr (upto_next (notB a) k v hv)
     have hb:=bt_or a k
     have HV:Hid (1 - bt a k=notB a k):=rfl
     have HLT:=hide hlt
     skip
     clear hM hlt hk
     generalize bt a k=y at *
     go_wp2
     exact⟨⟨k+1,HLT.out,by simp,HSv.out _ HV.out⟩,meas32 HLT.out⟩
    ·have e32:k=32:=by omega
     have HX:=hide (hM.2.2.2.1.congr (g:=notB a) (fun j hj=>by simp [show j<k by omega]))
     have hb:=hM.2.2.2.2
     have hki:¬ (k:Int)<32:=by omega
     clear hM e32
     go_wp2_with (first | (refine wpList_load32A rfl _ rfl _ _ rfl HX.out ?_;intro AR2 hAR2))
     rw [hAR2] at hO
     refine (hO _).mono ?_
     rintro e w5 ⟨rfl,hb5⟩
     go_wp2
     go_ret2
     exact⟨rfl,hb.trans (hb5.mono hb.size)⟩
set_option maxHeartbeats 4000000 in
theorem refUn204 (op a:Int) (w:World) (a0:0≤a) (a1:a<4294967296) (ho:op=204):Calls Tryz.prog 10 #[.int .u16 op,.int .u32 a] w fun e w'=>e=.returned (.tuple #[.int .u32 (unV 204 a),.bool true])∧Below w.heap.size w w':=by
 subst ho
 have hO:=fun w=>refOf_any13 (revB a) (revB_01 a) w
 have hV:hB (revB a) 32 0=unV 204 a:=rfl
 rw [hV] at hO
 generalize unV 204 a=V at *
 clear hV
 go_enter Tryz.func10,Tryz.ntmps10
 go_wp2_with fail
 refine (refBits_any a w a0 a1).mono ?_
 rintro e w1 ⟨rfl,hb1⟩
 generalize hAR:(arr32 (bt a)).toArray=AR
 have HA:=hide (ArrB.new w1 (fun _=>0))
 rw [arr32_zero] at HA
 go_wp2_with (first | fail | (refine wpList_store32A rfl _ _ rfl _ _ (bt a) _ rfl rfl hAR HA.out ?_;intro w2 hA2 hg2))
 have HM:=hide (MvK.start hb1 hA2 hg2)
 rw [arr32_zero] at HM
 clear HA hA2 hg2 hb1
 generalize hX:w2.heap.size=X at *
 generalize w1.heap.size=L at *
 generalize w2.alloc (.cells #[.int .u32 0,.int .u32 0,.int .u32 0,.int .u32 0,.int .u32 0,.int .u32 0,.int .u32 0,.int .u32 0,.int .u32 0,.int .u32 0,.int .u32 0,.int .u32 0,.int .u32 0,.int .u32 0,.int .u32 0,.int .u32 0,.int .u32 0,.int .u32 0,.int .u32 0,.int .u32 0,.int .u32 0,.int .u32 0,.int .u32 0,.int .u32 0,.int .u32 0,.int .u32 0,.int .u32 0,.int .u32 0,.int .u32 0,.int .u32 0,.int .u32 0,.int .u32 0] 44)=W3 at *
 clear hX hAR
 go_loopw [8,9] (fun x i wr=>∃ k:Nat,k≤32∧i=.int .i64 k∧x=.int .u32 (cntB (bt a) k)∧wr=W3) (fun _ i _=>32 - (intOf i).toNat)
 case atStart=>exact⟨0,by omega,rfl,rfl,rfl⟩
 case round =>
  obtain⟨k,hk,rfl,rfl,rfl⟩:=hrel
  by_cases hlt:k<32
  ·have hki:(k:Int)<32:=by omega
   have hc:=HM.out.2.2.1.cell k hlt
   have hin:=cntB_in (bt a) (is01_bt a) k
   have hb:=bt_or a k
   have HY:Hid (Value.int .u32 (cntB (bt a) k+bt a k)=Value.int .u32 (cntB (bt a) (k+1))):=rfl
   have HLT:=hide hlt
   clear hlt hk
   generalize cntB (bt a) k=Y at *
   generalize bt a k=y at *
   go_wp2
   exact⟨⟨k+1,HLT.out,by simp,HY.out,by trivial⟩,meas32 HLT.out⟩
  ·have e32:k=32:=by omega
   subst e32
   have hbw:=HM.out.2.2.2.2
   clear hlt hk
   generalize cntB (bt a) 32=Y at *
   go_wp2_with fail
   go_loopw [11] (fun i wr=>∃ k:Nat,k≤32∧i=.int .i64 k∧MvK w wr L X (bt a) (fun j=>if j<k then revB a j else 0)) (fun i _=>32 - (intOf i).toNat)
   case atStart=>exact⟨0,by omega,rfl,HM.out.congr (fun k _=>by simp)⟩
   case round =>
    obtain⟨k,hk,rfl,hM⟩:=hrel
    clear HM hbw
    by_cases hlt:k<32
    ·have hki:(k:Int)<32:=by omega
     have hcX:=hM.2.2.2.1.cell k hlt
     have hfX:=hM.2.2.2.1.frozen k
     have hcL:=hM.2.2.1.cell (31 - k) (by omega)
     have HSv:Hid (∀ v:Int,v=revB a k→MvK w (wr.setCell ⟨X,k,none⟩ (.int .u32 v)) L X (bt a) (fun j=>if j<k+1 then revB a j else 0)):=fun v hv=>(hM.set k hlt v).congr (upto_next (revB a) k v hv)
     have hb:=bt_or a (31 - k)
     have HV:Hid (bt a (31 - k)=revB a k):=rfl
     have HLT:=hide hlt
     have hT:((31:Int) - (k:Int)).toNat=31 - k:=by omega
     have h0:(0:Int)≤31 - (k:Int):=by omega
     have h1:(31:Int) - (k:Int)<32:=by omega
     clear hM hlt hk
     generalize bt a (31 - k)=y at *
     go_wp2
     exact⟨⟨k+1,HLT.out,by simp,HSv.out _ HV.out⟩,meas32 HLT.out⟩
    ·have e32:k=32:=by omega
     have HX:=hide (hM.2.2.2.1.congr (g:=revB a) (fun j hj=>by simp [show j<k by omega]))
     have hb:=hM.2.2.2.2
     have hki:¬ (k:Int)<32:=by omega
     clear hM e32
     go_wp2_with (first | (refine wpList_load32A rfl _ rfl _ _ rfl HX.out ?_;intro AR2 hAR2))
     rw [hAR2] at hO
     refine (hO _).mono ?_
     rintro e w5 ⟨rfl,hb5⟩
     go_wp2
     go_ret2
     exact⟨rfl,hb.trans (hb5.mono hb.size)⟩
theorem refUnary_any (op a:Int) (w:World) (a0:0≤a) (a1:a<4294967296):Calls Tryz.prog 10 #[.int .u16 op,.int .u32 a] w fun e w'=>e=.returned (.tuple #[.int .u32 (unV op a),.bool (unB op)])∧Below w.heap.size w w':=by
 by_cases c83:op=83
 ·have h:=refUn83 op a w a0 a1 c83
  subst c83;exact h
 by_cases c124:op=124
 ·have h:=refUn124 op a w a0 a1 c124
  subst c124;exact h
 by_cases c126:op=126
 ·have h:=refUn126 op a w a0 a1 c126
  subst c126;exact h
 by_cases c168:op=168
 ·have h:=refUn168 op a w a0 a1 c168
  subst c168;exact h
 by_cases c200:op=200
 ·have h:=refUn200 op a w a0 a1 c200
  subst c200;exact h
 by_cases c204:op=204
 ·have h:=refUn204 op a w a0 a1 c204
  subst c204;exact h
 by_cases c205:op=205
 ·have h:=refUn205 op a w a0 a1 c205
  subst c205;exact h
 have e1:unV op a=0:=by simp [unV,c83,c124,c126,c168,c200,c204,c205]
 have e2:unB op=false:=by simp [unB,c83,c124,c126,c168,c200,c204,c205]
 rw [e1,e2]
 exact refUnNone op a w a0 a1 c83 c124 c126 c168 c200 c204 c205
def bwP (op x y:Int):Bool:=if op=197 then decide (0<x+y) else if op=198 then x+y==1 else x+y==2
def bwB (op:Int) (f g:Nat→Int) (j:Nat):Int:=b2i (bwP op (f j) (g j))
theorem bwB_01 (op:Int) (f g:Nat→Int):Is01 (bwB op f g):=by
 intro j
 unfold bwB b2i
 split
 ·exact .inr rfl
 ·exact .inl rfl
def BwK (w wr:World) (L M X:Nat) (f g h:Nat→Int):Prop:=w.heap.size≤L∧L<M∧M<X∧ArrB wr L f∧ArrB wr M g∧ArrB wr X h∧Below w.heap.size w wr
theorem BwK.set {w wr:World} {L M X:Nat} {f g h:Nat→Int} (q:BwK w wr L M X f g h) (k:Nat) (hk:k<32) (v:Int):BwK w (wr.setCell ⟨X,k,none⟩ (.int .u32 v)) L M X f g (fun j=>if j=k then v else h j):=by
 obtain⟨h1,h2,h3,h4,h5,h6,h7⟩:=q
 exact⟨h1,h2,h3,h4.other (Below.heap_setCell _ _ _ _ (by simp;omega)),h5.other (Below.heap_setCell _ _ _ _ (by simp;omega)),h6.set k hk v,h7.setCell (by simp;omega) _⟩
theorem BwK.congr {w wr:World} {L M X:Nat} {f g h h':Nat→Int} (q:BwK w wr L M X f g h) (e:∀ k,k<32→h k=h' k):BwK w wr L M X f g h':=⟨q.1,q.2.1,q.2.2.1,q.2.2.2.1,q.2.2.2.2.1,q.2.2.2.2.2.1.congr e,q.2.2.2.2.2.2⟩
theorem drewN_heap13 (w:World):∀ q,(w.drewN q).heap=w.heap
 | 0=>rfl
 | q+1=>by show (w.drew.drewN q).heap=_;rw [drewN_heap13 w.drew q];rfl
theorem BwK.drewN {w wr:World} {L M X:Nat} {f g h:Nat→Int} (p:BwK w wr L M X f g h) (q:Nat):BwK w (wr.drewN q) L M X f g h:=by
 obtain⟨h1,h2,h3,h4,h5,h6,h7⟩:=p
 have e:∀ b:Nat,(wr.drewN q).heap[b]?=wr.heap[b]?:=fun b=>by rw [drewN_heap13]
 exact⟨h1,h2,h3,h4.other (e L),h5.other (e M),h6.other (e X),bel_drewN h7 q⟩
theorem arr_next {w w1 w2:World} {f:Nat→Int} {o:Obj} (hb1:Below w.heap.size w w1) (hA:ArrB w2 w1.heap.size f) (hg:(w1.alloc o).grownBy w2 (some w1.heap.size)):Below w.heap.size w w2∧Below w1.heap.size w1 w2:=by
 constructor
 ·exact (hb1.alloc hb1.size o).grown hg (by simp;have:=hb1.size;omega) (fun k e=>by cases e;exact hb1.size)
 ·exact ((Below.refl _ w1).alloc (Nat.le_refl _) o).grown hg (by simp) (fun k e=>by cases e;exact Nat.le_refl _)
set_option maxHeartbeats 4000000 in
theorem refBitwise197_any (a b:Int) (w:World) (a0:0≤a) (a1:a<4294967296) (b0:0≤b) (b1:b<4294967296):Calls Tryz.prog 24 #[.int .u16 197,.int .u32 a,.int .u32 b] w fun e w'=>e=.returned (.int .u32 (hB (bwB 197 (bt a) (bt b)) 32 0))∧Below w.heap.size w w':=by
 have hO:=fun w=>refOf_any13 (bwB 197 (bt a) (bt b)) (bwB_01 197 _ _) w
 have hT:=refTruth_any
 go_enter Tryz.func24,Tryz.ntmps24
 go_wp2_with fail
 refine (refBits_any a w a0 a1).mono ?_
 rintro e w1 ⟨rfl,hb1⟩
 generalize hAR:(arr32 (bt a)).toArray=AR
 have HA:=hide (ArrB.new w1 (fun _=>0))
 rw [arr32_zero] at HA
 go_wp2_with (first | fail | (refine wpList_store32A rfl _ _ rfl _ _ (bt a) _ rfl rfl hAR HA.out ?_;intro w2 hA2 hg2))
 refine (refBits_any b w2 b0 b1).mono ?_
 rintro e w3 ⟨rfl,hb3⟩
 generalize hBR:(arr32 (bt b)).toArray=BR
 obtain⟨hb2,hb12⟩:=arr_next hb1 hA2 hg2
 clear hg2 HA
 have HA:=hide (ArrB.new w3 (fun _=>0))
 rw [arr32_zero] at HA
 go_wp2_with (first | fail | (refine wpList_store32A rfl _ _ rfl _ _ (bt b) _ rfl rfl hBR HA.out ?_;intro w4 hA4 hg4))
 have hb03:Below w.heap.size w w3:=hb2.trans (hb3.mono hb2.size)
 obtain⟨hb4,hb34⟩:=arr_next hb03 hA4 hg4
 have HM:Hid (BwK w (w4.alloc (.cells (arr32 fun _=>0).toArray 44)) w1.heap.size w3.heap.size w4.heap.size (bt a) (bt b) (fun _=>0)):=by
  have e1:=hA2.lt
  have e2:=hb3.size
  exact⟨hb1.size,by omega,hA4.lt,((hA2.below hb3).below hb34).below ((Below.refl _ _).alloc (Nat.le_refl _) _),hA4.below ((Below.refl _ _).alloc (Nat.le_refl _) _),ArrB.new w4 _,hb4.alloc hb4.size _⟩
 rw [arr32_zero] at HM
 clear HA hA2 hA4 hg4 hb1 hb2 hb12 hb3 hb03 hb4 hb34
 generalize w4.heap.size=X at *
 generalize w3.heap.size=M at *
 generalize w1.heap.size=L at *
 generalize w4.alloc (.cells #[.int .u32 0,.int .u32 0,.int .u32 0,.int .u32 0,.int .u32 0,.int .u32 0,.int .u32 0,.int .u32 0,.int .u32 0,.int .u32 0,.int .u32 0,.int .u32 0,.int .u32 0,.int .u32 0,.int .u32 0,.int .u32 0,.int .u32 0,.int .u32 0,.int .u32 0,.int .u32 0,.int .u32 0,.int .u32 0,.int .u32 0,.int .u32 0,.int .u32 0,.int .u32 0,.int .u32 0,.int .u32 0,.int .u32 0,.int .u32 0,.int .u32 0,.int .u32 0] 44)=W5 at *
 clear hBR hAR
 go_loopw [10] (fun i wr=>∃ k:Nat,k≤32∧i=.int .i64 k∧BwK w wr L M X (bt a) (bt b) (fun j=>if j<k then bwB 197 (bt a) (bt b) j else 0)) (fun i _=>32 - (intOf i).toNat)
 case atStart=>exact⟨0,by omega,rfl,HM.out.congr (fun k _=>by simp)⟩
 case round =>
  obtain⟨k,hk,rfl,hM⟩:=hrel
  clear HM
  by_cases hlt:k<32
  ·have hki:(k:Int)<32:=by omega
   have hcX:=hM.2.2.2.2.2.1.cell k hlt
   have hfX:=hM.2.2.2.2.2.1.frozen k
   have hcL:=hM.2.2.2.1.cell k hlt
   have hcM:=hM.2.2.2.2.1.cell k hlt
   have HSv:Hid (∀ (q:Nat) (v:Int),v=bwB 197 (bt a) (bt b) k→BwK w ((wr.drewN q).setCell ⟨X,k,none⟩ (.int .u32 v)) L M X (bt a) (bt b) (fun j=>if j<k+1 then bwB 197 (bt a) (bt b) j else 0)):=fun q v hv=>((hM.drewN q).set k hlt v).congr (upto_next (bwB 197 (bt a) (bt b)) k v hv)
   have HV:Hid (b2i (bwP 197 (bt a k) (bt b k))=bwB 197 (bt a) (bt b) k):=rfl
   have hx:=bt_lo a k
   have hx2:=bt_hi a k
   have hy:=bt_lo b k
   have hy2:=bt_hi b k
   have hs:bt a k+bt b k<4294967296:=by omega
   have HLT:=hide hlt
   clear hM hlt hk
   generalize bt a k=x at *
   generalize bt b k=y at *
   go_wp2_with fail
   go_quiet (fail)
   go_wp2_with (go_at_call 14;refine (hT _ _).mono ?_;rintro e w' ⟨rfl,rfl⟩)
   all_goals refine⟨⟨k+1,HLT.out,rfl,HSv.out _ _ ?_⟩,meas32 HLT.out⟩
   all_goals first | exact HV.out | (refine Eq.trans ?_ HV.out;congr 1;simp [bwP];omega)
  ·have e32:k=32:=by omega
   have HX:=hide (hM.2.2.2.2.2.1.congr (g:=bwB 197 (bt a) (bt b)) (fun j hj=>by simp [show j<k by omega]))
   have hb:=hM.2.2.2.2.2.2
   have hki:¬ (k:Int)<32:=by omega
   clear hM e32 hT
   go_wp2_with (first | (refine wpList_load32A rfl _ rfl _ _ rfl HX.out ?_;intro AR2 hAR2))
   rw [hAR2] at hO
   refine (hO _).mono ?_
   rintro e w5 ⟨rfl,hb5⟩
   go_wp2
   go_ret
   exact⟨rfl,hb.trans (hb5.mono hb.size)⟩
set_option maxHeartbeats 4000000 in
theorem refBitwise198_any (a b:Int) (w:World) (a0:0≤a) (a1:a<4294967296) (b0:0≤b) (b1:b<4294967296):Calls Tryz.prog 24 #[.int .u16 198,.int .u32 a,.int .u32 b] w fun e w'=>e=.returned (.int .u32 (hB (bwB 198 (bt a) (bt b)) 32 0))∧Below w.heap.size w w':=by
 have hO:=fun w=>refOf_any13 (bwB 198 (bt a) (bt b)) (bwB_01 198 _ _) w
 have hT:=refTruth_any
 go_enter Tryz.func24,Tryz.ntmps24
 go_wp2_with fail
 refine (refBits_any a w a0 a1).mono ?_
 rintro e w1 ⟨rfl,hb1⟩
 generalize hAR:(arr32 (bt a)).toArray=AR
 have HA:=hide (ArrB.new w1 (fun _=>0))
 rw [arr32_zero] at HA
 go_wp2_with (first | fail | (refine wpList_store32A rfl _ _ rfl _ _ (bt a) _ rfl rfl hAR HA.out ?_;intro w2 hA2 hg2))
 refine (refBits_any b w2 b0 b1).mono ?_
 rintro e w3 ⟨rfl,hb3⟩
 generalize hBR:(arr32 (bt b)).toArray=BR
 obtain⟨hb2,hb12⟩:=arr_next hb1 hA2 hg2
 clear hg2 HA
 have HA:=hide (ArrB.new w3 (fun _=>0))
 rw [arr32_zero] at HA
 go_wp2_with (first | fail | (refine wpList_store32A rfl _ _ rfl _ _ (bt b) _ rfl rfl hBR HA.out ?_;intro w4 hA4 hg4))
 have hb03:Below w.heap.size w w3:=hb2.trans (hb3.mono hb2.size)
 obtain⟨hb4,hb34⟩:=arr_next hb03 hA4 hg4
 have HM:Hid (BwK w (w4.alloc (.cells (arr32 fun _=>0).toArray 44)) w1.heap.size w3.heap.size w4.heap.size (bt a) (bt b) (fun _=>0)):=by
  have e1:=hA2.lt
  have e2:=hb3.size
  exact⟨hb1.size,by omega,hA4.lt,((hA2.below hb3).below hb34).below ((Below.refl _ _).alloc (Nat.le_refl _) _),hA4.below ((Below.refl _ _).alloc (Nat.le_refl _) _),ArrB.new w4 _,hb4.alloc hb4.size _⟩
 rw [arr32_zero] at HM
 clear HA hA2 hA4 hg4 hb1 hb2 hb12 hb3 hb03 hb4 hb34
 generalize w4.heap.size=X at *
 generalize w3.heap.size=M at *
 generalize w1.heap.size=L at *
 generalize w4.alloc (.cells #[.int .u32 0,.int .u32 0,.int .u32 0,.int .u32 0,.int .u32 0,.int .u32 0,.int .u32 0,.int .u32 0,.int .u32 0,.int .u32 0,.int .u32 0,.int .u32 0,.int .u32 0,.int .u32 0,.int .u32 0,.int .u32 0,.int .u32 0,.int .u32 0,.int .u32 0,.int .u32 0,.int .u32 0,.int .u32 0,.int .u32 0,.int .u32 0,.int .u32 0,.int .u32 0,.int .u32 0,.int .u32 0,.int .u32 0,.int .u32 0,.int .u32 0,.int .u32 0] 44)=W5 at *
 clear hBR hAR
 go_loopw [10] (fun i wr=>∃ k:Nat,k≤32∧i=.int .i64 k∧BwK w wr L M X (bt a) (bt b) (fun j=>if j<k then bwB 198 (bt a) (bt b) j else 0)) (fun i _=>32 - (intOf i).toNat)
 case atStart=>exact⟨0,by omega,rfl,HM.out.congr (fun k _=>by simp)⟩
 case round =>
  obtain⟨k,hk,rfl,hM⟩:=hrel
  clear HM
  by_cases hlt:k<32
  ·have hki:(k:Int)<32:=by omega
   have hcX:=hM.2.2.2.2.2.1.cell k hlt
   have hfX:=hM.2.2.2.2.2.1.frozen k
   have hcL:=hM.2.2.2.1.cell k hlt
   have hcM:=hM.2.2.2.2.1.cell k hlt
   have HSv:Hid (∀ (q:Nat) (v:Int),v=bwB 198 (bt a) (bt b) k→BwK w ((wr.drewN q).setCell ⟨X,k,none⟩ (.int .u32 v)) L M X (bt a) (bt b) (fun j=>if j<k+1 then bwB 198 (bt a) (bt b) j else 0)):=fun q v hv=>((hM.drewN q).set k hlt v).congr (upto_next (bwB 198 (bt a) (bt b)) k v hv)
   have HV:Hid (b2i (bwP 198 (bt a k) (bt b k))=bwB 198 (bt a) (bt b) k):=rfl
   have hx:=bt_lo a k
   have hx2:=bt_hi a k
   have hy:=bt_lo b k
   have hy2:=bt_hi b k
   have hs:bt a k+bt b k<4294967296:=by omega
   have HLT:=hide hlt
   clear hM hlt hk
   generalize bt a k=x at *
   generalize bt b k=y at *
   go_wp2_with fail
   go_quiet (fail)
   go_wp2_with (go_at_call 14;refine (hT _ _).mono ?_;rintro e w' ⟨rfl,rfl⟩)
   all_goals refine⟨⟨k+1,HLT.out,rfl,HSv.out _ _ ?_⟩,meas32 HLT.out⟩
   all_goals first | exact HV.out | (refine Eq.trans ?_ HV.out;congr 1;simp [bwP];omega)
  ·have e32:k=32:=by omega
   have HX:=hide (hM.2.2.2.2.2.1.congr (g:=bwB 198 (bt a) (bt b)) (fun j hj=>by simp [show j<k by omega]))
   have hb:=hM.2.2.2.2.2.2
   have hki:¬ (k:Int)<32:=by omega
   clear hM e32 hT
   go_wp2_with (first | (refine wpList_load32A rfl _ rfl _ _ rfl HX.out ?_;intro AR2 hAR2))
   rw [hAR2] at hO
   refine (hO _).mono ?_
   rintro e w5 ⟨rfl,hb5⟩
   go_wp2
   go_ret
   exact⟨rfl,hb.trans (hb5.mono hb.size)⟩
set_option maxHeartbeats 4000000 in
theorem refBitwise199_any (a b:Int) (w:World) (a0:0≤a) (a1:a<4294967296) (b0:0≤b) (b1:b<4294967296):Calls Tryz.prog 24 #[.int .u16 199,.int .u32 a,.int .u32 b] w fun e w'=>e=.returned (.int .u32 (hB (bwB 199 (bt a) (bt b)) 32 0))∧Below w.heap.size w w':=by
 have hO:=fun w=>refOf_any13 (bwB 199 (bt a) (bt b)) (bwB_01 199 _ _) w
 have hT:=refTruth_any
 go_enter Tryz.func24,Tryz.ntmps24
 go_wp2_with fail
 refine (refBits_any a w a0 a1).mono ?_
 rintro e w1 ⟨rfl,hb1⟩
 generalize hAR:(arr32 (bt a)).toArray=AR
 have HA:=hide (ArrB.new w1 (fun _=>0))
 rw [arr32_zero] at HA
 go_wp2_with (first | fail | (refine wpList_store32A rfl _ _ rfl _ _ (bt a) _ rfl rfl hAR HA.out ?_;intro w2 hA2 hg2))
 refine (refBits_any b w2 b0 b1).mono ?_
 rintro e w3 ⟨rfl,hb3⟩
 generalize hBR:(arr32 (bt b)).toArray=BR
 obtain⟨hb2,hb12⟩:=arr_next hb1 hA2 hg2
 clear hg2 HA
 have HA:=hide (ArrB.new w3 (fun _=>0))
 rw [arr32_zero] at HA
 go_wp2_with (first | fail | (refine wpList_store32A rfl _ _ rfl _ _ (bt b) _ rfl rfl hBR HA.out ?_;intro w4 hA4 hg4))
 have hb03:Below w.heap.size w w3:=hb2.trans (hb3.mono hb2.size)
 obtain⟨hb4,hb34⟩:=arr_next hb03 hA4 hg4
 have HM:Hid (BwK w (w4.alloc (.cells (arr32 fun _=>0).toArray 44)) w1.heap.size w3.heap.size w4.heap.size (bt a) (bt b) (fun _=>0)):=by
  have e1:=hA2.lt
  have e2:=hb3.size
  exact⟨hb1.size,by omega,hA4.lt,((hA2.below hb3).below hb34).below ((Below.refl _ _).alloc (Nat.le_refl _) _),hA4.below ((Below.refl _ _).alloc (Nat.le_refl _) _),ArrB.new w4 _,hb4.alloc hb4.size _⟩
 rw [arr32_zero] at HM
 clear HA hA2 hA4 hg4 hb1 hb2 hb12 hb3 hb03 hb4 hb34
 generalize w4.heap.size=X at *
 generalize w3.heap.size=M at *
 generalize w1.heap.size=L at *
 generalize w4.alloc (.cells #[.int .u32 0,.int .u32 0,.int .u32 0,.int .u32 0,.int .u32 0,.int .u32 0,.int .u32 0,.int .u32 0,.int .u32 0,.int .u32 0,.int .u32 0,.int .u32 0,.int .u32 0,.int .u32 0,.int .u32 0,.int .u32 0,.int .u32 0,.int .u32 0,.int .u32 0,.int .u32 0,.int .u32 0,.int .u32 0,.int .u32 0,.int .u32 0,.int .u32 0,.int .u32 0,.int .u32 0,.int .u32 0,.int .u32 0,.int .u32 0,.int .u32 0,.int .u32 0] 44)=W5 at *
 clear hBR hAR
 go_loopw [10] (fun i wr=>∃ k:Nat,k≤32∧i=.int .i64 k∧BwK w wr L M X (bt a) (bt b) (fun j=>if j<k then bwB 199 (bt a) (bt b) j else 0)) (fun i _=>32 - (intOf i).toNat)
 case atStart=>exact⟨0,by omega,rfl,HM.out.congr (fun k _=>by simp)⟩
 case round =>
  obtain⟨k,hk,rfl,hM⟩:=hrel
  clear HM
  by_cases hlt:k<32
  ·have hki:(k:Int)<32:=by omega
   have hcX:=hM.2.2.2.2.2.1.cell k hlt
   have hfX:=hM.2.2.2.2.2.1.frozen k
   have hcL:=hM.2.2.2.1.cell k hlt
   have hcM:=hM.2.2.2.2.1.cell k hlt
   have HSv:Hid (∀ (q:Nat) (v:Int),v=bwB 199 (bt a) (bt b) k→BwK w ((wr.drewN q).setCell ⟨X,k,none⟩ (.int .u32 v)) L M X (bt a) (bt b) (fun j=>if j<k+1 then bwB 199 (bt a) (bt b) j else 0)):=fun q v hv=>((hM.drewN q).set k hlt v).congr (upto_next (bwB 199 (bt a) (bt b)) k v hv)
   have HV:Hid (b2i (bwP 199 (bt a k) (bt b k))=bwB 199 (bt a) (bt b) k):=rfl
   have hx:=bt_lo a k
   have hx2:=bt_hi a k
   have hy:=bt_lo b k
   have hy2:=bt_hi b k
   have hs:bt a k+bt b k<4294967296:=by omega
   have HLT:=hide hlt
   clear hM hlt hk
   generalize bt a k=x at *
   generalize bt b k=y at *
   go_wp2_with fail
   go_quiet (fail)
   go_wp2_with (go_at_call 14;refine (hT _ _).mono ?_;rintro e w' ⟨rfl,rfl⟩)
   all_goals refine⟨⟨k+1,HLT.out,rfl,HSv.out _ _ ?_⟩,meas32 HLT.out⟩
   all_goals first | exact HV.out | (refine Eq.trans ?_ HV.out;congr 1;simp [bwP];omega)
  ·have e32:k=32:=by omega
   have HX:=hide (hM.2.2.2.2.2.1.congr (g:=bwB 199 (bt a) (bt b)) (fun j hj=>by simp [show j<k by omega]))
   have hb:=hM.2.2.2.2.2.2
   have hki:¬ (k:Int)<32:=by omega
   clear hM e32 hT
   go_wp2_with (first | (refine wpList_load32A rfl _ rfl _ _ rfl HX.out ?_;intro AR2 hAR2))
   rw [hAR2] at hO
   refine (hO _).mono ?_
   rintro e w5 ⟨rfl,hb5⟩
   go_wp2
   go_ret
   exact⟨rfl,hb.trans (hb5.mono hb.size)⟩
end Go.Proofs.YtonhnflilfjkbaaGreat
