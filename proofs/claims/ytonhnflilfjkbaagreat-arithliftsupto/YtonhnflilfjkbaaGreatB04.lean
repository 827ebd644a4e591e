/-
  Texts in one: ArithBinary, Slots, ArithUnary, MathDv, ArithPair, ArithArity, ArithFields, ArithMore, ArithWords, ArithRows, ArithLevel.
-/
import Derived.Test.YtonhnflilfjkbaaGreatB03
import Derived.Test.YtonhnflilfjkbaaGreatB02
namespace Go.Proofs.YtonhnflilfjkbaaGreat
open Go.RowKit Go.Maps
set_option linter.unusedVariables false
set_option linter.unusedSimpArgs false
set_option maxRecDepth 10000
set_option maxHeartbeats 2000000 in
theorem ofQuotients6_any (op a b:Int) (p n:Nat) (w:World) (a0:0≤a) (a1:a<4294967296) (b0:0≤b) (b1:b<4294967296) (hc:w.cell? ⟨p,0,none⟩=some (.func (.func n) #[] #[])) (hD:TwoD op n) (hz:∀ a,binV op a 0=0) :
  Calls Tryz.prog 86 #[.int .u32 a,.int .u32 b,.pointer (some ⟨p,0,none⟩)] w fun e w'=>e=.returned (.int .u32 (binV op a b))∧w=w':=by
 by_cases hb:b=0
 ·subst hb
  go_enter Tryz.func86,Tryz.ntmps86
  go_wp2
  go_ret
  exact⟨by rw [hz];rfl,rfl⟩
 ·have hC:=fun W=>hD.2 a b W a0 a1 b0 b1 hb
  have hEn:=hD.1
  unfold Enters at hEn
  generalize binV op a b=V at *
  clear hD
  go_enter Tryz.func86,Tryz.ntmps86
  go_wp2_with fail
  refine (hC _).mono ?_
  rintro e w' ⟨rfl,rfl⟩
  go_wp2
  go_ret
  exact⟨rfl,rfl⟩
end Go.Proofs.YtonhnflilfjkbaaGreat
namespace Go.Proofs.YtonhnflilfjkbaaGreat
open Go
theorem hide {p:Prop} (h:p):Go.RowKit.Hid p:=h
end Go.Proofs.YtonhnflilfjkbaaGreat
namespace Go.Proofs.YtonhnflilfjkbaaGreat
open Go.RowKit Go.Maps
set_option linter.unusedVariables false
set_option linter.unusedSimpArgs false
set_option maxRecDepth 10000
theorem and_one (x:Int) (h0:0≤x) (h1:x<4294967296):bits .and .u32 x 1=x % 2:=by
 obtain⟨n,rfl⟩:=Int.eq_ofNat_of_zero_le h0
 have h:=u32_and_nat n 1 (by omega) (by omega)
 rw [Nat.and_one_is_mod] at h
 rw [show (1:Int)=((1:Nat):Int) from rfl,h]
 omega
theorem hB_snoc (f:Nat→Int):∀ n m,hB f (n+1) m=hB f n m+f (m+n) * 2 ^ n
 | 0,m=>by simp [hB]
 | n+1,m=>by
  rw [hB,hB_snoc f n (m+1),hB,two_succ,show m+1+n=m+(n+1) by omega]
  rw [Int.mul_add,Int.add_assoc]
  congr 2
  ac_rfl
theorem or_snoc (f:Nat→Int) (hf:Is01 f) (k:Nat) (hk:k<32):bits .or .u32 (hB f k 0) (f k * 2 ^ k)=hB f (k+1) 0:=by
 have h1:=hB_in f hf k 0
 have h2:=hB_in f hf (k+1) 0
 rw [hB_snoc,Nat.zero_add] at h2 ⊢
 have h3:(2:Int) ^ (k+1)≤4294967296:=by
  have:2 ^ (k+1)≤2 ^ 32:=Nat.pow_le_pow_right (by omega) (by omega)
  have e:((2 ^ (k+1):Nat):Int)=(2:Int) ^ (k+1):=by simp
  omega
 rw [or_low (f k) (hB f k 0) k (by rcases hf k with h | h <;> omega) h1.1 h1.2 (by omega)]
theorem bt_not (a:Int) (k:Nat) (hk:k<32):bt (4294967295 - a) k=1 - bt a k:=by
 have e:(4294967295:Int) - a=(-1 - a)+1 * 2 ^ 32:=by omega
 rw [e,bt_add _ _ _ _ hk]
 unfold bt
 have hp:=two_pos k
 have hd:=Int.emod_add_mul_ediv a (2 ^ k)
 have r0:=Int.emod_nonneg a (show (2:Int) ^ k≠0 by omega)
 have r1:=Int.emod_lt_of_pos a hp
 have e2:-1 - a=(2 ^ k - 1 - a % 2 ^ k)+2 ^ k * (-1 - a / 2 ^ k):=by
  rw [Int.mul_sub,Int.mul_neg,Int.mul_one];omega
 have e3:(-1 - a) / 2 ^ k=-1 - a / 2 ^ k:=by
  rw [e2,Int.add_mul_ediv_left _ _ (by omega),Int.ediv_eq_zero_of_lt (by omega) (by omega)];omega
 rw [e3];omega
theorem bt_top (k:Nat) (hk:k<32):bt 4294967295 k=1:=by
 have:=bt_not 0 k hk
 rw [Int.sub_zero] at this
 rw [this];unfold bt;simp
theorem xor_top (a:Int) (a0:0≤a) (a1:a<4294967296):bits .xor .u32 4294967295 a=4294967295 - a:=by
 have hi:=xor_in 4294967295 a (by omega) (by omega) a0 a1
 refine word_ext _ _ hi.1 hi.2 (by omega) (by omega) fun k hk=>?_
 rw [bt_xorW _ _ k (by omega) (by omega) a0 a1,bt_top k hk,bt_not a k hk]
 rcases bt_or a k with h | h <;> simp [h]
theorem bit_any (a:Int) (k:Nat) (w:World) (a0:0≤a) (a1:a<4294967296) (hk:k<32):Calls Tryz.prog 107 #[.int .u32 a,.int .u32 k] w fun e w'=>e=.returned (.int .u32 (bt a k))∧w=w':=by
 have h0:0≤a / 2 ^ k:=Int.ediv_nonneg a0 (Int.le_of_lt (two_pos k))
 have h1:a / 2 ^ k<4294967296:=Int.lt_of_le_of_lt (Int.ediv_le_self _ a0) a1
 have HV:Hid (bits .and .u32 (a / 2 ^ k) 1=bt a k):=and_one _ h0 h1
 have hki:(k:Int)<32:=by omega
 clear h0 h1
 go_enter Tryz.func107,Tryz.ntmps107
 go_wp2
 go_ret
 refine⟨ret_int ?_,rfl⟩
 first | exact HV.out | (rw [← HV.out];simp)
theorem meas32u {k:Nat} (h:k<32):32 - (intOf (.int .u32 ((k:Int)+1))).toNat<32 - (intOf (.int .u32 (k:Int))).toNat:=by simp [intOf];omega
def revB (a:Int) (j:Nat):Int:=bt a (31 - j)
theorem revB_01 (a:Int):Is01 (revB a):=fun j=>bt_or a (31 - j)
set_option maxHeartbeats 2000000 in
theorem reversed_any (a:Int) (w:World) (a0:0≤a) (a1:a<4294967296):Calls Tryz.prog 65 #[.int .u32 a] w fun e w'=>e=.returned (.int .u32 (hB (revB a) 32 0))∧w=w':=by
 go_enter Tryz.func65,Tryz.ntmps65
 go_wp2_with fail
 go_loopw [3,5] (fun x i wr=>∃ k:Nat,k≤32∧i=.int .u32 k∧x=.int .u32 (hB (revB a) k 0)∧w=wr) (fun _ i _=>32 - (intOf i).toNat)
 case atStart=>exact⟨0,by omega,rfl,rfl,rfl⟩
 case round =>
  obtain⟨k,hk,rfl,rfl,rfl⟩:=hrel
  by_cases hlt:k<32
  ·have hki:(k:Int)<32:=by omega
   have hC:=fun w=>bit_any a (31 - k) w a0 a1 (by omega)
   have hb:=bt_or a (31 - k)
   have hP:0≤bt a (31 - k) * 2 ^ k∧bt a (31 - k) * 2 ^ k<4294967296:=by
    have h1:(2:Int) ^ k<4294967296:=by
     have:2 ^ k<2 ^ 32:=Nat.pow_lt_pow_right (by omega) hlt
     have e:((2 ^ k:Nat):Int)=(2:Int) ^ k:=by simp
     omega
    have h2:=two_pos k
    rcases hb with h | h
    ·rw [h];omega
    ·rw [h];omega
   have HV:Hid (bits .or .u32 (hB (revB a) k 0) (bt a (31 - k) * 2 ^ k)=hB (revB a) (k+1) 0):=or_snoc (revB a) (revB_01 a) k hlt
   have HY:Hid (Value.int .u32 (hB (revB a) (k+1) 0)=Value.int .u32 (hB (revB a) (k+1) 0)):=rfl
   have hT:(31:Int) - (k:Int)=((31 - k:Nat):Int):=by omega
   generalize hB (revB a) k 0=X at *
   have HLT:=hide hlt
   go_wp2_with fail
   refine (hC _).mono ?_
   rintro e w' ⟨rfl,rfl⟩
   clear hC hT hlt hk
   generalize bt a (31 - k)=y at *
   go_wp2
   rw [HV.out]
   exact⟨⟨k+1,HLT.out,by simp,rfl,trivial⟩,meas32u HLT.out⟩
  ·have e32:k=32:=by omega
   subst e32
   go_wp2
   go_ret
   exact⟨rfl,rfl⟩
set_option maxHeartbeats 2000000 in
theorem counted_any (a:Int) (w:World) (a0:0≤a) (a1:a<4294967296):Calls Tryz.prog 67 #[.int .u32 a] w fun e w'=>e=.returned (.int .u32 (cntB (bt a) 32))∧w=w':=by
 go_enter Tryz.func67,Tryz.ntmps67
 go_wp2_with fail
 go_loopw [3,5] (fun x i wr=>∃ k:Nat,k≤32∧i=.int .u32 k∧x=.int .u32 (cntB (bt a) k)∧w=wr) (fun _ i _=>32 - (intOf i).toNat)
 case atStart=>exact⟨0,by omega,rfl,rfl,rfl⟩
 case round =>
  obtain⟨k,hk,rfl,rfl,rfl⟩:=hrel
  by_cases hlt:k<32
  ·have hki:(k:Int)<32:=by omega
   have hC:=fun w=>bit_any a k w a0 a1 hlt
   have hb:=bt_or a k
   have hX:=cntB_in (bt a) (is01_bt a) k
   have HY:Hid (Value.int .u32 (cntB (bt a) k+bt a k)=Value.int .u32 (cntB (bt a) (k+1))):=rfl
   have HLT:=hide hlt
   generalize cntB (bt a) k=X at *
   go_wp2_with fail
   refine (hC _).mono ?_
   rintro e w' ⟨rfl,rfl⟩
   clear hC hlt hk
   generalize bt a k=y at *
   go_wp2
   exact⟨⟨k+1,HLT.out,by simp,HY.out,trivial⟩,meas32u HLT.out⟩
  ·have e32:k=32:=by omega
   subst e32
   go_wp2
   go_ret
   exact⟨rfl,rfl⟩
def unV (op a:Int):Int:=if op=126 then (-a) % 4294967296 else if op=200 then 4294967295 - a else if op=204 then hB (revB a) 32 0 else if op=205 then cntB (bt a) 32 else if op=168 then b2i (decide (a=0)) else if op=83 then a else if op=124 then a else 0
def unB (op:Int):Bool:=decide (op=126∨op=200∨op=204∨op=205∨op=168∨op=83∨op=124)
theorem ofOne1_any (a:Int) (w:World):Calls Tryz.prog 61 #[.int .u32 a] w fun e w'=>e=.returned (.int .u32 a)∧w=w':=by
 go_enter Tryz.func61,Tryz.ntmps61
 go_wp2
 go_ret
 exact⟨rfl,rfl⟩
theorem ofOne2_any (a:Int) (w:World):Calls Tryz.prog 62 #[.int .u32 a] w fun e w'=>e=.returned (.int .u32 (unV 126 a))∧w=w':=by
 go_enter Tryz.func62,Tryz.ntmps62
 go_wp2
 go_ret
 exact⟨by simp [unV],rfl⟩
theorem ofOne3_any (a:Int) (w:World) (a0:0≤a) (a1:a<4294967296):Calls Tryz.prog 63 #[.int .u32 a] w fun e w'=>e=.returned (.int .u32 (unV 200 a))∧w=w':=by
 go_enter Tryz.func63,Tryz.ntmps63
 go_wp2
 go_ret
 refine⟨ret_int ?_,rfl⟩
 simp only [unV]
 rw [if_neg (by decide),if_pos trivial]
 exact xor_top a a0 a1
theorem ofOne4_any (a:Int) (w:World) (a0:0≤a) (a1:a<4294967296):Calls Tryz.prog 64 #[.int .u32 a] w fun e w'=>e=.returned (.int .u32 (unV 204 a))∧w=w':=by
 have hC:=reversed_any a w a0 a1
 have hV:hB (revB a) 32 0=unV 204 a:=rfl
 rw [hV] at hC
 generalize unV 204 a=V at *
 clear hV
 go_enter Tryz.func64,Tryz.ntmps64
 go_wp2_with fail
 refine hC.mono ?_
 rintro e w' ⟨rfl,rfl⟩
 go_wp2
 go_ret
 exact⟨rfl,rfl⟩
theorem ofOne5_any (a:Int) (w:World) (a0:0≤a) (a1:a<4294967296):Calls Tryz.prog 66 #[.int .u32 a] w fun e w'=>e=.returned (.int .u32 (unV 205 a))∧w=w':=by
 have hC:=counted_any a w a0 a1
 have hV:cntB (bt a) 32=unV 205 a:=rfl
 rw [hV] at hC
 generalize unV 205 a=V at *
 clear hV
 go_enter Tryz.func66,Tryz.ntmps66
 go_wp2_with fail
 refine hC.mono ?_
 rintro e w' ⟨rfl,rfl⟩
 go_wp2
 go_ret
 exact⟨rfl,rfl⟩
theorem ofOne6_any (a:Int) (w:World):Calls Tryz.prog 68 #[.int .u32 a] w fun e w'=>e=.returned (.int .u32 (unV 168 a))∧w=w':=by
 go_enter Tryz.func68,Tryz.ntmps68
 go_wp2_with (go_at_call 36;refine (word13_any _ _).mono ?_;rintro e w' ⟨rfl,rfl⟩)
 go_ret
 exact⟨by simp [unV,beq_dec],rfl⟩
def OneN (op:Int) (n:Nat):Prop:=Enters n∧∀ (a:Int) (W:World),0≤a→a<4294967296→Calls Tryz.prog n #[.int .u32 a] W fun e w'=>e=.returned (.int .u32 (unV op a))∧W=w'
theorem ofOneV_q (op:Int):(unB op=false∧(∀ a,unV op a=0)∧ofOneV op=.nilFunc)∨∃ n,ofOneV op=.func (.func n) #[] #[]∧unB op=true∧OneN op n:=by
 by_cases e1:op=126
 ·subst e1;exact .inr ⟨62,rfl,rfl,Tryz.call62,fun a W _ _=>ofOne2_any a W⟩
 by_cases e2:op=200
 ·subst e2;exact .inr ⟨63,rfl,rfl,Tryz.call63,fun a W=>ofOne3_any a W⟩
 by_cases e3:op=204
 ·subst e3;exact .inr ⟨64,rfl,rfl,Tryz.call64,fun a W=>ofOne4_any a W⟩
 by_cases e4:op=205
 ·subst e4;exact .inr ⟨66,rfl,rfl,Tryz.call66,fun a W=>ofOne5_any a W⟩
 by_cases e5:op=168
 ·subst e5;exact .inr ⟨68,rfl,rfl,Tryz.call68,fun a W _ _=>ofOne6_any a W⟩
 by_cases e6:op=83
 ·subst e6;exact .inr ⟨61,rfl,rfl,Tryz.call61,fun a W _ _=>ofOne1_any a W⟩
 by_cases e7:op=124
 ·subst e7;exact .inr ⟨61,rfl,rfl,Tryz.call61,fun a W _ _=>ofOne1_any a W⟩
 exact .inl ⟨by simp [unB,e1,e2,e3,e4,e5,e6,e7],fun a=>by simp [unV,e1,e2,e3,e4,e5,e6,e7],by simp [ofOneV,e1,e2,e3,e4,e5,e6,e7]⟩
end Go.Proofs.YtonhnflilfjkbaaGreat
namespace Go.Proofs.YtonhnflilfjkbaaGreat
open Go.RowKit
set_option linter.unusedVariables false
set_option linter.unusedSimpArgs false
theorem div_le (a b:Int) (a0:0≤a) (b0:0≤b):0≤a / b∧a / b≤a:=⟨Int.ediv_nonneg a0 b0,Int.ediv_le_self b a0⟩
theorem mod_lt (a b:Int) (b0:0≤b) (hb:b≠0):0≤a % b∧a % b<b:=⟨Int.emod_nonneg _ hb,Int.emod_lt_of_pos _ (by omega)⟩
end Go.Proofs.YtonhnflilfjkbaaGreat
namespace Go.Proofs.YtonhnflilfjkbaaGreat
open Go.RowKit Go.Maps
set_option linter.unusedVariables false
set_option linter.unusedSimpArgs false
set_option maxRecDepth 10000
def prX (op a b:Int):Int:=if op=149 then (a+b) % 4294967296 else if op=150 then (a - b) % 4294967296 else if op=151 then a * b % 4294967296 else if op=152 then wrap32 a * wrap32 b % 4294967296 else 0
def prY (op a b:Int):Int:=if op=149 then b2i (decide (4294967296≤a+b)) else if op=150 then b2i (decide (a<b)) else if op=151 then a * b / 4294967296 else if op=152 then wrap32 a * wrap32 b / 4294967296 % 4294967296 else 0
def prB (op:Int):Bool:=decide (op=149∨op=150∨op=151∨op=152)
theorem parted_any (n:Int) (w:World) (h0:0≤n) (h1:n<18446744073709551616):Calls Tryz.prog 42 #[.int .u64 n] w fun e w'=>e=.returned (.tuple #[.int .u32 (n % 4294967296),.int .u32 (n / 4294967296)])∧w=w':=by
 go_enter Tryz.func42,Tryz.ntmps42
 go_wp2
 go_ret2
 exact⟨rfl,rfl⟩
theorem ofPair1_any (a b:Int) (w:World) (a0:0≤a) (a1:a<4294967296) (b0:0≤b) (b1:b<4294967296):Calls Tryz.prog 39 #[.int .u32 a,.int .u32 b] w fun e w'=>e=.returned (.tuple #[.int .u32 (prX 149 a b),.int .u32 (prY 149 a b)])∧w=w':=by
 have hd:decide ((a+b) % 4294967296<a)=decide (4294967296≤a+b):=by
  by_cases h:4294967296≤a+b
  ·simp [h];omega
  ·simp [h];omega
 go_enter Tryz.func39,Tryz.ntmps39
 go_wp2_with (go_at_call 36;refine (word13_any _ _).mono ?_;rintro e w' ⟨rfl,rfl⟩)
 go_ret2
 refine⟨?_,rfl⟩
 simp [prX,prY,hd]
theorem ofPair2_any (a b:Int) (w:World) (a0:0≤a) (a1:a<4294967296) (b0:0≤b) (b1:b<4294967296):Calls Tryz.prog 40 #[.int .u32 a,.int .u32 b] w fun e w'=>e=.returned (.tuple #[.int .u32 (prX 150 a b),.int .u32 (prY 150 a b)])∧w=w':=by
 go_enter Tryz.func40,Tryz.ntmps40
 go_wp2_with (go_at_call 36;refine (word13_any _ _).mono ?_;rintro e w' ⟨rfl,rfl⟩)
 go_ret2
 refine⟨?_,rfl⟩
 simp [prX,prY]
theorem mul_in (a b:Int) (a0:0≤a) (a1:a<4294967296) (b0:0≤b) (b1:b<4294967296):0≤a * b∧a * b≤18446744065119617025:=by
 obtain⟨m,rfl⟩:=Int.eq_ofNat_of_zero_le a0
 obtain⟨n,rfl⟩:=Int.eq_ofNat_of_zero_le b0
 have:m * n≤4294967295 * 4294967295:=Nat.mul_le_mul (by omega) (by omega)
 have e:(m:Int) * (n:Int)=((m * n:Nat):Int):=by simp
 rw [e];omega
theorem ofPair3_any (a b:Int) (w:World) (a0:0≤a) (a1:a<4294967296) (b0:0≤b) (b1:b<4294967296):Calls Tryz.prog 41 #[.int .u32 a,.int .u32 b] w fun e w'=>e=.returned (.tuple #[.int .u32 (prX 151 a b),.int .u32 (prY 151 a b)])∧w=w':=by
 have hm:=mul_in a b a0 a1 b0 b1
 have hP:=fun w=>parted_any (a * b) w hm.1 (by omega)
 have hX:a * b % 4294967296=prX 151 a b:=rfl
 have hY:a * b / 4294967296=prY 151 a b:=rfl
 rw [hX,hY] at hP
 generalize prX 151 a b=X at *
 generalize prY 151 a b=Y at *
 clear hX hY
 go_enter Tryz.func41,Tryz.ntmps41
 go_wp2_with fail
 refine (hP _).mono ?_
 rintro e w' ⟨rfl,rfl⟩
 go_wp2
 go_ret2
 exact⟨rfl,rfl⟩
theorem smul_in (a b:Int) (ha:-2147483648≤a∧a<2147483648) (hb:-2147483648≤b∧b<2147483648):-4611686018427387904≤a * b∧a * b≤4611686018427387904:=by
 have h1:(a * b).natAbs=a.natAbs * b.natAbs:=Int.natAbs_mul a b
 have h2:a.natAbs * b.natAbs≤2147483648 * 2147483648:=Nat.mul_le_mul (by omega) (by omega)
 omega
theorem u64_lo (x:Int):x % 18446744073709551616 % 4294967296=x % 4294967296:=by omega
theorem u64_hi (x:Int):x % 18446744073709551616 / 4294967296=x / 4294967296 % 4294967296:=by omega
theorem ofPair4_at (a b S T:Int) (w:World) (a0:0≤a) (a1:a<4294967296) (b0:0≤b) (b1:b<4294967296) (hS:wrap32 a=S) (hT:wrap32 b=T) (iS:-2147483648≤S∧S<2147483648) (iT:-2147483648≤T∧T<2147483648):Calls Tryz.prog 43 #[.int .u32 a,.int .u32 b] w fun e w'=>e=.returned (.tuple #[.int .u32 (S * T % 4294967296),.int .u32 (S * T / 4294967296 % 4294967296)])∧w=w':=by
 have hm:=smul_in S T iS iT
 have hP:=fun w=>parted_any (S * T % 18446744073709551616) w (by omega) (by omega)
 rw [u64_lo,u64_hi] at hP
 generalize S * T % 4294967296=X at *
 generalize S * T / 4294967296 % 4294967296=Y at *
 go_enter Tryz.func43,Tryz.ntmps43
 go_wp2_with fail
 first | refine (hP _).mono ?_ | (rw [show IntKind.u64.wrap (S * T)=S * T % 18446744073709551616 from rfl];refine (hP _).mono ?_)
 rintro e w' ⟨rfl,rfl⟩
 go_wp2
 go_ret2
 exact⟨rfl,rfl⟩
theorem ofPair4_any (a b:Int) (w:World) (a0:0≤a) (a1:a<4294967296) (b0:0≤b) (b1:b<4294967296):Calls Tryz.prog 43 #[.int .u32 a,.int .u32 b] w fun e w'=>e=.returned (.tuple #[.int .u32 (prX 152 a b),.int .u32 (prY 152 a b)])∧w=w':=by
 have:=ofPair4_at a b _ _ w a0 a1 b0 b1 rfl rfl (wrap_in a) (wrap_in b)
 simpa [prX,prY] using this
def PairN (op:Int) (n:Nat):Prop:=Enters n∧∀ (a b:Int) (W:World),0≤a→a<4294967296→0≤b→b<4294967296→Calls Tryz.prog n #[.int .u32 a,.int .u32 b] W fun e w'=>e=.returned (.tuple #[.int .u32 (prX op a b),.int .u32 (prY op a b)])∧W=w'
theorem ofPairV_q (op:Int):(prB op=false∧(∀ a b,prX op a b=0∧prY op a b=0)∧ofPairV op=.nilFunc)∨∃ n,ofPairV op=.func (.func n) #[] #[]∧prB op=true∧PairN op n:=by
 by_cases e149:op=149
 ·subst e149;exact .inr ⟨39,rfl,rfl,Tryz.call39,fun a b W=>ofPair1_any a b W⟩
 by_cases e150:op=150
 ·subst e150;exact .inr ⟨40,rfl,rfl,Tryz.call40,fun a b W=>ofPair2_any a b W⟩
 by_cases e151:op=151
 ·subst e151;exact .inr ⟨41,rfl,rfl,Tryz.call41,fun a b W=>ofPair3_any a b W⟩
 by_cases e152:op=152
 ·subst e152;exact .inr ⟨43,rfl,rfl,Tryz.call43,fun a b W=>ofPair4_any a b W⟩
 exact .inl ⟨by simp [prB,e149,e150,e151,e152],fun a b=>by simp [prX,prY,e149,e150,e151,e152],by simp [ofPairV,e149,e150,e151,e152]⟩
end Go.Proofs.YtonhnflilfjkbaaGreat
namespace Go.Proofs.YtonhnflilfjkbaaGreat
open Go.RowKit
set_option linter.unusedVariables false
set_option linter.unusedSimpArgs false
set_option maxRecDepth 10000
def arV (op:Int):Int:=if unB op=true∨op=154∨op=155 then 1 else if binB op=true∨prB op=true then 2 else if op=169∨op=202∨op=203 then 3 else if op=201 then 4 else 0
theorem lookF_no:∀ (l:List (Int×Frm)) (n:Int),(lookF l n).2=false→(lookF l n).1=noFrm
 | [],n,_=>rfl
 | (k,s) :: l,n,h=>by
  unfold lookF at h ⊢
  split at h
  ·cases h
  ·rename_i hk
   rw [if_neg hk]
   exact lookF_no l n h
theorem of_form (op:Int):∃ n f,ofV op=formV n f∧f=(lookF refT op).1:=by
 unfold ofV
 cases h:(lookF refT op).2
 ·exact⟨0,noFrm,rfl,(lookF_no _ _ h).symm⟩
 ·exact⟨op,_,rfl,rfl⟩
theorem arity_table:((List.range 82).all fun i=>(((lookF refT (124+(i:Int))).1.2.2.2.1.size:Nat):Int)==arV (124+(i:Int)))=true:=by decide +kernel
theorem arity_83:(((lookF refT 83).1.2.2.2.1.size:Nat):Int)=arV 83:=by decide +kernel
theorem arity_in (op:Int) (h:op=83∨(124≤op∧op≤205)):(((lookF refT op).1.2.2.2.1.size:Nat):Int)=arV op:=by
 rcases h with rfl | h
 ·exact arity_83
 ·obtain⟨i,hi⟩:∃ i:Nat,op=124+(i:Int):=⟨(op - 124).toNat,by omega⟩
  have:=List.all_eq_true.1 arity_table i (by simp;omega)
  rw [hi]
  simpa using this
theorem arity_out (op:Int) (h1:op≠83) (h2:¬ (124≤op∧op≤205)):arV op=0:=by
 have hu:unB op=false:=by simp [unB];omega
 have hb:binB op=false:=by
  unfold binB
  rw [Bool.eq_false_iff]
  intro e
  have hm:op∈binOps:=by simpa using e
  simp only [binOps,List.mem_cons,List.not_mem_nil,or_false] at hm
  omega
 have hp:prB op=false:=by simp [prB];omega
 unfold arV
 rw [hu,hb,hp]
 simp
 omega
set_option maxHeartbeats 2000000 in
theorem arity_any (op:Int) (w:World):Calls Tryz.prog 15 #[.int .u16 op] w fun e w'=>e=.returned (.int .i64 (arV op))∧Below w.heap.size w w':=by
 have hW:=fun w=>within_any op 124 205 w
 by_cases h:op=83∨(124≤op∧op≤205)
 ·have hA:=arity_in op h
  obtain⟨n,f,hf,rfl⟩:=of_form op
  have hO:=of_any op w
  rw [hf] at hO
  clear hf
  have hs:((lookF refT op).1.2.2.2.1.size:Int)=arV op:=hA
  generalize (lookF refT op).2=B at *
  generalize (lookF refT op).1=f at *
  obtain⟨f1,f2,f3,f4,f5,f6,f7⟩:=f
  simp only at hs hA
  unfold formV at hO
  simp only [frmCells] at hO
  generalize arV op=V at *
  clear hA
  by_cases h83:op=83
  ·subst h83
   go_enter Tryz.func15,Tryz.ntmps15
   go_wp2_with fail
   refine hO.mono ?_
   rintro e w1 ⟨rfl,hb⟩
   go_wp2
   go_ret
   exact⟨rfl,hb.alloc hb.size _⟩
  ·have hd:decide (124≤op∧op≤205)=true:=by simp;omega
   rw [hd] at hW
   clear hd h
   go_enter Tryz.func15,Tryz.ntmps15
   go_wp2_with fail
   refine (hW _).mono ?_
   rintro e w1 ⟨rfl,rfl⟩
   go_wp2_with fail
   refine hO.mono ?_
   rintro e w1 ⟨rfl,hb⟩
   go_wp2
   go_ret
   exact⟨rfl,hb.alloc hb.size _⟩
 ·have hz:=arity_out op (by omega) (by omega)
  rw [hz]
  have hd:decide (124≤op∧op≤205)=false:=by simp;omega
  rw [hd] at hW
  have h83:¬ op=83:=by omega
  clear hd h hz
  go_enter Tryz.func15,Tryz.ntmps15
  go_wp2_with fail
  refine (hW _).mono ?_
  rintro e w1 ⟨rfl,rfl⟩
  go_wp2
  go_ret
  exact⟨rfl,Below.refl _ _⟩
def offN (x:Int):Nat:=(x % 32).toNat
def widN (o:Nat) (c:Int):Nat:=min c.toNat (32 - o)
theorem offN_lt (x:Int):offN x<32:=by unfold offN;omega
theorem widN_le (o:Nat) (c:Int):o<32→o+widN o c≤32:=by unfold widN;omega
def flB (a:Int) (o n:Nat) (j:Nat):Int:=if j<n then bt a (o+j) else 0
def sfB (a:Int) (o n:Nat) (j:Nat):Int:=if n=0 then 0 else bt a (o+min j (n - 1))
def inB (a b:Int) (o n:Nat) (j:Nat):Int:=if o≤j∧j<o+n then bt b (j - o) else bt a j
theorem flB_01 (a:Int) (o n:Nat):Is01 (flB a o n):=fun j=>by unfold flB;split;exact bt_or _ _;exact .inl rfl
theorem sfB_01 (a:Int) (o n:Nat):Is01 (sfB a o n):=fun j=>by unfold sfB;split;exact .inl rfl;exact bt_or _ _
theorem inB_01 (a b:Int) (o n:Nat):Is01 (inB a b o n):=fun j=>by unfold inB;split <;> exact bt_or _ _
theorem shift_in (f:Nat→Int) (hf:Is01 f) (k:Nat) (hk:k<32):0≤f k * 2 ^ k∧f k * 2 ^ k<4294967296:=by
 have h1:(2:Int) ^ k<4294967296:=by
  have:2 ^ k<2 ^ 32:=Nat.pow_lt_pow_right (by omega) hk
  have e:((2 ^ k:Nat):Int)=(2:Int) ^ k:=by simp
  omega
 have h2:=two_pos k
 rcases hf k with h | h
 ·rw [h];omega
 ·rw [h];omega
theorem pow_in (k:Nat) (hk:k<32):0≤(1:Int) * 2 ^ k∧(1:Int) * 2 ^ k<4294967296:=shift_in (fun _=>1) (fun _=>.inr rfl) k hk
theorem field_all (a:Int) (o n:Nat) (hn:n≤32):hB (flB a o n) n 0=hB (flB a o n) 32 0:=by
 have h1:=hB_in (flB a o n) (flB_01 a o n) n 0
 have hp:(2:Int) ^ n≤4294967296:=by
  have:2 ^ n≤2 ^ 32:=Nat.pow_le_pow_right (by omega) hn
  have e:((2 ^ n:Nat):Int)=(2:Int) ^ n:=by simp
  omega
 refine (hB_eq _ _ (flB_01 a o n) h1.1 (by omega) fun k hk=>?_).symm
 by_cases h:k<n
 ·rw [bt_hB _ (flB_01 a o n) n 0 k h,Nat.zero_add]
 ·rw [bt_above _ n k h1.1 h1.2 (by omega)]
  simp [flB,h]
theorem bt_pow (p k:Nat):bt (1 * 2 ^ p) k=if k=p then 1 else 0:=by
 rw [bt_mul]
 by_cases h:k<p
 ·rw [if_pos h,if_neg (by omega)]
 ·rw [if_neg h]
  by_cases e:k=p
  ·subst e;simp [bt]
  ·rw [if_neg e,bt_above 1 1 (k - p) (by omega) (by omega) (by omega)]
theorem bt_andNotW (a b:Int) (k:Nat) (a0:0≤a) (a1:a<4294967296) (b0:0≤b) (b1:b<4294967296) (hk:k<32):bt (bits .andNot .u32 a b) k=if bt a k=1∧bt b k=0 then 1 else 0:=by
 have e:bits .andNot .u32 a b=bits .and .u32 a (4294967295 - b):=by
  obtain⟨m,rfl⟩:=Int.eq_ofNat_of_zero_le a0
  obtain⟨n,rfl⟩:=Int.eq_ofNat_of_zero_le b0
  have e2:(4294967295:Int) - (n:Int)=((4294967295 - n:Nat):Int):=by omega
  rw [u32_andNot_nat _ _ (by omega) (by omega),e2,u32_and_nat _ _ (by omega) (by omega)]
 rw [e,bt_andW a _ k a0 a1 (by omega) (by omega),bt_not b k hk]
 rcases bt_or b k with h | h <;> simp [h]
theorem andNot_in (a b:Int) (a0:0≤a) (a1:a<4294967296) (b0:0≤b) (b1:b<4294967296):0≤bits .andNot .u32 a b∧bits .andNot .u32 a b<4294967296:=by
 obtain⟨m,rfl⟩:=Int.eq_ofNat_of_zero_le a0
 obtain⟨n,rfl⟩:=Int.eq_ofNat_of_zero_le b0
 exact nat_in (u32_andNot_nat _ _ (by omega) (by omega)) (Nat.and_lt_two_pow (n:=32) _ (by omega))
theorem ins_next (a b:Int) (o k:Nat) (h:o+k<32):bits .or .u32 (bits .andNot .u32 (hB (inB a b o k) 32 0) (1 * 2 ^ (o+k))) (bt b k * 2 ^ (o+k))=hB (inB a b o (k+1)) 32 0:=by
 have h1:=hB_word (inB a b o k) (inB_01 a b o k)
 have h2:=pow_in (o+k) h
 have h3:=andNot_in _ _ h1.1 h1.2 h2.1 h2.2
 have h4:0≤bt b k * 2 ^ (o+k)∧bt b k * 2 ^ (o+k)<4294967296:=shift_in (fun _=>bt b k) (fun _=>bt_or b k) (o+k) h
 have h5:=or_in _ _ h3.1 h3.2 h4.1 h4.2
 refine (hB_eq _ _ (inB_01 a b o (k+1)) h5.1 h5.2 fun j hj=>?_).symm
 rw [bt_orW _ _ j h3.1 h3.2 h4.1 h4.2,bt_andNotW _ _ j h1.1 h1.2 h2.1 h2.2 hj,bt_word _ (inB_01 a b o k) j hj,bt_pow,bt_mul]
 by_cases e:j=o+k
 ·subst e
  have hz:bt (bt b k) (o+k - (o+k))=bt b k:=by rw [Nat.sub_self,bt_zero];rcases bt_or b k with q | q <;> rw [q] <;> rfl
  rw [hz]
  rcases bt_or b k with q | q <;> simp [inB,q]
 ·have hz:(if j<o+k then (0:Int) else bt (bt b k) (j - (o+k)))=0:=by
   split
   ·rfl
   ·exact bt_above _ 1 _ (bt_lo b k) (by have:=bt_hi b k;simpa using this) (by omega)
  rw [hz]
  have hs:inB a b o (k+1) j=inB a b o k j:=by
   unfold inB
   by_cases c:o≤j∧j<o+k
   ·rw [if_pos c,if_pos (by omega)]
   ·rw [if_neg c,if_neg (by omega)]
  rw [hs]
  rcases inB_01 a b o k j with q | q <;> simp [q,e]
theorem ins_none (a b:Int) (o:Nat) (a0:0≤a) (a1:a<4294967296):hB (inB a b o 0) 32 0=a:=hB_eq _ _ (inB_01 a b o 0) a0 a1 fun k hk=>by unfold inB;rw [if_neg (by omega)]
theorem selected_any (c a b:Int) (w:World):Calls Tryz.prog 70 #[.int .u32 c,.int .u32 a,.int .u32 b] w fun e w'=>e=.returned (.int .u32 (if c=0 then b else a))∧w=w':=by
 by_cases h:c=0
 ·rw [if_pos h]
  subst h
  go_enter Tryz.func70,Tryz.ntmps70
  go_wp2
  go_ret
  exact⟨rfl,rfl⟩
 ·rw [if_neg h]
  go_enter Tryz.func70,Tryz.ntmps70
  go_wp2
  go_ret
  exact⟨rfl,rfl⟩
theorem reach_any (x c:Int) (w:World) (x0:0≤x) (c0:0≤c) (c1:c<4294967296):Calls Tryz.prog 108 #[.int .u32 x,.int .u32 c] w fun e w'=>e=.returned (.tuple #[.int .u32 (offN x),.int .u32 (widN (offN x) c)])∧w=w':=by
 have h1:x % 32=(offN x:Int):=by unfold offN;omega
 have h2:=offN_lt x
 have h3:min c (32 - (offN x:Int))=(widN (offN x) c:Int):=by unfold widN;omega
 have hi:(offN x:Int)<32:=by omega
 generalize widN (offN x) c=N at *
 generalize offN x=O at *
 go_enter Tryz.func108,Tryz.ntmps108
 go_wp2
 ·have e:(32:Int) - (O:Int)=(N:Int):=by omega
  go_ret2
  exact⟨by simp [e],rfl⟩
 ·have e:c=(N:Int):=by omega
  go_ret2
  exact⟨by simp [e],rfl⟩
theorem measN {k n:Nat} (h:k<n):n - (intOf (.int .u32 ((k:Int)+1))).toNat<n - (intOf (.int .u32 (k:Int))).toNat:=by simp [intOf];omega
set_option maxHeartbeats 4000000 in
theorem field_any (a x c:Int) (w:World) (a0:0≤a) (a1:a<4294967296) (x0:0≤x) (c0:0≤c) (c1:c<4294967296):Calls Tryz.prog 76 #[.int .u32 a,.int .u32 x,.int .u32 c] w fun e w'=>e=.returned (.int .u32 (hB (flB a (offN x) (widN (offN x) c)) 32 0))∧w=w':=by
 have hR:=reach_any x c w x0 c0 c1
 have ho:=offN_lt x
 have hw:=widN_le (offN x) c ho
 rw [← field_all a (offN x) (widN (offN x) c) (by omega)]
 generalize widN (offN x) c=N at *
 generalize offN x=O at *
 go_enter Tryz.func76,Tryz.ntmps76
 go_wp2_with fail
 refine hR.mono ?_
 rintro e w' ⟨rfl,rfl⟩
 go_wp2_with fail
 go_loopw [9,18] (fun y i wr=>∃ k:Nat,k≤N∧i=.int .u32 k∧y=.int .u32 (hB (flB a O N) k 0)∧w=wr) (fun _ i _=>N - (intOf i).toNat)
 case atStart=>exact⟨0,by omega,rfl,rfl,rfl⟩
 case round =>
  obtain⟨k,hk,rfl,rfl,rfl⟩:=hrel
  clear hR
  by_cases hlt:k<N
  ·have hki:(k:Int)<(N:Int):=by omega
   have hk32:k<32:=by omega
   have hki2:(k:Int)<32:=by omega
   have hC:=fun w=>bit_any a (O+k) w a0 a1 (by omega)
   have hb:=bt_or a (O+k)
   have hP:0≤bt a (O+k) * 2 ^ k∧bt a (O+k) * 2 ^ k<4294967296:=shift_in (fun _=>bt a (O+k)) (fun _=>bt_or _ _) k hk32
   have HV:Hid (bits .or .u32 (hB (flB a O N) k 0) (bt a (O+k) * 2 ^ k)=hB (flB a O N) (k+1) 0):=by
    have:=or_snoc (flB a O N) (flB_01 a O N) k hk32
    rw [show flB a O N k=bt a (O+k) by simp [flB,hlt]] at this
    exact this
   have hT:(O:Int)+(k:Int)=((O+k:Nat):Int):=by omega
   rw [← hT] at hC
   have hO32:(O:Int)+(k:Int)<32:=by omega
   have HLT:=hide hlt
   clear hT hlt hk hw ho
   generalize hB (flB a O N) k 0=X at *
   go_wp2_with fail
   refine (hC _).mono ?_
   rintro e w' ⟨rfl,rfl⟩
   clear hC
   generalize bt a (O+k)=y at *
   go_wp2
   rw [HV.out]
   exact⟨⟨k+1,HLT.out,by simp,rfl,trivial⟩,measN HLT.out⟩
  ·have e:k=N:=by omega
   subst e
   clear hw ho
   go_wp2
   go_ret
   exact⟨rfl,rfl⟩
set_option maxHeartbeats 4000000 in
theorem signedField_any (a x c:Int) (w:World) (a0:0≤a) (a1:a<4294967296) (x0:0≤x) (c0:0≤c) (c1:c<4294967296):Calls Tryz.prog 74 #[.int .u32 a,.int .u32 x,.int .u32 c] w fun e w'=>e=.returned (.int .u32 (hB (sfB a (offN x) (widN (offN x) c)) 32 0))∧w=w':=by
 have hR:=reach_any x c w x0 c0 c1
 have ho:=offN_lt x
 have hw:=widN_le (offN x) c ho
 generalize widN (offN x) c=N at *
 generalize offN x=O at *
 by_cases hN:N=0
 ·subst hN
  have hz:hB (sfB a O 0) 32 0=0:=hB_eq _ _ (sfB_01 a O 0) (by omega) (by omega) fun k hk=>by simp [sfB,bt]
  rw [hz]
  go_enter Tryz.func74,Tryz.ntmps74
  go_wp2_with fail
  refine hR.mono ?_
  rintro e w' ⟨rfl,rfl⟩
  go_wp2
  go_ret
  exact⟨rfl,rfl⟩
 have hNi:¬ (N:Int)=0:=by omega
 go_enter Tryz.func74,Tryz.ntmps74
 go_wp2_with fail
 refine hR.mono ?_
 rintro e w' ⟨rfl,rfl⟩
 go_wp2_with fail
 rw [show ((N:Int)==0)=false by simp [hN]]
 go_loopw [9,19] (fun y i wr=>∃ k:Nat,k≤32∧i=.int .u32 k∧y=.int .u32 (hB (sfB a O N) k 0)∧w=wr) (fun _ i _=>32 - (intOf i).toNat)
 case atStart=>exact⟨0,by omega,rfl,rfl,rfl⟩
 case round =>
  obtain⟨k,hk,rfl,rfl,rfl⟩:=hrel
  clear hR
  by_cases hlt:k<32
  ·have hki2:(k:Int)<32:=by omega
   have hN1:(1:Int)≤(N:Int):=by omega
   have hN2:(N:Int)≤32:=by omega
   have HLT:=hide hlt
   have key:∀ m:Nat,m=min k (N - 1)→bits .or .u32 (hB (sfB a O N) k 0) (bt a (O+m) * 2 ^ k)=hB (sfB a O N) (k+1) 0:=by
    intro m hm
    have:=or_snoc (sfB a O N) (sfB_01 a O N) k hlt
    rw [show sfB a O N k=bt a (O+m) by unfold sfB;rw [if_neg hN,hm]] at this
    exact this
   by_cases hm:k≤N - 1
   ·have hC:=fun w=>bit_any a (O+k) w a0 a1 (by omega)
    have hb:=bt_or a (O+k)
    have hP:0≤bt a (O+k) * 2 ^ k∧bt a (O+k) * 2 ^ k<4294967296:=shift_in (fun _=>bt a (O+k)) (fun _=>bt_or _ _) k hlt
    have HV:=hide (key k (by omega))
    have hT:(O:Int)+(k:Int)=((O+k:Nat):Int):=by omega
    rw [← hT] at hC
    have hO32:(O:Int)+(k:Int)<32:=by omega
    have hmi:¬ ((N:Int) - 1<(k:Int)):=by omega
    clear hT hlt hk hw ho key hm
    generalize hB (sfB a O N) k 0=X at *
    go_wp2_with fail
    refine (hC _).mono ?_
    rintro e w' ⟨rfl,rfl⟩
    clear hC
    generalize bt a (O+k)=y at *
    go_wp2
    rw [HV.out]
    exact⟨⟨k+1,HLT.out,by simp,rfl,trivial⟩,meas32u HLT.out⟩
   ·have hC:=fun w=>bit_any a (O+(N - 1)) w a0 a1 (by omega)
    have hb:=bt_or a (O+(N - 1))
    have hP:0≤bt a (O+(N - 1)) * 2 ^ k∧bt a (O+(N - 1)) * 2 ^ k<4294967296:=shift_in (fun _=>bt a (O+(N - 1))) (fun _=>bt_or _ _) k hlt
    have HV:=hide (key (N - 1) (by omega))
    have hT:(O:Int)+((N:Int) - 1)=((O+(N - 1):Nat):Int):=by omega
    rw [← hT] at hC
    have hO32:(O:Int)+((N:Int) - 1)<32:=by omega
    have hmi:(N:Int) - 1<(k:Int):=by omega
    clear hT hlt hk hw ho key hm
    generalize hB (sfB a O N) k 0=X at *
    go_wp2_with fail
    refine (hC _).mono ?_
    rintro e w' ⟨rfl,rfl⟩
    clear hC
    generalize bt a (O+(N - 1))=y at *
    go_wp2
    rw [HV.out]
    exact⟨⟨k+1,HLT.out,by simp,rfl,trivial⟩,meas32u HLT.out⟩
  ·have e:k=32:=by omega
   subst e
   clear hw ho
   go_wp2
   go_ret
   exact⟨rfl,rfl⟩
set_option maxHeartbeats 4000000 in
theorem inserted_any (a b x c:Int) (w:World) (a0:0≤a) (a1:a<4294967296) (b0:0≤b) (b1:b<4294967296) (x0:0≤x) (c0:0≤c) (c1:c<4294967296):Calls Tryz.prog 72 #[.int .u32 a,.int .u32 b,.int .u32 x,.int .u32 c] w fun e w'=>e=.returned (.int .u32 (hB (inB a b (offN x) (widN (offN x) c)) 32 0))∧w=w':=by
 have hR:=reach_any x c w x0 c0 c1
 have ho:=offN_lt x
 have hw:=widN_le (offN x) c ho
 have HZ:=hide (ins_none a b (offN x) a0 a1)
 generalize widN (offN x) c=N at *
 generalize offN x=O at *
 go_enter Tryz.func72,Tryz.ntmps72
 go_wp2_with fail
 refine hR.mono ?_
 rintro e w' ⟨rfl,rfl⟩
 go_wp2_with fail
 go_loopw [0,19] (fun y i wr=>∃ k:Nat,k≤N∧i=.int .u32 k∧y=.int .u32 (hB (inB a b O k) 32 0)∧w=wr) (fun _ i _=>N - (intOf i).toNat)
 case atStart=>exact⟨0,by omega,rfl,by rw [HZ.out],rfl⟩
 case round =>
  obtain⟨k,hk,rfl,rfl,rfl⟩:=hrel
  clear hR HZ
  by_cases hlt:k<N
  ·have hki:(k:Int)<(N:Int):=by omega
   have hki2:(k:Int)<32:=by omega
   have hC:=fun w=>bit_any b k w b0 b1 (by omega)
   have hb:=bt_or b k
   have hok:O+k<32:=by omega
   have hin:=hB_word (inB a b O k) (inB_01 a b O k)
   have hP:0≤bt b k * 2 ^ (O+k)∧bt b k * 2 ^ (O+k)<4294967296:=shift_in (fun _=>bt b k) (fun _=>bt_or _ _) (O+k) hok
   have hQ:0≤(2:Int) ^ (O+k)∧(2:Int) ^ (O+k)<4294967296:=by have:=pow_in (O+k) hok;rw [Int.one_mul] at this;exact this
   have HV:Hid (bits .or .u32 (bits .andNot .u32 (hB (inB a b O k) 32 0) (2 ^ (O+k))) (bt b k * 2 ^ (O+k))=hB (inB a b O (k+1)) 32 0):=by
    have:=ins_next a b O k hok
    rw [Int.one_mul] at this
    exact this
   have hT:((O:Int)+(k:Int)).toNat=O+k:=by omega
   have hO32:(O:Int)+(k:Int)<32:=by omega
   have HLT:=hide hlt
   clear hlt hk hw ho
   generalize hB (inB a b O k) 32 0=X at *
   go_wp2_with fail
   refine (hC _).mono ?_
   rintro e w' ⟨rfl,rfl⟩
   clear hC
   generalize bt b k=y at *
   go_wp2
   rw [HV.out]
   exact⟨⟨k+1,HLT.out,by simp,rfl,trivial⟩,measN HLT.out⟩
  ·have e:k=N:=by omega
   subst e
   clear hw ho
   go_wp2
   go_ret
   exact⟨rfl,rfl⟩
end Go.Proofs.YtonhnflilfjkbaaGreat
namespace Go.Proofs.YtonhnflilfjkbaaGreat
open Go.RowKit Go.Maps
set_option linter.unusedVariables false
set_option linter.unusedSimpArgs false
set_option maxRecDepth 10000
def moV (op:Int) (zs:List Int):Int :=
 if op=169 then (if nth zs 0=0 then nth zs 2 else nth zs 1)
 else if op=201 then hB (inB (nth zs 0) (nth zs 1) (offN (nth zs 2)) (widN (offN (nth zs 2)) (nth zs 3))) 32 0
 else if op=202 then hB (sfB (nth zs 0) (offN (nth zs 1)) (widN (offN (nth zs 1)) (nth zs 2))) 32 0
 else if op=203 then hB (flB (nth zs 0) (offN (nth zs 1)) (widN (offN (nth zs 1)) (nth zs 2))) 32 0 else 0
def moB (op:Int):Bool:=decide (op=169∨op=201∨op=202∨op=203)
theorem view_at {w:World} {a:Option Addr} {zs:List Int} (h:View .u32 w a zs) (h0:0<zs.length):∃ b off,a=some ⟨b,off,none⟩∧∀ j,j<zs.length→w.cell? ⟨b,off+j,none⟩=some (.int .u32 (nth zs j)):=by
 obtain⟨b,off,rfl,_,_⟩:=h 0 h0
 refine⟨b,off,rfl,fun j hj=>?_⟩
 obtain⟨b',off',e,_,hc⟩:=h j hj
 simp only [Option.some.injEq,Addr.mk.injEq,and_true] at e
 obtain⟨rfl,rfl⟩:=e
 exact hc
set_option maxHeartbeats 4000000 in
theorem ofMore1_any (a:Option Addr) (len cap:Nat) (zs:List Int) (w:World) (hv:View .u32 w a zs) (hw:Within 4294967296 zs) (hl:zs.length=len) (hn:len=3):Calls Tryz.prog 69 #[.slice a len cap] w fun e w'=>e=.returned (.int .u32 (moV 169 zs))∧∃ q,w'=w.drewN q:=by
 subst hn
 obtain⟨b,off,rfl,hc⟩:=view_at hv (by omega)
 have c0:=hc 0 (by omega)
 have i0:=hw.at (k:=0) (by omega)
 have c1:=hc 1 (by omega)
 have i1:=hw.at (k:=1) (by omega)
 have c2:=hc 2 (by omega)
 have i2:=hw.at (k:=2) (by omega)
 rw [Nat.add_zero] at c0
 have hS:=fun q=>selected_any (nth zs 0) (nth zs 1) (nth zs 2) (w.drewN q)
 have hV:moV 169 zs=if nth zs 0=0 then nth zs 2 else nth zs 1:=rfl
 rw [hV]
 generalize (if nth zs 0=0 then nth zs 2 else nth zs 1)=V at *
 clear hv hw hl hc hV
 generalize nth zs 0=z0 at *
 generalize nth zs 1=z1 at *
 generalize nth zs 2=z2 at *
 go_enter Tryz.func69,Tryz.ntmps69
 go_wp2_with fail
 go_quiet ((go_at_call 70;exact Calls.quiet_of_same ((hS _).mono fun _ _ h=>⟨h.1,h.2.symm⟩)))
 go_wp2
 go_ret
 exact⟨rfl,_,rfl⟩
set_option maxHeartbeats 4000000 in
theorem ofMore2_any (a:Option Addr) (len cap:Nat) (zs:List Int) (w:World) (hv:View .u32 w a zs) (hw:Within 4294967296 zs) (hl:zs.length=len) (hn:len=4):Calls Tryz.prog 71 #[.slice a len cap] w fun e w'=>e=.returned (.int .u32 (moV 201 zs))∧∃ q,w'=w.drewN q:=by
 subst hn
 obtain⟨b,off,rfl,hc⟩:=view_at hv (by omega)
 have c0:=hc 0 (by omega)
 have i0:=hw.at (k:=0) (by omega)
 have c1:=hc 1 (by omega)
 have i1:=hw.at (k:=1) (by omega)
 have c2:=hc 2 (by omega)
 have i2:=hw.at (k:=2) (by omega)
 have c3:=hc 3 (by omega)
 have i3:=hw.at (k:=3) (by omega)
 rw [Nat.add_zero] at c0
 have hS:=fun q=>inserted_any (nth zs 0) (nth zs 1) (nth zs 2) (nth zs 3) (w.drewN q) i0.1 i0.2 i1.1 i1.2 i2.1 i3.1 i3.2
 have hV:moV 201 zs=hB (inB (nth zs 0) (nth zs 1) (offN (nth zs 2)) (widN (offN (nth zs 2)) (nth zs 3))) 32 0:=rfl
 rw [hV]
 generalize (hB (inB (nth zs 0) (nth zs 1) (offN (nth zs 2)) (widN (offN (nth zs 2)) (nth zs 3))) 32 0)=V at *
 clear hv hw hl hc hV
 generalize nth zs 0=z0 at *
 generalize nth zs 1=z1 at *
 generalize nth zs 2=z2 at *
 generalize nth zs 3=z3 at *
 go_enter Tryz.func71,Tryz.ntmps71
 go_wp2_with fail
 go_quiet ((go_at_call 72;exact Calls.quiet_of_same ((hS _).mono fun _ _ h=>⟨h.1,h.2.symm⟩)))
 go_wp2
 go_ret
 exact⟨rfl,_,rfl⟩
set_option maxHeartbeats 4000000 in
theorem ofMore3_any (a:Option Addr) (len cap:Nat) (zs:List Int) (w:World) (hv:View .u32 w a zs) (hw:Within 4294967296 zs) (hl:zs.length=len) (hn:len=3):Calls Tryz.prog 73 #[.slice a len cap] w fun e w'=>e=.returned (.int .u32 (moV 202 zs))∧∃ q,w'=w.drewN q:=by
 subst hn
 obtain⟨b,off,rfl,hc⟩:=view_at hv (by omega)
 have c0:=hc 0 (by omega)
 have i0:=hw.at (k:=0) (by omega)
 have c1:=hc 1 (by omega)
 have i1:=hw.at (k:=1) (by omega)
 have c2:=hc 2 (by omega)
 have i2:=hw.at (k:=2) (by omega)
 rw [Nat.add_zero] at c0
 have hS:=fun q=>signedField_any (nth zs 0) (nth zs 1) (nth zs 2) (w.drewN q) i0.1 i0.2 i1.1 i2.1 i2.2
 have hV:moV 202 zs=hB (sfB (nth zs 0) (offN (nth zs 1)) (widN (offN (nth zs 1)) (nth zs 2))) 32 0:=rfl
 rw [hV]
 generalize (hB (sfB (nth zs 0) (offN (nth zs 1)) (widN (offN (nth zs 1)) (nth zs 2))) 32 0)=V at *
 clear hv hw hl hc hV
 generalize nth zs 0=z0 at *
 generalize nth zs 1=z1 at *
 generalize nth zs 2=z2 at *
 go_enter Tryz.func73,Tryz.ntmps73
 go_wp2_with fail
 go_quiet ((go_at_call 74;exact Calls.quiet_of_same ((hS _).mono fun _ _ h=>⟨h.1,h.2.symm⟩)))
 go_wp2
 go_ret
 exact⟨rfl,_,rfl⟩
set_option maxHeartbeats 4000000 in
theorem ofMore4_any (a:Option Addr) (len cap:Nat) (zs:List Int) (w:World) (hv:View .u32 w a zs) (hw:Within 4294967296 zs) (hl:zs.length=len) (hn:len=3):Calls Tryz.prog 75 #[.slice a len cap] w fun e w'=>e=.returned (.int .u32 (moV 203 zs))∧∃ q,w'=w.drewN q:=by
 subst hn
 obtain⟨b,off,rfl,hc⟩:=view_at hv (by omega)
 have c0:=hc 0 (by omega)
 have i0:=hw.at (k:=0) (by omega)
 have c1:=hc 1 (by omega)
 have i1:=hw.at (k:=1) (by omega)
 have c2:=hc 2 (by omega)
 have i2:=hw.at (k:=2) (by omega)
 rw [Nat.add_zero] at c0
 have hS:=fun q=>field_any (nth zs 0) (nth zs 1) (nth zs 2) (w.drewN q) i0.1 i0.2 i1.1 i2.1 i2.2
 have hV:moV 203 zs=hB (flB (nth zs 0) (offN (nth zs 1)) (widN (offN (nth zs 1)) (nth zs 2))) 32 0:=rfl
 rw [hV]
 generalize (hB (flB (nth zs 0) (offN (nth zs 1)) (widN (offN (nth zs 1)) (nth zs 2))) 32 0)=V at *
 clear hv hw hl hc hV
 generalize nth zs 0=z0 at *
 generalize nth zs 1=z1 at *
 generalize nth zs 2=z2 at *
 go_enter Tryz.func75,Tryz.ntmps75
 go_wp2_with fail
 go_quiet ((go_at_call 76;exact Calls.quiet_of_same ((hS _).mono fun _ _ h=>⟨h.1,h.2.symm⟩)))
 go_wp2
 go_ret
 exact⟨rfl,_,rfl⟩
def MoreN (op:Int) (n:Nat):Prop:=Enters n∧∀ (a:Option Addr) (len cap:Nat) (zs:List Int) (W:World),View .u32 W a zs→Within 4294967296 zs→zs.length=len→(len:Int)=arV op→Calls Tryz.prog n #[.slice a len cap] W fun e w'=>e=.returned (.int .u32 (moV op zs))∧∃ q,w'=W.drewN q
theorem ar169:arV 169=3:=by decide +kernel
theorem ar201:arV 201=4:=by decide +kernel
theorem ar202:arV 202=3:=by decide +kernel
theorem ar203:arV 203=3:=by decide +kernel
theorem ofMoreV_q (op:Int):(moB op=false∧(∀ zs,moV op zs=0)∧ofMoreV op=.nilFunc)∨∃ n,ofMoreV op=.func (.func n) #[] #[]∧moB op=true∧MoreN op n:=by
 by_cases e169:op=169
 ·subst e169;exact .inr ⟨69,rfl,rfl,Tryz.call69,fun a len cap zs W h1 h2 h3 h4=>ofMore1_any a len cap zs W h1 h2 h3 (by rw [ar169] at h4;omega)⟩
 by_cases e201:op=201
 ·subst e201;exact .inr ⟨71,rfl,rfl,Tryz.call71,fun a len cap zs W h1 h2 h3 h4=>ofMore2_any a len cap zs W h1 h2 h3 (by rw [ar201] at h4;omega)⟩
 by_cases e202:op=202
 ·subst e202;exact .inr ⟨73,rfl,rfl,Tryz.call73,fun a len cap zs W h1 h2 h3 h4=>ofMore3_any a len cap zs W h1 h2 h3 (by rw [ar202] at h4;omega)⟩
 by_cases e203:op=203
 ·subst e203;exact .inr ⟨75,rfl,rfl,Tryz.call75,fun a len cap zs W h1 h2 h3 h4=>ofMore4_any a len cap zs W h1 h2 h3 (by rw [ar203] at h4;omega)⟩
 exact .inl ⟨by simp [moB,e169,e201,e202,e203],fun zs=>by simp [moV,e169,e201,e202,e203],by simp [ofMoreV,e169,e201,e202,e203]⟩
def fiV (op:Int) (zs:List Int):Int:=if moB op=true∧(zs.length:Int)=arV op then moV op zs else 0
def fiB (op:Int) (zs:List Int):Bool:=moB op && decide ((zs.length:Int)=arV op)
def wdV (op:Int) (zs:List Int):Int:=if binB op=true then binV op (nth zs 0) (nth zs 1) else if unB op=true then unV op (nth zs 0) else moV op zs
theorem nilneFn0 (w:World):(binOp .neq 73 .nilFunc .nilFunc).run Tryz.prog w=.ok (.bool false) w:=by kernel_rfl
theorem somneFn0 (w:World) (fn:Fn) (p q:Array Value):(binOp .neq 73 (.func fn p q) .nilFunc).run Tryz.prog w=.ok (.bool true) w:=by kernel_rfl
theorem nilneFn2 (w:World):(binOp .neq 75 .nilFunc .nilFunc).run Tryz.prog w=.ok (.bool false) w:=by kernel_rfl
theorem somneFn2 (w:World) (fn:Fn) (p q:Array Value):(binOp .neq 75 (.func fn p q) .nilFunc).run Tryz.prog w=.ok (.bool true) w:=by kernel_rfl
theorem box_new (w:World) (v:Value) (T:Nat):(w.alloc (.cells #[v] T)).cell? ⟨w.heap.size,0,none⟩=some v:=by
 have h:=heap_alloc_new w (.cells #[v] T)
 simp only [World.cell?,h]
 rfl
theorem two_below {op:Int} {v:Value} {w w':World} (h:TwoQ op v w) (hb:Below w.heap.size w w'):TwoQ op v w':=by
 rcases h with h | h | ⟨p,n,h1,h2,h3,h4,h5,h6⟩
 ·exact .inl h
 ·exact .inr (.inl h)
 ·exact .inr (.inr ⟨p,n,h1,h2,Nat.lt_of_lt_of_le h3 hb.size,(hb.cell (p:=⟨p,0,none⟩) h3).trans h4,h5,h6⟩)
set_option maxHeartbeats 4000000 in
theorem ofWords1_any (op:Int) (v:Value) (p:Nat) (a:Option Addr) (len cap:Nat) (zs:List Int) (w:World) (hc:w.cell? ⟨p,0,none⟩=some v) (hq:TwoQ op v w) (hB:binB op=true) (hv:View .u32 w a zs) (hw:Within 4294967296 zs) (hl:zs.length=len) (hn:len=2) :
  Calls Tryz.prog 45 #[.slice a len cap,.pointer (some ⟨p,0,none⟩)] w fun e w'=>e=.returned (.int .u32 (binV op (nth zs 0) (nth zs 1)))∧∃ q,w'=w.drewN q:=by
 subst hn
 obtain⟨b,off,rfl,hcs⟩:=view_at hv (by omega)
 have c0:=hcs 0 (by omega)
 have i0:=hw.at (k:=0) (by omega)
 have c1:=hcs 1 (by omega)
 have i1:=hw.at (k:=1) (by omega)
 rw [Nat.add_zero] at c0
 rcases hq with ⟨q1,_,_⟩ | ⟨n,rfl,_,q3⟩ | ⟨p2,n,rfl,_,q3,q4,q5,q6⟩
 ·rw [q1] at hB;cases hB
 ·have hC:=fun q=>q3.2 (nth zs 0) (nth zs 1) (w.drewN q) i0.1 i0.2 i1.1 i1.2
  have hEn:=q3.1
  unfold Enters at hEn
  clear q3 hB hv hw hl hcs
  generalize binV op (nth zs 0) (nth zs 1)=V at *
  generalize nth zs 0=z0 at *
  generalize nth zs 1=z1 at *
  go_enter Tryz.func45,Tryz.ntmps45
  go_wp2_with fail
  go_quiet ((exact Calls.quiet_of_same ((hC _).mono fun _ _ h=>⟨h.1,h.2.symm⟩)))
  go_wp2
  go_ret
  exact⟨rfl,_,rfl⟩
 ·have hC:=fun q=>ofQuotients6_any op (nth zs 0) (nth zs 1) p2 n (w.drewN q) i0.1 i0.2 i1.1 i1.2 q4 q5 q6
  clear q3 q4 q5 q6 hB hv hw hl hcs
  generalize binV op (nth zs 0) (nth zs 1)=V at *
  generalize nth zs 0=z0 at *
  generalize nth zs 1=z1 at *
  go_enter Tryz.func45,Tryz.ntmps45
  go_wp2_with fail
  go_quiet ((exact Calls.quiet_of_same ((hC _).mono fun _ _ h=>⟨h.1,h.2.symm⟩)))
  go_wp2
  go_ret
  exact⟨rfl,_,rfl⟩
set_option maxHeartbeats 4000000 in
theorem ofWords2_any (op:Int) (n p:Nat) (a:Option Addr) (len cap:Nat) (zs:List Int) (w:World) (hc:w.cell? ⟨p,0,none⟩=some (.func (.func n) #[] #[])) (hq:OneN op n) (hv:View .u32 w a zs) (hw:Within 4294967296 zs) (hl:zs.length=len) (hn:len=1) :
  Calls Tryz.prog 47 #[.slice a len cap,.pointer (some ⟨p,0,none⟩)] w fun e w'=>e=.returned (.int .u32 (unV op (nth zs 0)))∧∃ q,w'=w.drewN q:=by
 subst hn
 obtain⟨b,off,rfl,hcs⟩:=view_at hv (by omega)
 have c0:=hcs 0 (by omega)
 have i0:=hw.at (k:=0) (by omega)
 rw [Nat.add_zero] at c0
 have hC:=fun q=>hq.2 (nth zs 0) (w.drewN q) i0.1 i0.2
 have hEn:=hq.1
 unfold Enters at hEn
 clear hq hv hw hl hcs
 generalize unV op (nth zs 0)=V at *
 generalize nth zs 0=z0 at *
 go_enter Tryz.func47,Tryz.ntmps47
 go_wp2_with fail
 go_quiet ((exact Calls.quiet_of_same ((hC _).mono fun _ _ h=>⟨h.1,h.2.symm⟩)))
 go_wp2
 go_ret
 exact⟨rfl,_,rfl⟩
def WdN (op:Int) (N:Nat) (n:Nat) (caps:Array Value) (W0:World):Prop :=
 Enters n∧∀ (a:Option Addr) (len cap:Nat) (zs:List Int) (W:World),Below N W0 W→View .u32 W a zs→Within 4294967296 zs→zs.length=len→(len:Int)=arV op →
  Calls Tryz.prog n (#[.slice a len cap]++caps) W fun e w'=>e=.returned (.int .u32 (wdV op zs))∧∃ q,w'=W.drewN q
def WdQ (op:Int) (v:Value) (w:World):Prop :=
 (∃ n,v=.func (.func n) #[] #[]∧WdN op w.heap.size n #[] w)∨∃ n p,v=.func (.func n) #[] #[.pointer (some ⟨p,0,none⟩)]∧WdN op w.heap.size n #[.pointer (some ⟨p,0,none⟩)] w
theorem ar_bin (op:Int) (h:binB op=true):arV op=2:=by
 have:op∈binOps:=by simpa [binB] using h
 simp only [binOps,List.mem_cons,List.not_mem_nil,or_false] at this
 rcases this with h | h | h | h | h | h | h | h | h | h | h | h | h | h | h | h | h | h | h | h | h | h | h | h | h | h | h | h <;> subst h <;> decide +kernel
theorem ar_un (op:Int) (h:unB op=true):arV op=1:=by unfold arV;rw [if_pos (.inl h)]
theorem un_bin (op:Int) (h:unB op=true):binB op=false:=by
 have:op=126∨op=200∨op=204∨op=205∨op=168∨op=83∨op=124:=by simpa [unB] using h
 rcases this with h | h | h | h | h | h | h <;> subst h <;> decide +kernel
set_option maxHeartbeats 4000000 in
theorem ofWords_any (op:Int) (w:World) (h0:0≤op) (h1:op<65536) (hO:binB op=true∨unB op=true∨moB op=true):Calls Tryz.prog 31 #[.int .u16 op] w fun e w'=>∃ v,e=.returned v∧WdQ op v w'∧Below w.heap.size w w':=by
 have hT:=ofTwo_any op w h0 h1
 have E1:=Tryz.call45
 have E2:=Tryz.call47
 have hE:=nilneFn0
 have hE2:=somneFn0
 have hE3:=nilneFn2
 have hE4:=somneFn2
 go_enter Tryz.func31,Tryz.ntmps31
 go_wp2_with fail
 refine hT.mono ?_
 rintro e w1 ⟨v,rfl,hq,hb⟩
 clear hT
 by_cases hB:binB op=true
 ·have hs:∃ n c,v=.func n #[] c:=by
   rcases hq with ⟨q1,_⟩ | ⟨n,rfl,_⟩ | ⟨p,n,rfl,_⟩
   ·rw [q1] at hB;cases hB
   ·exact⟨_,_,rfl⟩
   ·exact⟨_,_,rfl⟩
  obtain⟨n,c,rfl⟩:=hs
  go_wp2_with fail
  go_ret
  have hq2:=two_below hq ((Below.refl w1.heap.size w1).alloc (Nat.le_refl _) (.cells #[.func n #[] c] 73))
  refine⟨_,rfl,.inr ⟨_,_,rfl,?_⟩,hb.alloc hb.size _⟩
  refine⟨E1,fun a len cap zs W hW hv hw hl hn=>?_⟩
  have hcb:W.cell? ⟨w1.heap.size,0,none⟩=some (.func n #[] c):=(hW.cell (p:=⟨w1.heap.size,0,none⟩) (by simp)).trans (box_new _ _ _)
  refine (ofWords1_any op (.func n #[] c) w1.heap.size a len cap zs W hcb (two_below hq2 (hW.mono (by simp))) hB hv hw hl (by rw [ar_bin op hB] at hn;omega)).mono ?_
  rintro e w' ⟨rfl,hx⟩
  exact⟨by unfold wdV;rw [if_pos hB],hx⟩
 ·have hBf:binB op=false:=by simpa using hB
  have hn:v=.nilFunc:=by
   rcases hq with ⟨_,_,q3⟩ | ⟨n,_,q2,_⟩ | ⟨p,n,_,q2,_⟩
   ·exact q3
   ·exact absurd q2 hB
   ·exact absurd q2 hB
  subst hn
  clear hq hE2
  have hU:=ofOne_any op (w1.alloc (.cells #[.nilFunc] 73)) h0 h1
  rcases ofOneV_q op with ⟨q1,q2,q3⟩ | ⟨n,q1,q2,q3⟩
  ·rw [q3] at hU
   clear hE4
   have hM:moB op=true:=by rw [hBf,q1] at hO;simpa using hO
   rcases ofMoreV_q op with ⟨m1,m2,m3⟩ | ⟨n,m1,m2,m3⟩
   ·rw [m1] at hM;cases hM
   have hMo:=fun w=>ofMore_any op w h0 h1
   rw [m1] at hMo
   clear m1
   go_wp2_with fail
   refine hU.mono ?_
   rintro e w2 ⟨rfl,hb2⟩
   go_wp2_with fail
   refine (hMo _).mono ?_
   rintro e w3 ⟨rfl,hb3⟩
   go_wp2
   go_ret
   have hbA:Below w.heap.size w (w1.alloc (.cells #[.nilFunc] 73)):=hb.alloc hb.size _
   have hbB:=hbA.trans (hb2.mono hbA.size)
   have hbC:=hbB.alloc hbB.size (.cells #[.nilFunc] 75)
   refine⟨_,rfl,.inl ⟨_,rfl,m3.1,fun a len cap zs W hW hv hw hl hn=>?_⟩,hbC.trans (hb3.mono hbC.size)⟩
   refine (m3.2 a len cap zs W hv hw hl hn).mono ?_
   rintro e w' ⟨rfl,hx⟩
   exact⟨by unfold wdV;rw [hBf,q1];simp,hx⟩
  ·rw [q1] at hU
   clear hE3 q1
   go_wp2_with fail
   refine hU.mono ?_
   rintro e w2 ⟨rfl,hb2⟩
   go_wp2_with fail
   go_ret
   have hbA:Below w.heap.size w (w1.alloc (.cells #[.nilFunc] 73)):=hb.alloc hb.size _
   have hbB:=hbA.trans (hb2.mono hbA.size)
   refine⟨_,rfl,.inr ⟨_,_,rfl,?_⟩,hbB.alloc hbB.size _⟩
   refine⟨E2,fun a len cap zs W hW hv hw hl hn=>?_⟩
   have hcb:W.cell? ⟨w2.heap.size,0,none⟩=some (.func (.func n) #[] #[]):=(hW.cell (p:=⟨w2.heap.size,0,none⟩) (by simp)).trans (box_new _ _ _)
   refine (ofWords2_any op n w2.heap.size a len cap zs W hcb q3 hv hw hl (by rw [ar_un op q2] at hn;omega)).mono ?_
   rintro e w' ⟨rfl,hx⟩
   exact⟨by unfold wdV;rw [hBf,q2];simp,hx⟩
def anyB (t:Bool) (zs:List Int):Bool:=zs.any fun z=>(z != 0)==t
theorem any_drop (t:Bool) (zs:List Int) (k:Nat) (h:k<zs.length):anyB t (zs.drop k)=(((nth zs k != 0)==t) || anyB t (zs.drop (k+1))):=by
 rw [List.drop_eq_getElem_cons h]
 have e:nth zs k=zs[k]:=by simp [nth,List.getD,h]
 rw [e];rfl
theorem measZ {k n:Nat} (h:k<n):n - (intOf (.int .i64 ((k:Int)+1))).toNat<n - (intOf (.int .i64 (k:Int))).toNat:=by simp [intOf];omega
set_option maxHeartbeats 4000000 in
theorem anyIs_any (t:Bool) (a:Option Addr) (n c:Nat) (zs:List Int) (w:World) (hv:View .u32 w a zs) (hw:Within 4294967296 zs) (hl:zs.length=n) (hn:4 * n≤140737488351232):Calls Tryz.prog 37 #[.slice a n c,.bool t] w fun e w'=>e=.returned (.bool (anyB t zs))∧w=w':=by
 have HV:=hide hv
 have HL:=hide hl
 have HN:=hide hn
 clear hv hl hn hw
 go_enter Tryz.func37,Tryz.ntmps37
 go_wp2_with fail
 go_loopw [9] (fun i wr=>∃ k:Nat,k≤n∧i=.int .i64 k∧wr=w∧anyB t zs=anyB t (zs.drop k)) (fun i _=>n - (intOf i).toNat)
 case atStart=>exact⟨0,Nat.zero_le _,rfl,rfl,rfl⟩
 case round =>
  obtain⟨k,hk,rfl,rfl,ha⟩:=hrel
  by_cases hlt:k<n
  ·have hkl:k<zs.length:=by rw [HL.out];exact hlt
   obtain⟨b,off,rfl,hb,hc⟩:=HV.out k hkl
   have hki:(k:Int)<(n:Int):=by omega
   have hkm:(k:Int)<140737488351232:=by have:=HN.out;omega
   have HA:=hide (ha.trans (any_drop t zs k hkl))
   have HLT:=hide hlt
   clear ha hk hlt hkl hb
   generalize nth zs k=z at *
   by_cases hz:z=0
   ·subst hz
    cases t
    ·have HR:Hid (anyB false zs=true):=by show _=true;rw [HA.out];simp
     go_wp2
     go_ret
     exact⟨by rw [HR.out];rfl,rfl⟩
    ·have HR:Hid (anyB true zs=anyB true (zs.drop (k+1))):=by show _=_;rw [HA.out];simp
     go_wp2
     exact⟨⟨k+1,HLT.out,by simp,by trivial,HR.out⟩,measZ HLT.out⟩
   ·have hz':(z != 0)=true:=by simpa using hz
    cases t
    ·have HR:Hid (anyB false zs=anyB false (zs.drop (k+1))):=by show _=_;rw [HA.out,hz'];simp
     go_wp2
     exact⟨⟨k+1,HLT.out,by simp,by trivial,HR.out⟩,measZ HLT.out⟩
    ·have HR:Hid (anyB true zs=true):=by show _=true;rw [HA.out,hz'];simp
     go_wp2
     go_ret
     exact⟨by rw [HR.out];rfl,rfl⟩
  ·have e:k=n:=by omega
   have HR:Hid (anyB t zs=false):=by show _=false;rw [ha,List.drop_eq_nil_of_le (by rw [HL.out];omega)];rfl
   subst e
   clear ha hk
   go_wp2
   go_ret
   exact⟨by rw [HR.out];rfl,rfl⟩
def rowV (op:Int) (zs:List Int):Int:=if op=154 then b2i (anyB true zs) else b2i (!anyB false zs)
theorem ofRow1_any (a:Option Addr) (n c:Nat) (zs:List Int) (w:World) (hv:View .u32 w a zs) (hw:Within 4294967296 zs) (hl:zs.length=n) (hn:4 * n≤140737488351232):Calls Tryz.prog 35 #[.slice a n c] w fun e w'=>e=.returned (.int .u32 (rowV 154 zs))∧w=w':=by
 have hA:=anyIs_any true a n c zs w hv hw hl hn
 have hV:b2i (anyB true zs)=rowV 154 zs:=rfl
 have hT:=word13_any (anyB true zs) w
 rw [hV] at hT
 generalize rowV 154 zs=V at *
 generalize anyB true zs=X at *
 clear hV hv hw hl hn
 go_enter Tryz.func35,Tryz.ntmps35
 go_wp2_with fail
 refine hA.mono ?_
 rintro e w' ⟨rfl,rfl⟩
 go_wp2_with fail
 refine hT.mono ?_
 rintro e w' ⟨rfl,rfl⟩
 go_wp2
 go_ret
 exact⟨rfl,rfl⟩
theorem ofRow2_any (a:Option Addr) (n c:Nat) (zs:List Int) (w:World) (hv:View .u32 w a zs) (hw:Within 4294967296 zs) (hl:zs.length=n) (hn:4 * n≤140737488351232):Calls Tryz.prog 38 #[.slice a n c] w fun e w'=>e=.returned (.int .u32 (rowV 155 zs))∧w=w':=by
 have hA:=anyIs_any false a n c zs w hv hw hl hn
 have hV:b2i (!anyB false zs)=rowV 155 zs:=rfl
 have hT:=word13_any (!anyB false zs) w
 rw [hV] at hT
 generalize rowV 155 zs=V at *
 generalize anyB false zs=X at *
 clear hV hv hw hl hn
 go_enter Tryz.func38,Tryz.ntmps38
 go_wp2_with fail
 refine hA.mono ?_
 rintro e w' ⟨rfl,rfl⟩
 go_wp2_with fail
 refine hT.mono ?_
 rintro e w' ⟨rfl,rfl⟩
 go_wp2
 go_ret
 exact⟨rfl,rfl⟩
def nthL (ls:List (List Int)) (j:Nat):List Int:=ls.getD j []
def ListsV (w:World) (a:Option Addr) (ls:List (List Int)):Prop :=
 ∀ j,j<ls.length→∃ b off aj nj cj,a=some ⟨b,off,none⟩∧b<w.heap.size∧w.cell? ⟨b,off+j,none⟩=some (.slice aj nj cj)∧(nthL ls j).length=nj∧View .u32 w aj (nthL ls j)
def ListsOk (ls:List (List Int)):Prop:=∀ j,j<ls.length→Within 4294967296 (nthL ls j)∧4 * (nthL ls j).length≤140737488351232
theorem ListsV.below {w w':World} {a:Option Addr} {ls:List (List Int)} (h:ListsV w a ls) (hb:Below w.heap.size w w'):ListsV w' a ls:=by
 intro j hj
 obtain⟨b,off,aj,nj,cj,e,hlt,h1,h2,h3⟩:=h j hj
 exact⟨b,off,aj,nj,cj,e,Nat.lt_of_lt_of_le hlt hb.size,(hb.cell (p:=⟨b,off+j,none⟩) hlt).trans h1,h2,h3.below hb⟩
def levTo (ls:List (List Int)):Nat→Bool
 | 0=>true
 | k+1=>levTo ls k && decide ((nthL ls k).length=(nthL ls 0).length)
def levB (ls:List (List Int)):Bool:=levTo ls ls.length
theorem levTo_down (ls:List (List Int)):∀ d k,levTo ls (k+d)=true→levTo ls k=true
 | 0,k,h=>h
 | d+1,k,h=>by
  rw [show k+(d+1)=(k+d)+1 by omega,levTo,Bool.and_eq_true] at h
  exact levTo_down ls d k h.1
set_option maxHeartbeats 4000000 in
theorem level_any (a:Option Addr) (n c:Nat) (ls:List (List Int)) (w:World) (hv:ListsV w a ls) (hl:ls.length=n) (hn:24 * n≤140737488351232):Calls Tryz.prog 16 #[.slice a n c] w fun e w'=>e=.returned (.bool (levB ls))∧w=w':=by
 have HV:=hide hv
 have HL:=hide hl
 have HN:=hide hn
 clear hv hl hn
 go_enter Tryz.func16,Tryz.ntmps16
 go_wp2_with fail
 go_loopw [7] (fun i wr=>∃ k:Nat,k≤n∧i=.int .i64 k∧wr=w∧levTo ls k=true) (fun i _=>n - (intOf i).toNat)
 case atStart=>exact⟨0,Nat.zero_le _,rfl,rfl,rfl⟩
 case round =>
  obtain⟨k,hk,rfl,rfl,ha⟩:=hrel
  by_cases hlt:k<n
  ·have hkl:k<ls.length:=by rw [HL.out];exact hlt
   obtain⟨b,off,aj,nj,cj,rfl,hb,hc,hcl,hvj⟩:=HV.out k hkl
   obtain⟨b',off',a0,n0,c0,e0,_,hc0,hcl0,_⟩:=HV.out 0 (by omega)
   simp only [Option.some.injEq,Addr.mk.injEq,and_true] at e0
   obtain⟨rfl,rfl⟩:=e0
   rw [Nat.add_zero] at hc0
   have hki:(k:Int)<(n:Int):=by omega
   have h0i:(0:Int)<(n:Int):=by omega
   have hkm:(k:Int)<140737488351232:=by have:=HN.out;omega
   have HLT:=hide hlt
   have HE:Hid (levTo ls (k+1)=decide (nj=n0)):=by show (levTo ls k && decide ((nthL ls k).length=(nthL ls 0).length))=_;rw [ha,hcl,hcl0];rfl
   have HD:Hid (levTo ls (k+1)=false→levB ls=false):=fun h=>by
    cases hq:levB ls
    ·rfl
    ·have:=levTo_down ls (ls.length - (k+1)) (k+1) (by rw [show k+1+(ls.length - (k+1))=ls.length by omega];exact hq)
     rw [h] at this;cases this
   clear ha hk hlt hkl hb hvj hcl hcl0
   by_cases hj:nj=n0
   ·subst hj
    have HR:Hid (levTo ls (k+1)=true):=by show _=true;rw [HE.out];simp
    go_wp2
    exact⟨⟨k+1,HLT.out,by simp,by trivial,HR.out⟩,measZ HLT.out⟩
   ·have HR:Hid (levB ls=false):=HD.out (by rw [HE.out];simp [hj])
    have hjb:((nj:Int) != (n0:Int))=true:=by simp;omega
    clear hj HE HD
    go_wp2_with fail
    go_ret
    exact⟨by rw [HR.out];rfl,rfl⟩
  ·have e:k=n:=by omega
   have HR:Hid (levB ls=true):=by show levTo ls ls.length=true;rw [HL.out,← e];exact ha
   subst e
   clear ha hk
   go_wp2
   go_ret
   exact⟨by rw [HR.out];rfl,rfl⟩
end Go.Proofs.YtonhnflilfjkbaaGreat
