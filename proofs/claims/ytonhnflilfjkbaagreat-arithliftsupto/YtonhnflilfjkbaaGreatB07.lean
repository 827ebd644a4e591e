/-
  Texts in one: Ref13Eqs, Ref13BinA, Ref13BinB, Ref13BinC, Ref13BinD, Ref13Binary, Ref13Pair, Ref13Arity.
-/
import Derived.Test.YtonhnflilfjkbaaGreatB06
namespace Go.Proofs.YtonhnflilfjkbaaGreat
open Go.RowKit
set_option linter.unusedVariables false
set_option linter.unusedSimpArgs false
theorem mv194 (a:Int) (n:Nat) (a0:0≤a) (a1:a<4294967296) (hn:n<32):hB (mvB 194 (bt a) n) 32 0=a / 2 ^ n:=by
 refine hB_eq _ _ (mvB_01 194 _ (is01_bt a) n) (Int.ediv_nonneg a0 (Int.le_of_lt (two_pos n))) (Int.lt_of_le_of_lt (Int.ediv_le_self _ a0) a1) fun k hk=>?_
 rw [bt_div]
 by_cases h:k+n<32
 ·rw [Nat.add_comm n k];simp [mvB,h]
 ·simp only [mvB,h]
  rw [bt_above a 32 (n+k) a0 a1 (by omega)]
  simp
theorem mv195 (a:Int) (n:Nat) (a0:0≤a) (a1:a<4294967296) (hn:n<32):hB (mvB 195 (bt a) n) 32 0=wrap32 a / 2 ^ n % 4294967296:=by
 refine hB_eq _ _ (mvB_01 195 _ (is01_bt a) n) (by omega) (by omega) fun k hk=>?_
 rw [bt_mod32 _ _ hk,bt_div]
 by_cases h:k+n<32
 ·rw [bt_wrap32 a (n+k) (by omega)]
  rw [Nat.add_comm n k];simp [mvB,h]
 ·rw [bt_wrapHi a (n+k) (by omega)]
  simp [mvB,h]
theorem mv196 (a:Int) (n:Nat) (a0:0≤a) (a1:a<4294967296) (hn:n<32):hB (mvB 196 (bt a) n) 32 0=a * 2 ^ n % 4294967296:=by
 refine hB_eq _ _ (mvB_01 196 _ (is01_bt a) n) (by omega) (by omega) fun k hk=>?_
 rw [bt_mod32 _ _ hk,bt_mul]
 by_cases h:k<n
 ·simp [mvB,h,show ¬ n≤k by omega]
 ·simp [mvB,h,show n≤k by omega]
theorem bw197 (a b:Int) (a0:0≤a) (a1:a<4294967296) (b0:0≤b) (b1:b<4294967296):hB (bwB 197 (bt a) (bt b)) 32 0=bits .or .u32 a b:=by
 refine hB_eq _ _ (bwB_01 197 _ _) (or_in a b a0 a1 b0 b1).1 (or_in a b a0 a1 b0 b1).2 fun k hk=>?_
 rw [bt_orW a b k a0 a1 b0 b1]
 rcases bt_or a k with h | h <;> rcases bt_or b k with h' | h' <;> simp [bwB,bwP,b2i,h,h']
theorem bw198 (a b:Int) (a0:0≤a) (a1:a<4294967296) (b0:0≤b) (b1:b<4294967296):hB (bwB 198 (bt a) (bt b)) 32 0=bits .xor .u32 a b:=by
 refine hB_eq _ _ (bwB_01 198 _ _) (xor_in a b a0 a1 b0 b1).1 (xor_in a b a0 a1 b0 b1).2 fun k hk=>?_
 rw [bt_xorW a b k a0 a1 b0 b1]
 rcases bt_or a k with h | h <;> rcases bt_or b k with h' | h' <;> simp [bwB,bwP,b2i,h,h']
theorem bw199 (a b:Int) (a0:0≤a) (a1:a<4294967296) (b0:0≤b) (b1:b<4294967296):hB (bwB 199 (bt a) (bt b)) 32 0=bits .and .u32 a b:=by
 refine hB_eq _ _ (bwB_01 199 _ _) (and_in a b a0 a1 b0 b1).1 (and_in a b a0 a1 b0 b1).2 fun k hk=>?_
 rw [bt_andW a b k a0 a1 b0 b1]
 rcases bt_or a k with h | h <;> rcases bt_or b k with h' | h' <;> simp [bwB,bwP,b2i,h,h']
theorem shift_at (b:Int) (b0:0≤b):b % 32=(((b % 32).toNat:Nat):Int)∧(b % 32).toNat<32:=by omega
theorem mul_split (a b:Int):((a / 65536 * b) % 4294967296 * 65536 % 4294967296+a % 65536 * b % 4294967296) % 4294967296=a * b % 4294967296:=by
 have e:a * b=(a / 65536 * b) * 65536+a % 65536 * b:=by
  have h:a=a / 65536 * 65536+a % 65536:=by omega
  rw [show a * b=(a / 65536 * 65536+a % 65536) * b by rw [← h],Int.add_mul]
  congr 1
  ac_rfl
 rw [e]
 generalize a / 65536 * b=x
 generalize a % 65536 * b=y
 omega
theorem refDivided_any (op a b:Int) (w:World) (a0:0≤a) (a1:a<4294967296) (b0:0≤b) (b1:b<4294967296) (hop:op=134∨op=135∨op=137∨op=138∨op=139):Calls Tryz.prog 22 #[.int .u16 op,.int .u32 a,.int .u32 b] w fun e w'=>e=.returned (.int .u32 (binV op a b))∧w=w':=by
 by_cases hb:b=0
 ·subst hb
  have hv:binV op a 0=0:=by rcases hop with rfl | rfl | rfl | rfl | rfl <;> simp [binV]
  rw [hv]
  go_enter Tryz.func22,Tryz.ntmps22
  go_wp2
  go_ret
  exact⟨rfl,rfl⟩
 ·have wz:=wrap_zero b b0 b1 hb
  have wa:=wrap_in a
  have wb:=wrap_in b
  have dl:=div_le a b a0 b0
  have td:=tdiv_in (wrap32 a) (wrap32 b) wa wz
  have tr:=tmod_in (wrap32 a) (wrap32 b) wz
  have ts:=tmod_sub (wrap32 a) (wrap32 b)
  have me:=Int.emod_def a b
  have ml:=mod_lt a b b0 hb
  have mp:=Int.mul_nonneg b0 dl.1
  have key:=refDivided_at op a b _ _ _ _ _ _ w a0 a1 b0 b1 hb hop rfl rfl wa wb wz rfl td ts (by omega) (by omega) rfl rfl (by omega) dl
  refine key.mono ?_
  rintro e w' ⟨rfl,rfl⟩
  refine⟨ret_int ?_,rfl⟩
  rcases hop with rfl | rfl | rfl | rfl | rfl
  ·simp [binV,hb];omega
  ·simp [binV,hb]
  ·simp [binV,hb];omega
  ·simp [binV,hb]
  ·simp only [binV,hb,flo]
   simp
   split <;> rfl
set_option maxRecDepth 10000
set_option maxHeartbeats 4000000 in
theorem refBin128 (a b:Int) (w:World) (a0:0≤a) (a1:a<4294967296) (b0:0≤b) (b1:b<4294967296):Calls Tryz.prog 12 #[.int .u16 128,.int .u32 a,.int .u32 b] w fun e w'=>e=.returned (.tuple #[.int .u32 (binV 128 a b),.bool true])∧Below w.heap.size w w':=by
 have h1:=fun w=>refSigned_any a w a0 a1
 have h2:=fun w=>refSigned_any b w b0 b1
 have hI:=wrap_in a
 have hJ:=wrap_in b
 have HV:Hid ((a+b) % 4294967296=binV 128 a b):=rfl
 go_enter Tryz.func12,Tryz.ntmps12
 go_wp2_with fail
 refine (h1 _).mono ?_
 rintro e w' ⟨rfl,rfl⟩
 go_wp2_with fail
 refine (h2 _).mono ?_
 rintro e w' ⟨rfl,rfl⟩
 generalize wrap32 a=S at *
 generalize wrap32 b=T at *
 go_wp2_with fail
 refine (refWord_any _ _ (by omega) (by omega)).mono ?_
 rintro e w' ⟨rfl,rfl⟩
 go_wp2
 rw [HV.out]
 go_ret2
 exact⟨rfl,Below.refl _ _⟩
set_option maxHeartbeats 4000000 in
theorem refBin130 (a b:Int) (w:World) (a0:0≤a) (a1:a<4294967296) (b0:0≤b) (b1:b<4294967296):Calls Tryz.prog 12 #[.int .u16 130,.int .u32 a,.int .u32 b] w fun e w'=>e=.returned (.tuple #[.int .u32 (binV 130 a b),.bool true])∧Below w.heap.size w w':=by
 have h1:=fun w=>refSigned_any a w a0 a1
 have h2:=fun w=>refSigned_any b w b0 b1
 have hI:=wrap_in a
 have hJ:=wrap_in b
 have HV:Hid ((a - b) % 4294967296=binV 130 a b):=rfl
 go_enter Tryz.func12,Tryz.ntmps12
 go_wp2_with fail
 refine (h1 _).mono ?_
 rintro e w' ⟨rfl,rfl⟩
 go_wp2_with fail
 refine (h2 _).mono ?_
 rintro e w' ⟨rfl,rfl⟩
 generalize wrap32 a=S at *
 generalize wrap32 b=T at *
 go_wp2_with fail
 refine (refWord_any _ _ (by omega) (by omega)).mono ?_
 rintro e w' ⟨rfl,rfl⟩
 go_wp2
 rw [HV.out]
 go_ret2
 exact⟨rfl,Below.refl _ _⟩
set_option maxHeartbeats 4000000 in
theorem refBin132 (a b:Int) (w:World) (a0:0≤a) (a1:a<4294967296) (b0:0≤b) (b1:b<4294967296):Calls Tryz.prog 12 #[.int .u16 132,.int .u32 a,.int .u32 b] w fun e w'=>e=.returned (.tuple #[.int .u32 (binV 132 a b),.bool true])∧Below w.heap.size w w':=by
 have h1:=fun w=>refSigned_any a w a0 a1
 have h2:=fun w=>refSigned_any b w b0 b1
 have hI:=wrap_in a
 have hJ:=wrap_in b
 have hq:=div_le a 65536 a0 (by omega)
 have ha:a / 65536<65536:=by omega
 have hm:=mul_in (a / 65536) b (by omega) (by omega) b0 b1
 have hm2:a / 65536 * b≤281474976710656:=by
  have:=Int.mul_le_mul_of_nonneg_right (show a / 65536≤65535 by omega) b0
  omega
 have hm3:a % 65536 * b≤281474976710656:=by
  have:=Int.mul_le_mul_of_nonneg_right (show a % 65536≤65535 by omega) b0
  omega
 have hm4:=mul_in (a % 65536) b (by omega) (by omega) b0 b1
 have HV:Hid ((a / 65536 * b % 4294967296 * 65536+a % 65536 * b) % 4294967296=binV 132 a b):=by
  have h:=mul_split a b
  show _=a * b % 4294967296
  rw [← h]
  generalize a / 65536 * b=x
  generalize a % 65536 * b=y
  omega
 go_enter Tryz.func12,Tryz.ntmps12
 go_wp2_with fail
 refine (h1 _).mono ?_
 rintro e w' ⟨rfl,rfl⟩
 go_wp2_with fail
 refine (h2 _).mono ?_
 rintro e w' ⟨rfl,rfl⟩
 generalize wrap32 a=S at *
 generalize wrap32 b=T at *
 go_wp2_with fail
 refine (refWord_any _ _ (by omega) (by omega)).mono ?_
 rintro e w' ⟨rfl,rfl⟩
 go_wp2
 rw [HV.out]
 go_ret2
 exact⟨rfl,Below.refl _ _⟩
set_option maxHeartbeats 4000000 in
theorem refBin134 (a b:Int) (w:World) (a0:0≤a) (a1:a<4294967296) (b0:0≤b) (b1:b<4294967296):Calls Tryz.prog 12 #[.int .u16 134,.int .u32 a,.int .u32 b] w fun e w'=>e=.returned (.tuple #[.int .u32 (binV 134 a b),.bool true])∧Below w.heap.size w w':=by
 have h1:=fun w=>refSigned_any a w a0 a1
 have h2:=fun w=>refSigned_any b w b0 b1
 have hI:=wrap_in a
 have hJ:=wrap_in b
 have hD:=fun w=>refDivided_any 134 a b w a0 a1 b0 b1 (by omega)
 generalize binV 134 a b=V at *
 go_enter Tryz.func12,Tryz.ntmps12
 go_wp2_with fail
 refine (h1 _).mono ?_
 rintro e w' ⟨rfl,rfl⟩
 go_wp2_with fail
 refine (h2 _).mono ?_
 rintro e w' ⟨rfl,rfl⟩
 generalize wrap32 a=S at *
 generalize wrap32 b=T at *
 go_wp2_with fail
 refine (hD _).mono ?_
 rintro e w' ⟨rfl,rfl⟩
 go_wp2
 go_ret2
 exact⟨rfl,Below.refl _ _⟩
set_option maxHeartbeats 4000000 in
theorem refBin137 (a b:Int) (w:World) (a0:0≤a) (a1:a<4294967296) (b0:0≤b) (b1:b<4294967296):Calls Tryz.prog 12 #[.int .u16 137,.int .u32 a,.int .u32 b] w fun e w'=>e=.returned (.tuple #[.int .u32 (binV 137 a b),.bool true])∧Below w.heap.size w w':=by
 have h1:=fun w=>refSigned_any a w a0 a1
 have h2:=fun w=>refSigned_any b w b0 b1
 have hI:=wrap_in a
 have hJ:=wrap_in b
 have hD:=fun w=>refDivided_any 137 a b w a0 a1 b0 b1 (by omega)
 generalize binV 137 a b=V at *
 go_enter Tryz.func12,Tryz.ntmps12
 go_wp2_with fail
 refine (h1 _).mono ?_
 rintro e w' ⟨rfl,rfl⟩
 go_wp2_with fail
 refine (h2 _).mono ?_
 rintro e w' ⟨rfl,rfl⟩
 generalize wrap32 a=S at *
 generalize wrap32 b=T at *
 go_wp2_with fail
 refine (hD _).mono ?_
 rintro e w' ⟨rfl,rfl⟩
 go_wp2
 go_ret2
 exact⟨rfl,Below.refl _ _⟩
set_option maxHeartbeats 4000000 in
theorem refBin135 (a b:Int) (w:World) (a0:0≤a) (a1:a<4294967296) (b0:0≤b) (b1:b<4294967296):Calls Tryz.prog 12 #[.int .u16 135,.int .u32 a,.int .u32 b] w fun e w'=>e=.returned (.tuple #[.int .u32 (binV 135 a b),.bool true])∧Below w.heap.size w w':=by
 have h1:=fun w=>refSigned_any a w a0 a1
 have h2:=fun w=>refSigned_any b w b0 b1
 have hI:=wrap_in a
 have hJ:=wrap_in b
 have hD:=fun w=>refDivided_any 135 a b w a0 a1 b0 b1 (by omega)
 generalize binV 135 a b=V at *
 go_enter Tryz.func12,Tryz.ntmps12
 go_wp2_with fail
 refine (h1 _).mono ?_
 rintro e w' ⟨rfl,rfl⟩
 go_wp2_with fail
 refine (h2 _).mono ?_
 rintro e w' ⟨rfl,rfl⟩
 generalize wrap32 a=S at *
 generalize wrap32 b=T at *
 go_wp2_with fail
 refine (hD _).mono ?_
 rintro e w' ⟨rfl,rfl⟩
 go_wp2
 go_ret2
 exact⟨rfl,Below.refl _ _⟩
set_option maxHeartbeats 4000000 in
theorem refBin138 (a b:Int) (w:World) (a0:0≤a) (a1:a<4294967296) (b0:0≤b) (b1:b<4294967296):Calls Tryz.prog 12 #[.int .u16 138,.int .u32 a,.int .u32 b] w fun e w'=>e=.returned (.tuple #[.int .u32 (binV 138 a b),.bool true])∧Below w.heap.size w w':=by
 have h1:=fun w=>refSigned_any a w a0 a1
 have h2:=fun w=>refSigned_any b w b0 b1
 have hI:=wrap_in a
 have hJ:=wrap_in b
 have hD:=fun w=>refDivided_any 138 a b w a0 a1 b0 b1 (by omega)
 generalize binV 138 a b=V at *
 go_enter Tryz.func12,Tryz.ntmps12
 go_wp2_with fail
 refine (h1 _).mono ?_
 rintro e w' ⟨rfl,rfl⟩
 go_wp2_with fail
 refine (h2 _).mono ?_
 rintro e w' ⟨rfl,rfl⟩
 generalize wrap32 a=S at *
 generalize wrap32 b=T at *
 go_wp2_with fail
 refine (hD _).mono ?_
 rintro e w' ⟨rfl,rfl⟩
 go_wp2
 go_ret2
 exact⟨rfl,Below.refl _ _⟩
set_option maxHeartbeats 4000000 in
theorem refBin139 (a b:Int) (w:World) (a0:0≤a) (a1:a<4294967296) (b0:0≤b) (b1:b<4294967296):Calls Tryz.prog 12 #[.int .u16 139,.int .u32 a,.int .u32 b] w fun e w'=>e=.returned (.tuple #[.int .u32 (binV 139 a b),.bool true])∧Below w.heap.size w w':=by
 have h1:=fun w=>refSigned_any a w a0 a1
 have h2:=fun w=>refSigned_any b w b0 b1
 have hI:=wrap_in a
 have hJ:=wrap_in b
 have hD:=fun w=>refDivided_any 139 a b w a0 a1 b0 b1 (by omega)
 generalize binV 139 a b=V at *
 go_enter Tryz.func12,Tryz.ntmps12
 go_wp2_with fail
 refine (h1 _).mono ?_
 rintro e w' ⟨rfl,rfl⟩
 go_wp2_with fail
 refine (h2 _).mono ?_
 rintro e w' ⟨rfl,rfl⟩
 generalize wrap32 a=S at *
 generalize wrap32 b=T at *
 go_wp2_with fail
 refine (hD _).mono ?_
 rintro e w' ⟨rfl,rfl⟩
 go_wp2
 go_ret2
 exact⟨rfl,Below.refl _ _⟩
set_option maxHeartbeats 4000000 in
theorem refBin194 (a b:Int) (w:World) (a0:0≤a) (a1:a<4294967296) (b0:0≤b) (b1:b<4294967296):Calls Tryz.prog 12 #[.int .u16 194,.int .u32 a,.int .u32 b] w fun e w'=>e=.returned (.tuple #[.int .u32 (binV 194 a b),.bool true])∧Below w.heap.size w w':=by
 have h1:=fun w=>refSigned_any a w a0 a1
 have h2:=fun w=>refSigned_any b w b0 b1
 have hI:=wrap_in a
 have hJ:=wrap_in b
 have hs:=shift_at b b0
 have hD:=fun w=>refMoved194_any a b _ w a0 a1 b0 b1 hs.1
 have hV:binV 194 a b=_:=(mv194 a _ a0 a1 hs.2).symm
 rw [hV]
 generalize hB (mvB 194 (bt a) (b % 32).toNat) 32 0=V at *
 clear hV hs
 go_enter Tryz.func12,Tryz.ntmps12
 go_wp2_with fail
 refine (h1 _).mono ?_
 rintro e w' ⟨rfl,rfl⟩
 go_wp2_with fail
 refine (h2 _).mono ?_
 rintro e w' ⟨rfl,rfl⟩
 generalize wrap32 a=S at *
 generalize wrap32 b=T at *
 go_wp2_with fail
 refine (hD _).mono ?_
 rintro e w' ⟨rfl,hb⟩
 go_wp2
 go_ret2
 exact⟨rfl,hb⟩
set_option maxHeartbeats 4000000 in
theorem refBin195 (a b:Int) (w:World) (a0:0≤a) (a1:a<4294967296) (b0:0≤b) (b1:b<4294967296):Calls Tryz.prog 12 #[.int .u16 195,.int .u32 a,.int .u32 b] w fun e w'=>e=.returned (.tuple #[.int .u32 (binV 195 a b),.bool true])∧Below w.heap.size w w':=by
 have h1:=fun w=>refSigned_any a w a0 a1
 have h2:=fun w=>refSigned_any b w b0 b1
 have hI:=wrap_in a
 have hJ:=wrap_in b
 have hs:=shift_at b b0
 have hD:=fun w=>refMoved195_any a b _ w a0 a1 b0 b1 hs.1
 have hV:binV 195 a b=_:=(mv195 a _ a0 a1 hs.2).symm
 rw [hV]
 generalize hB (mvB 195 (bt a) (b % 32).toNat) 32 0=V at *
 clear hV hs
 go_enter Tryz.func12,Tryz.ntmps12
 go_wp2_with fail
 refine (h1 _).mono ?_
 rintro e w' ⟨rfl,rfl⟩
 go_wp2_with fail
 refine (h2 _).mono ?_
 rintro e w' ⟨rfl,rfl⟩
 generalize wrap32 a=S at *
 generalize wrap32 b=T at *
 go_wp2_with fail
 refine (hD _).mono ?_
 rintro e w' ⟨rfl,hb⟩
 go_wp2
 go_ret2
 exact⟨rfl,hb⟩
set_option maxHeartbeats 4000000 in
theorem refBin196 (a b:Int) (w:World) (a0:0≤a) (a1:a<4294967296) (b0:0≤b) (b1:b<4294967296):Calls Tryz.prog 12 #[.int .u16 196,.int .u32 a,.int .u32 b] w fun e w'=>e=.returned (.tuple #[.int .u32 (binV 196 a b),.bool true])∧Below w.heap.size w w':=by
 have h1:=fun w=>refSigned_any a w a0 a1
 have h2:=fun w=>refSigned_any b w b0 b1
 have hI:=wrap_in a
 have hJ:=wrap_in b
 have hs:=shift_at b b0
 have hD:=fun w=>refMoved196_any a b _ w a0 a1 b0 b1 hs.1
 have hV:binV 196 a b=_:=(mv196 a _ a0 a1 hs.2).symm
 rw [hV]
 generalize hB (mvB 196 (bt a) (b % 32).toNat) 32 0=V at *
 clear hV hs
 go_enter Tryz.func12,Tryz.ntmps12
 go_wp2_with fail
 refine (h1 _).mono ?_
 rintro e w' ⟨rfl,rfl⟩
 go_wp2_with fail
 refine (h2 _).mono ?_
 rintro e w' ⟨rfl,rfl⟩
 generalize wrap32 a=S at *
 generalize wrap32 b=T at *
 go_wp2_with fail
 refine (hD _).mono ?_
 rintro e w' ⟨rfl,hb⟩
 go_wp2
 go_ret2
 exact⟨rfl,hb⟩
set_option maxHeartbeats 4000000 in
theorem refBin197 (a b:Int) (w:World) (a0:0≤a) (a1:a<4294967296) (b0:0≤b) (b1:b<4294967296):Calls Tryz.prog 12 #[.int .u16 197,.int .u32 a,.int .u32 b] w fun e w'=>e=.returned (.tuple #[.int .u32 (binV 197 a b),.bool true])∧Below w.heap.size w w':=by
 have h1:=fun w=>refSigned_any a w a0 a1
 have h2:=fun w=>refSigned_any b w b0 b1
 have hI:=wrap_in a
 have hJ:=wrap_in b
 have hD:=fun w=>refBitwise197_any a b w a0 a1 b0 b1
 have hV:binV 197 a b=_:=(bw197 a b a0 a1 b0 b1).symm
 rw [hV]
 generalize hB (bwB 197 (bt a) (bt b)) 32 0=V at *
 clear hV
 go_enter Tryz.func12,Tryz.ntmps12
 go_wp2_with fail
 refine (h1 _).mono ?_
 rintro e w' ⟨rfl,rfl⟩
 go_wp2_with fail
 refine (h2 _).mono ?_
 rintro e w' ⟨rfl,rfl⟩
 generalize wrap32 a=S at *
 generalize wrap32 b=T at *
 go_wp2_with fail
 refine (hD _).mono ?_
 rintro e w' ⟨rfl,hb⟩
 go_wp2
 go_ret2
 exact⟨rfl,hb⟩
set_option maxHeartbeats 4000000 in
theorem refBin198 (a b:Int) (w:World) (a0:0≤a) (a1:a<4294967296) (b0:0≤b) (b1:b<4294967296):Calls Tryz.prog 12 #[.int .u16 198,.int .u32 a,.int .u32 b] w fun e w'=>e=.returned (.tuple #[.int .u32 (binV 198 a b),.bool true])∧Below w.heap.size w w':=by
 have h1:=fun w=>refSigned_any a w a0 a1
 have h2:=fun w=>refSigned_any b w b0 b1
 have hI:=wrap_in a
 have hJ:=wrap_in b
 have hD:=fun w=>refBitwise198_any a b w a0 a1 b0 b1
 have hV:binV 198 a b=_:=(bw198 a b a0 a1 b0 b1).symm
 rw [hV]
 generalize hB (bwB 198 (bt a) (bt b)) 32 0=V at *
 clear hV
 go_enter Tryz.func12,Tryz.ntmps12
 go_wp2_with fail
 refine (h1 _).mono ?_
 rintro e w' ⟨rfl,rfl⟩
 go_wp2_with fail
 refine (h2 _).mono ?_
 rintro e w' ⟨rfl,rfl⟩
 generalize wrap32 a=S at *
 generalize wrap32 b=T at *
 go_wp2_with fail
 refine (hD _).mono ?_
 rintro e w' ⟨rfl,hb⟩
 go_wp2
 go_ret2
 exact⟨rfl,hb⟩
set_option maxHeartbeats 4000000 in
theorem refBin199 (a b:Int) (w:World) (a0:0≤a) (a1:a<4294967296) (b0:0≤b) (b1:b<4294967296):Calls Tryz.prog 12 #[.int .u16 199,.int .u32 a,.int .u32 b] w fun e w'=>e=.returned (.tuple #[.int .u32 (binV 199 a b),.bool true])∧Below w.heap.size w w':=by
 have h1:=fun w=>refSigned_any a w a0 a1
 have h2:=fun w=>refSigned_any b w b0 b1
 have hI:=wrap_in a
 have hJ:=wrap_in b
 have hD:=fun w=>refBitwise199_any a b w a0 a1 b0 b1
 have hV:binV 199 a b=_:=(bw199 a b a0 a1 b0 b1).symm
 rw [hV]
 generalize hB (bwB 199 (bt a) (bt b)) 32 0=V at *
 clear hV
 go_enter Tryz.func12,Tryz.ntmps12
 go_wp2_with fail
 refine (h1 _).mono ?_
 rintro e w' ⟨rfl,rfl⟩
 go_wp2_with fail
 refine (h2 _).mono ?_
 rintro e w' ⟨rfl,rfl⟩
 generalize wrap32 a=S at *
 generalize wrap32 b=T at *
 go_wp2_with fail
 refine (hD _).mono ?_
 rintro e w' ⟨rfl,hb⟩
 go_wp2
 go_ret2
 exact⟨rfl,hb⟩
set_option maxHeartbeats 4000000 in
theorem refBin164 (a b:Int) (w:World) (a0:0≤a) (a1:a<4294967296) (b0:0≤b) (b1:b<4294967296):Calls Tryz.prog 12 #[.int .u16 164,.int .u32 a,.int .u32 b] w fun e w'=>e=.returned (.tuple #[.int .u32 (binV 164 a b),.bool true])∧Below w.heap.size w w':=by
 have h1:=fun w=>refSigned_any a w a0 a1
 have h2:=fun w=>refSigned_any b w b0 b1
 have hI:=wrap_in a
 have hJ:=wrap_in b
 rcases Decidable.em (a=0) with rfl | ha
 ·rcases Decidable.em (b=0) with rfl | hb
  ·go_enter Tryz.func12,Tryz.ntmps12
   go_wp2_with fail
   refine (h1 _).mono ?_
   rintro e w' ⟨rfl,rfl⟩
   go_wp2_with fail
   refine (h2 _).mono ?_
   rintro e w' ⟨rfl,rfl⟩
   go_wp2_with fail
   refine (refTruth_any _ _).mono ?_
   rintro e w' ⟨rfl,rfl⟩
   go_wp2
   go_ret2
   exact⟨by simp [binV,bne_dec,beq_dec],Below.refl _ _⟩
  ·go_enter Tryz.func12,Tryz.ntmps12
   go_wp2_with fail
   refine (h1 _).mono ?_
   rintro e w' ⟨rfl,rfl⟩
   go_wp2_with fail
   refine (h2 _).mono ?_
   rintro e w' ⟨rfl,rfl⟩
   go_wp2_with fail
   refine (refTruth_any _ _).mono ?_
   rintro e w' ⟨rfl,rfl⟩
   go_wp2
   go_ret2
   exact⟨by simp [binV,bne_dec,beq_dec,hb],Below.refl _ _⟩
 ·rcases Decidable.em (b=0) with rfl | hb
  ·go_enter Tryz.func12,Tryz.ntmps12
   go_wp2_with fail
   refine (h1 _).mono ?_
   rintro e w' ⟨rfl,rfl⟩
   go_wp2_with fail
   refine (h2 _).mono ?_
   rintro e w' ⟨rfl,rfl⟩
   go_wp2_with fail
   refine (refTruth_any _ _).mono ?_
   rintro e w' ⟨rfl,rfl⟩
   go_wp2
   go_ret2
   exact⟨by simp [binV,bne_dec,beq_dec,ha],Below.refl _ _⟩
  ·go_enter Tryz.func12,Tryz.ntmps12
   go_wp2_with fail
   refine (h1 _).mono ?_
   rintro e w' ⟨rfl,rfl⟩
   go_wp2_with fail
   refine (h2 _).mono ?_
   rintro e w' ⟨rfl,rfl⟩
   go_wp2_with fail
   refine (refTruth_any _ _).mono ?_
   rintro e w' ⟨rfl,rfl⟩
   go_wp2
   go_ret2
   exact⟨by simp [binV,bne_dec,beq_dec,ha,hb],Below.refl _ _⟩
set_option maxHeartbeats 4000000 in
theorem refBin165 (a b:Int) (w:World) (a0:0≤a) (a1:a<4294967296) (b0:0≤b) (b1:b<4294967296):Calls Tryz.prog 12 #[.int .u16 165,.int .u32 a,.int .u32 b] w fun e w'=>e=.returned (.tuple #[.int .u32 (binV 165 a b),.bool true])∧Below w.heap.size w w':=by
 have h1:=fun w=>refSigned_any a w a0 a1
 have h2:=fun w=>refSigned_any b w b0 b1
 have hI:=wrap_in a
 have hJ:=wrap_in b
 rcases Decidable.em (a=0) with rfl | ha
 ·rcases Decidable.em (b=0) with rfl | hb
  ·go_enter Tryz.func12,Tryz.ntmps12
   go_wp2_with fail
   refine (h1 _).mono ?_
   rintro e w' ⟨rfl,rfl⟩
   go_wp2_with fail
   refine (h2 _).mono ?_
   rintro e w' ⟨rfl,rfl⟩
   go_wp2_with fail
   refine (refTruth_any _ _).mono ?_
   rintro e w' ⟨rfl,rfl⟩
   go_wp2
   go_ret2
   exact⟨by simp [binV,bne_dec,beq_dec],Below.refl _ _⟩
  ·go_enter Tryz.func12,Tryz.ntmps12
   go_wp2_with fail
   refine (h1 _).mono ?_
   rintro e w' ⟨rfl,rfl⟩
   go_wp2_with fail
   refine (h2 _).mono ?_
   rintro e w' ⟨rfl,rfl⟩
   go_wp2_with fail
   refine (refTruth_any _ _).mono ?_
   rintro e w' ⟨rfl,rfl⟩
   go_wp2
   go_ret2
   exact⟨by simp [binV,bne_dec,beq_dec,hb],Below.refl _ _⟩
 ·rcases Decidable.em (b=0) with rfl | hb
  ·go_enter Tryz.func12,Tryz.ntmps12
   go_wp2_with fail
   refine (h1 _).mono ?_
   rintro e w' ⟨rfl,rfl⟩
   go_wp2_with fail
   refine (h2 _).mono ?_
   rintro e w' ⟨rfl,rfl⟩
   go_wp2_with fail
   refine (refTruth_any _ _).mono ?_
   rintro e w' ⟨rfl,rfl⟩
   go_wp2
   go_ret2
   exact⟨by simp [binV,bne_dec,beq_dec,ha],Below.refl _ _⟩
  ·go_enter Tryz.func12,Tryz.ntmps12
   go_wp2_with fail
   refine (h1 _).mono ?_
   rintro e w' ⟨rfl,rfl⟩
   go_wp2_with fail
   refine (h2 _).mono ?_
   rintro e w' ⟨rfl,rfl⟩
   go_wp2_with fail
   refine (refTruth_any _ _).mono ?_
   rintro e w' ⟨rfl,rfl⟩
   go_wp2
   go_ret2
   exact⟨by simp [binV,bne_dec,beq_dec,ha,hb],Below.refl _ _⟩
set_option maxHeartbeats 4000000 in
theorem refBin166 (a b:Int) (w:World) (a0:0≤a) (a1:a<4294967296) (b0:0≤b) (b1:b<4294967296):Calls Tryz.prog 12 #[.int .u16 166,.int .u32 a,.int .u32 b] w fun e w'=>e=.returned (.tuple #[.int .u32 (binV 166 a b),.bool true])∧Below w.heap.size w w':=by
 have h1:=fun w=>refSigned_any a w a0 a1
 have h2:=fun w=>refSigned_any b w b0 b1
 have hI:=wrap_in a
 have hJ:=wrap_in b
 rcases Decidable.em (a=0) with rfl | ha
 ·rcases Decidable.em (b=0) with rfl | hb
  ·go_enter Tryz.func12,Tryz.ntmps12
   go_wp2_with fail
   refine (h1 _).mono ?_
   rintro e w' ⟨rfl,rfl⟩
   go_wp2_with fail
   refine (h2 _).mono ?_
   rintro e w' ⟨rfl,rfl⟩
   go_wp2_with fail
   refine (refTruth_any _ _).mono ?_
   rintro e w' ⟨rfl,rfl⟩
   go_wp2
   go_ret2
   exact⟨by simp [binV,bne_dec,beq_dec],Below.refl _ _⟩
  ·go_enter Tryz.func12,Tryz.ntmps12
   go_wp2_with fail
   refine (h1 _).mono ?_
   rintro e w' ⟨rfl,rfl⟩
   go_wp2_with fail
   refine (h2 _).mono ?_
   rintro e w' ⟨rfl,rfl⟩
   go_wp2_with fail
   refine (refTruth_any _ _).mono ?_
   rintro e w' ⟨rfl,rfl⟩
   go_wp2
   go_ret2
   exact⟨by simp [binV,bne_dec,beq_dec,hb],Below.refl _ _⟩
 ·rcases Decidable.em (b=0) with rfl | hb
  ·go_enter Tryz.func12,Tryz.ntmps12
   go_wp2_with fail
   refine (h1 _).mono ?_
   rintro e w' ⟨rfl,rfl⟩
   go_wp2_with fail
   refine (h2 _).mono ?_
   rintro e w' ⟨rfl,rfl⟩
   go_wp2_with fail
   refine (refTruth_any _ _).mono ?_
   rintro e w' ⟨rfl,rfl⟩
   go_wp2
   go_ret2
   exact⟨by simp [binV,bne_dec,beq_dec,ha],Below.refl _ _⟩
  ·go_enter Tryz.func12,Tryz.ntmps12
   go_wp2_with fail
   refine (h1 _).mono ?_
   rintro e w' ⟨rfl,rfl⟩
   go_wp2_with fail
   refine (h2 _).mono ?_
   rintro e w' ⟨rfl,rfl⟩
   go_wp2_with fail
   refine (refTruth_any _ _).mono ?_
   rintro e w' ⟨rfl,rfl⟩
   go_wp2
   go_ret2
   exact⟨by simp [binV,bne_dec,beq_dec,ha,hb],Below.refl _ _⟩
set_option maxHeartbeats 4000000 in
theorem refBin167 (a b:Int) (w:World) (a0:0≤a) (a1:a<4294967296) (b0:0≤b) (b1:b<4294967296):Calls Tryz.prog 12 #[.int .u16 167,.int .u32 a,.int .u32 b] w fun e w'=>e=.returned (.tuple #[.int .u32 (binV 167 a b),.bool true])∧Below w.heap.size w w':=by
 have h1:=fun w=>refSigned_any a w a0 a1
 have h2:=fun w=>refSigned_any b w b0 b1
 have hI:=wrap_in a
 have hJ:=wrap_in b
 rcases Decidable.em (a=0) with rfl | ha
 ·rcases Decidable.em (b=0) with rfl | hb
  ·go_enter Tryz.func12,Tryz.ntmps12
   go_wp2_with fail
   refine (h1 _).mono ?_
   rintro e w' ⟨rfl,rfl⟩
   go_wp2_with fail
   refine (h2 _).mono ?_
   rintro e w' ⟨rfl,rfl⟩
   go_wp2_with fail
   refine (refTruth_any _ _).mono ?_
   rintro e w' ⟨rfl,rfl⟩
   go_wp2
   go_ret2
   exact⟨by simp [binV,bne_dec,beq_dec],Below.refl _ _⟩
  ·go_enter Tryz.func12,Tryz.ntmps12
   go_wp2_with fail
   refine (h1 _).mono ?_
   rintro e w' ⟨rfl,rfl⟩
   go_wp2_with fail
   refine (h2 _).mono ?_
   rintro e w' ⟨rfl,rfl⟩
   go_wp2_with fail
   refine (refTruth_any _ _).mono ?_
   rintro e w' ⟨rfl,rfl⟩
   go_wp2
   go_ret2
   exact⟨by simp [binV,bne_dec,beq_dec,hb],Below.refl _ _⟩
 ·rcases Decidable.em (b=0) with rfl | hb
  ·go_enter Tryz.func12,Tryz.ntmps12
   go_wp2_with fail
   refine (h1 _).mono ?_
   rintro e w' ⟨rfl,rfl⟩
   go_wp2_with fail
   refine (h2 _).mono ?_
   rintro e w' ⟨rfl,rfl⟩
   go_wp2_with fail
   refine (refTruth_any _ _).mono ?_
   rintro e w' ⟨rfl,rfl⟩
   go_wp2
   go_ret2
   exact⟨by simp [binV,bne_dec,beq_dec,ha],Below.refl _ _⟩
  ·go_enter Tryz.func12,Tryz.ntmps12
   go_wp2_with fail
   refine (h1 _).mono ?_
   rintro e w' ⟨rfl,rfl⟩
   go_wp2_with fail
   refine (h2 _).mono ?_
   rintro e w' ⟨rfl,rfl⟩
   go_wp2_with fail
   refine (refTruth_any _ _).mono ?_
   rintro e w' ⟨rfl,rfl⟩
   go_wp2
   go_ret2
   exact⟨by simp [binV,bne_dec,beq_dec,ha,hb],Below.refl _ _⟩
set_option maxHeartbeats 4000000 in
theorem refBin170 (a b:Int) (w:World) (a0:0≤a) (a1:a<4294967296) (b0:0≤b) (b1:b<4294967296):Calls Tryz.prog 12 #[.int .u16 170,.int .u32 a,.int .u32 b] w fun e w'=>e=.returned (.tuple #[.int .u32 (binV 170 a b),.bool true])∧Below w.heap.size w w':=by
 have h1:=fun w=>refSigned_any a w a0 a1
 have h2:=fun w=>refSigned_any b w b0 b1
 have hI:=wrap_in a
 have hJ:=wrap_in b
 go_enter Tryz.func12,Tryz.ntmps12
 go_wp2_with fail
 refine (h1 _).mono ?_
 rintro e w' ⟨rfl,rfl⟩
 go_wp2_with fail
 refine (h2 _).mono ?_
 rintro e w' ⟨rfl,rfl⟩
 go_wp2_with fail
 refine (refTruth_any _ _).mono ?_
 rintro e w' ⟨rfl,rfl⟩
 go_wp2
 go_ret2
 exact⟨by simp [binV,bne_dec,beq_dec],Below.refl _ _⟩
set_option maxHeartbeats 4000000 in
theorem refBin171 (a b:Int) (w:World) (a0:0≤a) (a1:a<4294967296) (b0:0≤b) (b1:b<4294967296):Calls Tryz.prog 12 #[.int .u16 171,.int .u32 a,.int .u32 b] w fun e w'=>e=.returned (.tuple #[.int .u32 (binV 171 a b),.bool true])∧Below w.heap.size w w':=by
 have h1:=fun w=>refSigned_any a w a0 a1
 have h2:=fun w=>refSigned_any b w b0 b1
 have hI:=wrap_in a
 have hJ:=wrap_in b
 go_enter Tryz.func12,Tryz.ntmps12
 go_wp2_with fail
 refine (h1 _).mono ?_
 rintro e w' ⟨rfl,rfl⟩
 go_wp2_with fail
 refine (h2 _).mono ?_
 rintro e w' ⟨rfl,rfl⟩
 go_wp2_with fail
 refine (refTruth_any _ _).mono ?_
 rintro e w' ⟨rfl,rfl⟩
 go_wp2
 go_ret2
 exact⟨by simp [binV,bne_dec,beq_dec],Below.refl _ _⟩
set_option maxHeartbeats 4000000 in
theorem refBin172 (a b:Int) (w:World) (a0:0≤a) (a1:a<4294967296) (b0:0≤b) (b1:b<4294967296):Calls Tryz.prog 12 #[.int .u16 172,.int .u32 a,.int .u32 b] w fun e w'=>e=.returned (.tuple #[.int .u32 (binV 172 a b),.bool true])∧Below w.heap.size w w':=by
 have h1:=fun w=>refSigned_any a w a0 a1
 have h2:=fun w=>refSigned_any b w b0 b1
 have hI:=wrap_in a
 have hJ:=wrap_in b
 go_enter Tryz.func12,Tryz.ntmps12
 go_wp2_with fail
 refine (h1 _).mono ?_
 rintro e w' ⟨rfl,rfl⟩
 go_wp2_with fail
 refine (h2 _).mono ?_
 rintro e w' ⟨rfl,rfl⟩
 go_wp2_with fail
 refine (refTruth_any _ _).mono ?_
 rintro e w' ⟨rfl,rfl⟩
 go_wp2
 go_ret2
 exact⟨by simp [binV,bne_dec,beq_dec],Below.refl _ _⟩
set_option maxHeartbeats 4000000 in
theorem refBin174 (a b:Int) (w:World) (a0:0≤a) (a1:a<4294967296) (b0:0≤b) (b1:b<4294967296):Calls Tryz.prog 12 #[.int .u16 174,.int .u32 a,.int .u32 b] w fun e w'=>e=.returned (.tuple #[.int .u32 (binV 174 a b),.bool true])∧Below w.heap.size w w':=by
 have h1:=fun w=>refSigned_any a w a0 a1
 have h2:=fun w=>refSigned_any b w b0 b1
 have hI:=wrap_in a
 have hJ:=wrap_in b
 go_enter Tryz.func12,Tryz.ntmps12
 go_wp2_with fail
 refine (h1 _).mono ?_
 rintro e w' ⟨rfl,rfl⟩
 go_wp2_with fail
 refine (h2 _).mono ?_
 rintro e w' ⟨rfl,rfl⟩
 go_wp2_with fail
 refine (refTruth_any _ _).mono ?_
 rintro e w' ⟨rfl,rfl⟩
 go_wp2
 go_ret2
 exact⟨by simp [binV,bne_dec,beq_dec],Below.refl _ _⟩
set_option maxHeartbeats 4000000 in
theorem refBin176 (a b:Int) (w:World) (a0:0≤a) (a1:a<4294967296) (b0:0≤b) (b1:b<4294967296):Calls Tryz.prog 12 #[.int .u16 176,.int .u32 a,.int .u32 b] w fun e w'=>e=.returned (.tuple #[.int .u32 (binV 176 a b),.bool true])∧Below w.heap.size w w':=by
 have h1:=fun w=>refSigned_any a w a0 a1
 have h2:=fun w=>refSigned_any b w b0 b1
 have hI:=wrap_in a
 have hJ:=wrap_in b
 go_enter Tryz.func12,Tryz.ntmps12
 go_wp2_with fail
 refine (h1 _).mono ?_
 rintro e w' ⟨rfl,rfl⟩
 go_wp2_with fail
 refine (h2 _).mono ?_
 rintro e w' ⟨rfl,rfl⟩
 go_wp2_with fail
 refine (refTruth_any _ _).mono ?_
 rintro e w' ⟨rfl,rfl⟩
 go_wp2
 go_ret2
 exact⟨by simp [binV,bne_dec,beq_dec],Below.refl _ _⟩
set_option maxHeartbeats 4000000 in
theorem refBin178 (a b:Int) (w:World) (a0:0≤a) (a1:a<4294967296) (b0:0≤b) (b1:b<4294967296):Calls Tryz.prog 12 #[.int .u16 178,.int .u32 a,.int .u32 b] w fun e w'=>e=.returned (.tuple #[.int .u32 (binV 178 a b),.bool true])∧Below w.heap.size w w':=by
 have h1:=fun w=>refSigned_any a w a0 a1
 have h2:=fun w=>refSigned_any b w b0 b1
 have hI:=wrap_in a
 have hJ:=wrap_in b
 go_enter Tryz.func12,Tryz.ntmps12
 go_wp2_with fail
 refine (h1 _).mono ?_
 rintro e w' ⟨rfl,rfl⟩
 go_wp2_with fail
 refine (h2 _).mono ?_
 rintro e w' ⟨rfl,rfl⟩
 go_wp2_with fail
 refine (refTruth_any _ _).mono ?_
 rintro e w' ⟨rfl,rfl⟩
 go_wp2
 go_ret2
 exact⟨by simp [binV,bne_dec,beq_dec],Below.refl _ _⟩
set_option maxHeartbeats 4000000 in
theorem refBin173 (a b:Int) (w:World) (a0:0≤a) (a1:a<4294967296) (b0:0≤b) (b1:b<4294967296):Calls Tryz.prog 12 #[.int .u16 173,.int .u32 a,.int .u32 b] w fun e w'=>e=.returned (.tuple #[.int .u32 (binV 173 a b),.bool true])∧Below w.heap.size w w':=by
 have h1:=fun w=>refSigned_any a w a0 a1
 have h2:=fun w=>refSigned_any b w b0 b1
 have hI:=wrap_in a
 have hJ:=wrap_in b
 go_enter Tryz.func12,Tryz.ntmps12
 go_wp2_with fail
 refine (h1 _).mono ?_
 rintro e w' ⟨rfl,rfl⟩
 go_wp2_with fail
 refine (h2 _).mono ?_
 rintro e w' ⟨rfl,rfl⟩
 go_wp2_with fail
 refine (refTruth_any _ _).mono ?_
 rintro e w' ⟨rfl,rfl⟩
 go_wp2
 go_ret2
 exact⟨by simp [binV,bne_dec,beq_dec],Below.refl _ _⟩
set_option maxHeartbeats 4000000 in
theorem refBin175 (a b:Int) (w:World) (a0:0≤a) (a1:a<4294967296) (b0:0≤b) (b1:b<4294967296):Calls Tryz.prog 12 #[.int .u16 175,.int .u32 a,.int .u32 b] w fun e w'=>e=.returned (.tuple #[.int .u32 (binV 175 a b),.bool true])∧Below w.heap.size w w':=by
 have h1:=fun w=>refSigned_any a w a0 a1
 have h2:=fun w=>refSigned_any b w b0 b1
 have hI:=wrap_in a
 have hJ:=wrap_in b
 go_enter Tryz.func12,Tryz.ntmps12
 go_wp2_with fail
 refine (h1 _).mono ?_
 rintro e w' ⟨rfl,rfl⟩
 go_wp2_with fail
 refine (h2 _).mono ?_
 rintro e w' ⟨rfl,rfl⟩
 go_wp2_with fail
 refine (refTruth_any _ _).mono ?_
 rintro e w' ⟨rfl,rfl⟩
 go_wp2
 go_ret2
 exact⟨by simp [binV,bne_dec,beq_dec],Below.refl _ _⟩
set_option maxHeartbeats 4000000 in
theorem refBin177 (a b:Int) (w:World) (a0:0≤a) (a1:a<4294967296) (b0:0≤b) (b1:b<4294967296):Calls Tryz.prog 12 #[.int .u16 177,.int .u32 a,.int .u32 b] w fun e w'=>e=.returned (.tuple #[.int .u32 (binV 177 a b),.bool true])∧Below w.heap.size w w':=by
 have h1:=fun w=>refSigned_any a w a0 a1
 have h2:=fun w=>refSigned_any b w b0 b1
 have hI:=wrap_in a
 have hJ:=wrap_in b
 go_enter Tryz.func12,Tryz.ntmps12
 go_wp2_with fail
 refine (h1 _).mono ?_
 rintro e w' ⟨rfl,rfl⟩
 go_wp2_with fail
 refine (h2 _).mono ?_
 rintro e w' ⟨rfl,rfl⟩
 go_wp2_with fail
 refine (refTruth_any _ _).mono ?_
 rintro e w' ⟨rfl,rfl⟩
 go_wp2
 go_ret2
 exact⟨by simp [binV,bne_dec,beq_dec],Below.refl _ _⟩
set_option maxHeartbeats 4000000 in
theorem refBin179 (a b:Int) (w:World) (a0:0≤a) (a1:a<4294967296) (b0:0≤b) (b1:b<4294967296):Calls Tryz.prog 12 #[.int .u16 179,.int .u32 a,.int .u32 b] w fun e w'=>e=.returned (.tuple #[.int .u32 (binV 179 a b),.bool true])∧Below w.heap.size w w':=by
 have h1:=fun w=>refSigned_any a w a0 a1
 have h2:=fun w=>refSigned_any b w b0 b1
 have hI:=wrap_in a
 have hJ:=wrap_in b
 go_enter Tryz.func12,Tryz.ntmps12
 go_wp2_with fail
 refine (h1 _).mono ?_
 rintro e w' ⟨rfl,rfl⟩
 go_wp2_with fail
 refine (h2 _).mono ?_
 rintro e w' ⟨rfl,rfl⟩
 go_wp2_with fail
 refine (refTruth_any _ _).mono ?_
 rintro e w' ⟨rfl,rfl⟩
 go_wp2
 go_ret2
 exact⟨by simp [binV,bne_dec,beq_dec],Below.refl _ _⟩
set_option maxHeartbeats 4000000 in
theorem refBinary_any (op a b:Int) (w:World) (h0:0≤op) (h1:op<65536) (a0:0≤a) (a1:a<4294967296) (b0:0≤b) (b1:b<4294967296):Calls Tryz.prog 12 #[.int .u16 op,.int .u32 a,.int .u32 b] w fun e w'=>e=.returned (.tuple #[.int .u32 (binV op a b),.bool (binB op)])∧Below w.heap.size w w':=by
 by_cases c128:op=128
 ·subst c128;exact refBin128 a b w a0 a1 b0 b1
 by_cases c130:op=130
 ·subst c130;exact refBin130 a b w a0 a1 b0 b1
 by_cases c132:op=132
 ·subst c132;exact refBin132 a b w a0 a1 b0 b1
 by_cases c134:op=134
 ·subst c134;exact refBin134 a b w a0 a1 b0 b1
 by_cases c137:op=137
 ·subst c137;exact refBin137 a b w a0 a1 b0 b1
 by_cases c135:op=135
 ·subst c135;exact refBin135 a b w a0 a1 b0 b1
 by_cases c138:op=138
 ·subst c138;exact refBin138 a b w a0 a1 b0 b1
 by_cases c139:op=139
 ·subst c139;exact refBin139 a b w a0 a1 b0 b1
 by_cases c194:op=194
 ·subst c194;exact refBin194 a b w a0 a1 b0 b1
 by_cases c195:op=195
 ·subst c195;exact refBin195 a b w a0 a1 b0 b1
 by_cases c196:op=196
 ·subst c196;exact refBin196 a b w a0 a1 b0 b1
 by_cases c197:op=197
 ·subst c197;exact refBin197 a b w a0 a1 b0 b1
 by_cases c198:op=198
 ·subst c198;exact refBin198 a b w a0 a1 b0 b1
 by_cases c199:op=199
 ·subst c199;exact refBin199 a b w a0 a1 b0 b1
 by_cases c164:op=164
 ·subst c164;exact refBin164 a b w a0 a1 b0 b1
 by_cases c165:op=165
 ·subst c165;exact refBin165 a b w a0 a1 b0 b1
 by_cases c166:op=166
 ·subst c166;exact refBin166 a b w a0 a1 b0 b1
 by_cases c167:op=167
 ·subst c167;exact refBin167 a b w a0 a1 b0 b1
 by_cases c170:op=170
 ·subst c170;exact refBin170 a b w a0 a1 b0 b1
 by_cases c171:op=171
 ·subst c171;exact refBin171 a b w a0 a1 b0 b1
 by_cases c172:op=172
 ·subst c172;exact refBin172 a b w a0 a1 b0 b1
 by_cases c174:op=174
 ·subst c174;exact refBin174 a b w a0 a1 b0 b1
 by_cases c176:op=176
 ·subst c176;exact refBin176 a b w a0 a1 b0 b1
 by_cases c178:op=178
 ·subst c178;exact refBin178 a b w a0 a1 b0 b1
 by_cases c173:op=173
 ·subst c173;exact refBin173 a b w a0 a1 b0 b1
 by_cases c175:op=175
 ·subst c175;exact refBin175 a b w a0 a1 b0 b1
 by_cases c177:op=177
 ·subst c177;exact refBin177 a b w a0 a1 b0 b1
 by_cases c179:op=179
 ·subst c179;exact refBin179 a b w a0 a1 b0 b1
 have hn:binB op=false∧binV op=(fun _ _=>0):=by
  rcases TwoQ.none (op:=op) (w':=w) (by simp only [binOps,List.mem_cons,List.not_mem_nil,or_false,forall_eq_or_imp,forall_eq];exact⟨c128,c130,c132,c134,c137,c135,c138,c139,c194,c195,c196,c197,c198,c199,c164,c165,c166,c167,c170,c171,c172,c174,c176,c178,c173,c175,c177,c179⟩) with ⟨q1,q2,_⟩ | ⟨n,q,_⟩ | ⟨p,n,q,_⟩
  ·exact⟨q1,q2⟩
  ·cases q
  ·cases q
 rw [hn.1,hn.2]
 have h1:=fun w=>refSigned_any a w a0 a1
 have h2:=fun w=>refSigned_any b w b0 b1
 go_enter Tryz.func12,Tryz.ntmps12
 go_wp2_with fail
 refine (h1 _).mono ?_
 rintro e w' ⟨rfl,rfl⟩
 go_wp2_with fail
 refine (h2 _).mono ?_
 rintro e w' ⟨rfl,rfl⟩
 go_wp2
 go_ret2
 exact⟨rfl,Below.refl _ _⟩
end Go.Proofs.YtonhnflilfjkbaaGreat
namespace Go.Proofs.YtonhnflilfjkbaaGreat
open Go.RowKit Go.Maps
set_option linter.unusedVariables false
set_option linter.unusedSimpArgs false
set_option maxRecDepth 10000
set_option maxHeartbeats 2000000 in
theorem refPair149 (a b:Int) (w:World) (a0:0≤a) (a1:a<4294967296) (b0:0≤b) (b1:b<4294967296):Calls Tryz.prog 11 #[.int .u16 149,.int .u32 a,.int .u32 b] w fun e w'=>e=.returned (.tuple #[.int .u32 (prX 149 a b),.int .u32 (prY 149 a b),.bool true])∧w=w':=by
 go_enter Tryz.func11,Tryz.ntmps11
 go_wp2_with (first | (go_at_call 19;refine (refWord_any _ _ (by omega) (by omega)).mono ?_;rintro e w' ⟨rfl,rfl⟩) | (go_at_call 14;refine (refTruth_any _ _).mono ?_;rintro e w' ⟨rfl,rfl⟩))
 refine bodyPost_ret (v:=.tuple #[.int .u32 (prX 149 a b),.int .u32 (prY 149 a b),.bool true]) ?_ rfl ⟨rfl,rfl⟩
 simp [results,Tryz.results11,go_sem,prX,prY]
set_option maxHeartbeats 2000000 in
theorem refPair150 (a b:Int) (w:World) (a0:0≤a) (a1:a<4294967296) (b0:0≤b) (b1:b<4294967296):Calls Tryz.prog 11 #[.int .u16 150,.int .u32 a,.int .u32 b] w fun e w'=>e=.returned (.tuple #[.int .u32 (prX 150 a b),.int .u32 (prY 150 a b),.bool true])∧w=w':=by
 go_enter Tryz.func11,Tryz.ntmps11
 go_wp2_with (first | (go_at_call 19;refine (refWord_any _ _ (by omega) (by omega)).mono ?_;rintro e w' ⟨rfl,rfl⟩) | (go_at_call 14;refine (refTruth_any _ _).mono ?_;rintro e w' ⟨rfl,rfl⟩))
 refine bodyPost_ret (v:=.tuple #[.int .u32 (prX 150 a b),.int .u32 (prY 150 a b),.bool true]) ?_ rfl ⟨rfl,rfl⟩
 simp [results,Tryz.results11,go_sem,prX,prY]
set_option maxHeartbeats 2000000 in
theorem refPair151 (a b:Int) (w:World) (a0:0≤a) (a1:a<4294967296) (b0:0≤b) (b1:b<4294967296):Calls Tryz.prog 11 #[.int .u16 151,.int .u32 a,.int .u32 b] w fun e w'=>e=.returned (.tuple #[.int .u32 (prX 151 a b),.int .u32 (prY 151 a b),.bool true])∧w=w':=by
 have hm:=mul_in a b a0 a1 b0 b1
 go_enter Tryz.func11,Tryz.ntmps11
 go_wp2
 refine bodyPost_ret (v:=.tuple #[.int .u32 (prX 151 a b),.int .u32 (prY 151 a b),.bool true]) ?_ rfl ⟨rfl,rfl⟩
 simp [results,Tryz.results11,go_sem,prX,prY]
theorem pair_hi (N:Int) (h:-4611686018427387904≤N∧N≤4611686018427387904):(N - N % 4294967296).tdiv 4294967296=N / 4294967296:=by
 have e:N - N % 4294967296=N / 4294967296 * 4294967296:=by omega
 rw [e,Int.mul_tdiv_cancel _ (by omega)]
set_option maxHeartbeats 2000000 in
theorem refPair152 (a b:Int) (w:World) (a0:0≤a) (a1:a<4294967296) (b0:0≤b) (b1:b<4294967296):Calls Tryz.prog 11 #[.int .u16 152,.int .u32 a,.int .u32 b] w fun e w'=>e=.returned (.tuple #[.int .u32 (prX 152 a b),.int .u32 (prY 152 a b),.bool true])∧w=w':=by
 have hx:prX 152 a b=wrap32 a * wrap32 b % 4294967296:=rfl
 have hy:prY 152 a b=wrap32 a * wrap32 b / 4294967296 % 4294967296:=rfl
 rw [hx,hy]
 have h1:=fun w=>refSigned_any a w a0 a1
 have h2:=fun w=>refSigned_any b w b0 b1
 have hI:=wrap_in a
 have hJ:=wrap_in b
 have hm:=smul_in _ _ hI hJ
 have hp:=pair_hi _ hm
 generalize wrap32 a=S at *
 generalize wrap32 b=T at *
 clear hx hy
 go_enter Tryz.func11,Tryz.ntmps11
 go_wp2_with fail
 refine (h1 _).mono ?_
 rintro e w' ⟨rfl,rfl⟩
 go_wp2_with fail
 refine (h2 _).mono ?_
 rintro e w' ⟨rfl,rfl⟩
 go_wp2_with fail
 refine (refWord_any _ _ (by omega) (by omega)).mono ?_
 rintro e w' ⟨rfl,rfl⟩
 go_wp2_with fail
 refine (refWord_any _ _ (by omega) (by omega)).mono ?_
 rintro e w' ⟨rfl,rfl⟩
 go_wp2
 refine bodyPost_ret (v:=.tuple #[.int .u32 (S * T % 4294967296),.int .u32 (S * T / 4294967296 % 4294967296),.bool true]) ?_ rfl ⟨rfl,rfl⟩
 simp [results,Tryz.results11,go_sem,hp]
set_option maxHeartbeats 2000000 in
theorem refPair_any (op a b:Int) (w:World) (a0:0≤a) (a1:a<4294967296) (b0:0≤b) (b1:b<4294967296):Calls Tryz.prog 11 #[.int .u16 op,.int .u32 a,.int .u32 b] w fun e w'=>e=.returned (.tuple #[.int .u32 (prX op a b),.int .u32 (prY op a b),.bool (prB op)])∧w=w':=by
 by_cases c1:op=149
 ·subst c1;exact refPair149 a b w a0 a1 b0 b1
 by_cases c2:op=150
 ·subst c2;exact refPair150 a b w a0 a1 b0 b1
 by_cases c3:op=151
 ·subst c3;exact refPair151 a b w a0 a1 b0 b1
 by_cases c4:op=152
 ·subst c4;exact refPair152 a b w a0 a1 b0 b1
 have e1:prX op a b=0:=by simp [prX,c1,c2,c3,c4]
 have e2:prY op a b=0:=by simp [prY,c1,c2,c3,c4]
 have e3:prB op=false:=by simp [prB,c1,c2,c3,c4]
 rw [e1,e2,e3]
 go_enter Tryz.func11,Tryz.ntmps11
 go_wp2
 refine bodyPost_ret (v:=.tuple #[.int .u32 0,.int .u32 0,.bool false]) ?_ rfl ⟨rfl,rfl⟩
 simp [results,Tryz.results11,go_sem]
end Go.Proofs.YtonhnflilfjkbaaGreat
namespace Go.Proofs.YtonhnflilfjkbaaGreat
open Go.RowKit
set_option linter.unusedVariables false
set_option linter.unusedSimpArgs false
set_option maxRecDepth 10000
set_option maxHeartbeats 2000000 in
theorem refArity_at (op u v x y:Int) (B1 B2 B3:Bool) (V:Int) (w:World)
  (h1:∀ w,Calls Tryz.prog 10 #[.int .u16 op,.int .u32 0] w fun e w'=>e=.returned (.tuple #[.int .u32 u,.bool B1])∧Below w.heap.size w w')
  (h2:∀ w,Calls Tryz.prog 12 #[.int .u16 op,.int .u32 0,.int .u32 0] w fun e w'=>e=.returned (.tuple #[.int .u32 v,.bool B2])∧Below w.heap.size w w')
  (h3:∀ w,Calls Tryz.prog 11 #[.int .u16 op,.int .u32 0,.int .u32 0] w fun e w'=>e=.returned (.tuple #[.int .u32 x,.int .u32 y,.bool B3])∧w=w')
  (hV:V=if B1=true∨op=154∨op=155 then 1 else if B2=true∨B3=true then 2 else if op=169∨op=202∨op=203 then 3 else if op=201 then 4 else 0) :
  Calls Tryz.prog 9 #[.int .u16 op] w fun e w'=>e=.returned (.int .i64 V)∧Below w.heap.size w w':=by
 have HV:=hide hV
 clear hV
 go_enter Tryz.func9,Tryz.ntmps9
 go_wp2_with fail
 refine (h1 _).mono ?_
 rintro e w1 ⟨rfl,hb1⟩
 go_wp2_with fail
 refine (h2 _).mono ?_
 rintro e w2 ⟨rfl,hb2⟩
 go_wp2_with fail
 refine (h3 _).mono ?_
 rintro e w3 ⟨rfl,rfl⟩
 have hb:=hb1.trans (hb2.mono hb1.size)
 clear h1 h2 h3 hb1 hb2
 cases B1
 ·cases B2
  ·cases B3
   ·by_cases c1:op=154
    ·subst c1
     go_wp2
     go_ret
     exact⟨by rw [HV.out];rfl,hb⟩
    by_cases c2:op=155
    ·subst c2
     go_wp2
     go_ret
     exact⟨by rw [HV.out];rfl,hb⟩
    by_cases c3:op=169
    ·subst c3
     go_wp2
     go_ret
     exact⟨by rw [HV.out];rfl,hb⟩
    by_cases c4:op=202
    ·subst c4
     go_wp2
     go_ret
     exact⟨by rw [HV.out];rfl,hb⟩
    by_cases c5:op=203
    ·subst c5
     go_wp2
     go_ret
     exact⟨by rw [HV.out];rfl,hb⟩
    by_cases c6:op=201
    ·subst c6
     go_wp2
     go_ret
     exact⟨by rw [HV.out];rfl,hb⟩
    ·have hz:V=0:=by rw [HV.out];simp [c1,c2,c3,c4,c5,c6]
     have d1:(op==154)=false:=by simp [c1]
     have d2:(op==155)=false:=by simp [c2]
     have d3:(op==169)=false:=by simp [c3]
     have d4:(op==202)=false:=by simp [c4]
     have d5:(op==203)=false:=by simp [c5]
     have d6:(op==201)=false:=by simp [c6]
     go_wp2
     go_ret
     exact⟨by rw [hz];rfl,hb⟩
   ·by_cases c1:op=154
    ·subst c1
     go_wp2
     go_ret
     exact⟨by rw [HV.out];rfl,hb⟩
    by_cases c2:op=155
    ·subst c2
     go_wp2
     go_ret
     exact⟨by rw [HV.out];rfl,hb⟩
    have hz:V=2:=by rw [HV.out];simp [c1,c2]
    have d1:(op==154)=false:=by simp [c1]
    have d2:(op==155)=false:=by simp [c2]
    go_wp2
    go_ret
    exact⟨by rw [hz];rfl,hb⟩
  ·by_cases c1:op=154
   ·subst c1
    go_wp2
    go_ret
    exact⟨by rw [HV.out];rfl,hb⟩
   by_cases c2:op=155
   ·subst c2
    go_wp2
    go_ret
    exact⟨by rw [HV.out];rfl,hb⟩
   have hz:V=2:=by rw [HV.out];simp [c1,c2]
   have d1:(op==154)=false:=by simp [c1]
   have d2:(op==155)=false:=by simp [c2]
   go_wp2
   go_ret
   exact⟨by rw [hz];rfl,hb⟩
 ·have hz:V=1:=by rw [HV.out];simp
  go_wp2
  go_ret
  exact⟨by rw [hz];rfl,hb⟩
theorem refArity_any (op:Int) (w:World) (h0:0≤op) (h1:op<65536):Calls Tryz.prog 9 #[.int .u16 op] w fun e w'=>e=.returned (.int .i64 (arV op))∧Below w.heap.size w w' :=
 refArity_at op _ _ _ _ _ _ _ _ w (fun w=>refUnary_any op 0 w (by omega) (by omega)) (fun w=>refBinary_any op 0 0 w h0 h1 (by omega) (by omega) (by omega) (by omega)) (fun w=>refPair_any op 0 0 w (by omega) (by omega) (by omega) (by omega)) rfl
end Go.Proofs.YtonhnflilfjkbaaGreat
