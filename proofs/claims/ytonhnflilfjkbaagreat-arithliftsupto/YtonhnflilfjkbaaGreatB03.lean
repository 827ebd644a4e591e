/-
  Texts in one: MathBt, MathAr, MapF, ArithMaps, ArithTwos.
-/
import Derived.Test.YtonhnflilfjkbaaGreatB01
import Derived.WalkMore
import Derived.Maps.OwnSet
import Derived.Laws.EntriesVeiled
namespace Go.Proofs.YtonhnflilfjkbaaGreat
open Go.RowKit
set_option linter.unusedVariables false
set_option linter.unusedSimpArgs false
theorem two_pos (k:Nat):(0:Int)<2 ^ k:=by
 have:(0:Nat)<2 ^ k:=Nat.two_pow_pos k
 have h:((2 ^ k:Nat):Int)=(2:Int) ^ k:=by simp
 omega
theorem two_succ (k:Nat):(2:Int) ^ (k+1)=2 ^ k * 2:=Int.pow_succ ..
def bt (a:Int) (k:Nat):Int:=a / 2 ^ k % 2
theorem bt_or (a:Int) (k:Nat):bt a k=0∨bt a k=1:=by unfold bt;omega
theorem bt_lo (a:Int) (k:Nat):0≤bt a k:=by unfold bt;omega
theorem bt_hi (a:Int) (k:Nat):bt a k<2:=by unfold bt;omega
theorem bt_zero (a:Int):bt a 0=a % 2:=by simp [bt]
theorem bt_half (a:Int) (k:Nat):bt (a / 2) k=bt a (k+1):=by
 unfold bt
 rw [two_succ,Int.mul_comm,← Int.ediv_ediv_of_nonneg (by omega)]
theorem bt_div (a:Int) (n k:Nat):bt (a / 2 ^ n) k=bt a (n+k):=by
 unfold bt
 rw [Int.pow_add,← Int.ediv_ediv_of_nonneg (Int.le_of_lt (two_pos n))]
theorem bt_add (a c:Int) (n k:Nat) (h:k<n):bt (a+c * 2 ^ n) k=bt a k:=by
 obtain⟨d,rfl⟩:∃ d,n=k+1+d:=⟨n - k - 1,by omega⟩
 unfold bt
 rw [show a+c * 2 ^ (k+1+d)=a+(c * 2 ^ d * 2) * 2 ^ k by rw [Int.pow_add,two_succ];ac_rfl,Int.add_mul_ediv_right _ _ (by have:=two_pos k;omega)]
 omega
theorem bt_mod (a:Int) (n k:Nat) (h:k<n):bt (a % 2 ^ n) k=bt a k:=by
 have e:a=a % 2 ^ n+a / 2 ^ n * 2 ^ n:=by have:=Int.emod_add_mul_ediv a (2 ^ n);rw [Int.mul_comm] at this;omega
 rw [show bt a k=bt (a % 2 ^ n+a / 2 ^ n * 2 ^ n) k by rw [← e],bt_add _ _ _ _ h]
theorem bt_mod32 (a:Int) (k:Nat) (h:k<32):bt (a % 4294967296) k=bt a k:=bt_mod a 32 k h
theorem bt_mul (a:Int) (n k:Nat):bt (a * 2 ^ n) k=if k<n then 0 else bt a (k - n):=by
 split
 ·rename_i h
  have:=bt_add 0 a n k h
  rw [Int.zero_add] at this
  rw [this];unfold bt;simp
 ·rename_i h
  obtain⟨d,rfl⟩:∃ d,k=n+d:=⟨k - n,by omega⟩
  rw [show n+d - n=d by omega,← bt_div,Int.mul_ediv_cancel _ (by have:=two_pos n;omega)]
theorem bt_above (a:Int) (n k:Nat) (h0:0≤a) (h1:a<2 ^ n) (h:n≤k):bt a k=0:=by
 obtain⟨d,rfl⟩:∃ d,k=n+d:=⟨k - n,by omega⟩
 rw [← bt_div,Int.ediv_eq_zero_of_lt h0 h1]
 unfold bt;simp
theorem bits_ext:∀ (n:Nat) (a b:Int),0≤a→a<2 ^ n→0≤b→b<2 ^ n→(∀ k,k<n→bt a k=bt b k)→a=b
 | 0,a,b,a0,a1,b0,b1,_=>by simp at a1 b1;omega
 | n+1,a,b,a0,a1,b0,b1,h=>by
  rw [two_succ] at a1 b1
  have e:=bits_ext n (a / 2) (b / 2) (by omega) (by omega) (by omega) (by omega) (fun k hk=>by rw [bt_half,bt_half];exact h (k+1) (by omega))
  have:=h 0 (by omega)
  rw [bt_zero,bt_zero] at this
  omega
theorem word_ext (a b:Int) (a0:0≤a) (a1:a<4294967296) (b0:0≤b) (b1:b<4294967296) (h:∀ k,k<32→bt a k=bt b k):a=b:=bits_ext 32 a b a0 a1 b0 b1 h
def hB (f:Nat→Int):Nat→Nat→Int
 | 0,_=>0
 | n+1,m=>f m+2 * hB f n (m+1)
def Is01 (f:Nat→Int):Prop:=∀ k,f k=0∨f k=1
theorem is01_bt (a:Int):Is01 (bt a):=bt_or a
theorem hB_in (f:Nat→Int) (hf:Is01 f):∀ n m,0≤hB f n m∧hB f n m<2 ^ n
 | 0,m=>by simp [hB]
 | n+1,m=>by
  have ih:=hB_in f hf n (m+1)
  have:=hf m
  rw [hB,two_succ];omega
theorem bt_hB (f:Nat→Int) (hf:Is01 f):∀ n m k,k<n→bt (hB f n m) k=f (m+k)
 | 0,m,k,h=>by omega
 | n+1,m,0,h=>by
  have:=hf m
  rw [bt_zero,hB];simp;omega
 | n+1,m,k+1,h=>by
  have:=hf m
  rw [← bt_half,hB,show (f m+2 * hB f n (m+1)) / 2=hB f n (m+1) by omega,bt_hB f hf n (m+1) k (by omega)]
  congr 1;omega
theorem hB_word (f:Nat→Int) (hf:Is01 f):0≤hB f 32 0∧hB f 32 0<4294967296:=hB_in f hf 32 0
theorem bt_word (f:Nat→Int) (hf:Is01 f) (k:Nat) (h:k<32):bt (hB f 32 0) k=f k:=by rw [bt_hB f hf 32 0 k h,Nat.zero_add]
theorem hB_eq (a:Int) (f:Nat→Int) (hf:Is01 f) (a0:0≤a) (a1:a<4294967296) (h:∀ k,k<32→bt a k=f k):hB f 32 0=a :=
 word_ext _ _ (hB_word f hf).1 (hB_word f hf).2 a0 a1 fun k hk=>by rw [bt_word f hf k hk,h k hk]
def cntB (f:Nat→Int):Nat→Int
 | 0=>0
 | n+1=>cntB f n+f n
theorem cntB_in (f:Nat→Int) (hf:Is01 f):∀ n:Nat,0≤cntB f n∧cntB f n≤(n:Int)
 | 0=>by simp [cntB]
 | n+1=>by have:=cntB_in f hf n;have:=hf n;rw [cntB];omega
theorem cntB_zero (a:Int) (a0:0≤a) (a1:a<4294967296):cntB (bt a) 32=0↔a=0:=by
 constructor
 ·intro h
  have key:∀ n,cntB (bt a) n=0→∀ k,k<n→bt a k=0:=by
   intro n
   induction n with
   | zero=>intro _ k hk;omega
   | succ n ih =>
    intro h k hk
    rw [cntB] at h
    have h1:=(cntB_in (bt a) (is01_bt a) n).1
    have h2:=bt_lo a n
    by_cases e:k=n
    ·subst e;omega
    ·exact ih (by omega) k (by omega)
  exact word_ext a 0 a0 a1 (by omega) (by omega) fun k hk=>by rw [key 32 h k hk];unfold bt;simp
 ·intro h
  subst h
  have key:∀ n,cntB (bt 0) n=0:=by
   intro n
   induction n with
   | zero=>rfl
   | succ n ih=>rw [cntB,ih];unfold bt;simp
  exact key 32
/-! ### bit by bit -/
theorem testBit_bt (n k:Nat):bt (n:Int) k=if n.testBit k=true then 1 else 0:=by
 unfold bt
 rw [show ((2:Int) ^ k)=((2 ^ k:Nat):Int) by simp]
 rw [← Int.natCast_ediv,Nat.testBit_eq_decide_div_mod_eq]
 simp only [decide_eq_true_eq]
 split <;> omega
theorem bt_orW (a b:Int) (k:Nat) (a0:0≤a) (a1:a<4294967296) (b0:0≤b) (b1:b<4294967296):bt (bits .or .u32 a b) k=if bt a k=1∨bt b k=1 then 1 else 0:=by
 obtain⟨m,rfl⟩:=Int.eq_ofNat_of_zero_le a0
 obtain⟨n,rfl⟩:=Int.eq_ofNat_of_zero_le b0
 rw [u32_or_nat _ _ (by omega) (by omega),testBit_bt,testBit_bt,testBit_bt,Nat.testBit_or]
 cases m.testBit k <;> cases n.testBit k <;> simp
theorem bt_andW (a b:Int) (k:Nat) (a0:0≤a) (a1:a<4294967296) (b0:0≤b) (b1:b<4294967296):bt (bits .and .u32 a b) k=if bt a k=1∧bt b k=1 then 1 else 0:=by
 obtain⟨m,rfl⟩:=Int.eq_ofNat_of_zero_le a0
 obtain⟨n,rfl⟩:=Int.eq_ofNat_of_zero_le b0
 rw [u32_and_nat _ _ (by omega) (by omega),testBit_bt,testBit_bt,testBit_bt,Nat.testBit_and]
 cases m.testBit k <;> cases n.testBit k <;> simp
theorem bt_xorW (a b:Int) (k:Nat) (a0:0≤a) (a1:a<4294967296) (b0:0≤b) (b1:b<4294967296):bt (bits .xor .u32 a b) k=if bt a k=bt b k then 0 else 1:=by
 obtain⟨m,rfl⟩:=Int.eq_ofNat_of_zero_le a0
 obtain⟨n,rfl⟩:=Int.eq_ofNat_of_zero_le b0
 rw [u32_xor_nat _ _ (by omega) (by omega),testBit_bt,testBit_bt,testBit_bt,Nat.testBit_xor]
 cases m.testBit k <;> cases n.testBit k <;> simp
theorem nat_in {x:Int} {n:Nat} (h:x=(n:Int)) (hn:n<4294967296):0≤x∧x<4294967296:=by omega
theorem or_in (a b:Int) (a0:0≤a) (a1:a<4294967296) (b0:0≤b) (b1:b<4294967296):0≤bits .or .u32 a b∧bits .or .u32 a b<4294967296:=by
 obtain⟨m,rfl⟩:=Int.eq_ofNat_of_zero_le a0
 obtain⟨n,rfl⟩:=Int.eq_ofNat_of_zero_le b0
 exact nat_in (u32_or_nat _ _ (by omega) (by omega)) (Nat.or_lt_two_pow (n:=32) (by omega) (by omega))
theorem and_in (a b:Int) (a0:0≤a) (a1:a<4294967296) (b0:0≤b) (b1:b<4294967296):0≤bits .and .u32 a b∧bits .and .u32 a b<4294967296:=by
 obtain⟨m,rfl⟩:=Int.eq_ofNat_of_zero_le a0
 obtain⟨n,rfl⟩:=Int.eq_ofNat_of_zero_le b0
 exact nat_in (u32_and_nat _ _ (by omega) (by omega)) (Nat.and_lt_two_pow (n:=32) _ (by omega))
theorem xor_in (a b:Int) (a0:0≤a) (a1:a<4294967296) (b0:0≤b) (b1:b<4294967296):0≤bits .xor .u32 a b∧bits .xor .u32 a b<4294967296:=by
 obtain⟨m,rfl⟩:=Int.eq_ofNat_of_zero_le a0
 obtain⟨n,rfl⟩:=Int.eq_ofNat_of_zero_le b0
 exact nat_in (u32_xor_nat _ _ (by omega) (by omega)) (Nat.xor_lt_two_pow (n:=32) (by omega) (by omega))
/-! ### signed words -/
theorem bt_wrap32 (a:Int) (k:Nat) (h:k<32):bt (wrap32 a) k=bt a k:=by
 have e:a=wrap32 a+((a+2147483648) / 4294967296) * 2 ^ 32:=by unfold wrap32;omega
 rw [show bt a k=bt (wrap32 a+((a+2147483648) / 4294967296) * 2 ^ 32) k by rw [← e],bt_add _ _ _ _ h]
theorem bt_wrapHi (a:Int) (k:Nat) (h:31≤k):bt (wrap32 a) k=bt a 31:=by
 rw [← bt_wrap32 a 31 (by omega)]
 have l1:-2147483648≤wrap32 a:=by unfold wrap32;omega
 have l2:wrap32 a<2147483648:=by unfold wrap32;omega
 generalize wrap32 a=x at *
 obtain⟨d,rfl⟩:∃ d,k=31+d:=⟨k - 31,by omega⟩
 rw [← bt_div x 31 d,← Nat.add_zero 31,← bt_div x 31 0]
 have e:x / 2 ^ 31=0∨x / 2 ^ 31=-1:=by omega
 rcases e with e | e
 ·rw [e];unfold bt;simp
 ·rw [e]
  unfold bt
  have h1:(-1:Int) / 2 ^ d=-1:=by
   have:=two_pos d
   exact (Int.ediv_eq_iff_of_pos this).2 (by omega)
  rw [h1];simp
def b2i (x:Bool):Int:=if x=true then 1 else 0
def flo (s t:Int):Int:=if s.tmod t≠0∧(s.tmod t<0↔¬ t<0) then s.tmod t+t else s.tmod t
def binV (op a b:Int):Int :=
 if op=128 then (a+b) % 4294967296 else if op=130 then (a - b) % 4294967296 else if op=132 then a * b % 4294967296
 else if op=134 then (if b=0 then 0 else a / b) else if op=137 then (if b=0 then 0 else a % b)
 else if op=135 then (if b=0 then 0 else (wrap32 a).tdiv (wrap32 b) % 4294967296) else if op=138 then (if b=0 then 0 else (wrap32 a).tmod (wrap32 b) % 4294967296)
 else if op=139 then (if b=0 then 0 else flo (wrap32 a) (wrap32 b) % 4294967296)
 else if op=194 then a / 2 ^ (b % 32).toNat else if op=195 then wrap32 a / 2 ^ (b % 32).toNat % 4294967296 else if op=196 then a * 2 ^ (b % 32).toNat % 4294967296
 else if op=197 then bits .or .u32 a b else if op=198 then bits .xor .u32 a b else if op=199 then bits .and .u32 a b
 else if op=164 then b2i (decide (a=0)==decide (b=0)) else if op=165 then b2i (decide (a=0) != decide (b=0))
 else if op=166 then b2i (decide (a≠0∨b≠0)) else if op=167 then b2i (decide (a≠0∧b≠0))
 else if op=170 then b2i (decide (a=b)) else if op=171 then b2i (decide (a≠b))
 else if op=172 then b2i (decide (b<a)) else if op=174 then b2i (decide (b≤a)) else if op=176 then b2i (decide (a<b)) else if op=178 then b2i (decide (a≤b))
 else if op=173 then b2i (decide (wrap32 b<wrap32 a)) else if op=175 then b2i (decide (wrap32 b≤wrap32 a)) else if op=177 then b2i (decide (wrap32 a<wrap32 b)) else if op=179 then b2i (decide (wrap32 a≤wrap32 b))
 else 0
def binOps:List Int:=[128,130,132,134,137,135,138,139,194,195,196,197,198,199,164,165,166,167,170,171,172,174,176,178,173,175,177,179]
def binB (op:Int):Bool:=binOps.contains op
theorem wrap_zero (b:Int) (b0:0≤b) (b1:b<4294967296) (h:b≠0):wrap32 b≠0:=by unfold wrap32;omega
theorem wrap_in (b:Int):-2147483648≤wrap32 b∧wrap32 b<2147483648:=by unfold wrap32;omega
theorem wrap_mod (a:Int):wrap32 a % 4294967296=a % 4294967296:=by unfold wrap32;omega
theorem tmod_in (s t:Int) (ht:t≠0):s.tmod t<2147483648∧-2147483648≤s.tmod t∨¬ (-2147483648≤t∧t<2147483648):=by
 by_cases h:-2147483648≤t∧t<2147483648
 ·left
  have h1:=Int.natAbs_tmod s t
  have h2:s.natAbs % t.natAbs<t.natAbs:=Nat.mod_lt _ (by omega)
  omega
 ·exact .inr h
end Go.Proofs.YtonhnflilfjkbaaGreat
namespace Go.Proofs.YtonhnflilfjkbaaGreat
open Go.RowKit Go.Maps
set_option linter.unusedVariables false
set_option linter.unusedSimpArgs false
set_option maxRecDepth 10000
theorem keyH:Keyed Tryz.prog 22:=int_keyed Tryz.underlying22
theorem keyH_of {x:Int} (h0:0≤x) (h1:x<65536):keyOf Tryz.prog 22 (.int .u16 x)=some (.int .u16 x):=keyOf_int_mk Tryz.underlying22 (by simp [Lit.wf,show IntKind.u16.min=0 from rfl,show IntKind.u16.max=65535 from rfl];omega)
def fnElem (v:Value):Option (DataW Value×List MemPlace):=some (.held v,[])
def MapF (w:World) (b n:Nat) (f:Int→Value):Prop :=
 ∃ D:DataW Value,w.ownsMap Tryz.prog 22 fnElem b n D∧∀ x,D.atKey (.int .u16 x) (.held .nilFunc)=.held (f x)
theorem MapF.made (w:World):MapF (w.alloc (.map #[] 0)) w.heap.size 0 (fun _=>.nilFunc) :=
 ⟨.map [],World.ownsMap_made _ _ _ _,fun x=>rfl⟩
section
variable {w : World} {ops : Array Oper} {rest : List Oper} {o : Oper} {a : Act} {Q : Exit → Act → World → Prop}
theorem MapF.look {b n:Nat} {f:Int→Value} (h:MapF w b n f) (t E:TypeId) (ht:Tryz.prog.underlying t=some (.map 22 E)) (hz:(zeroValue E).run Tryz.prog w=.ok .nilFunc w) (key:Int) (k0:0≤key) (k1:key<65536) :
  (Instr.lookup t (.map (some b)) (.int .u16 key) false).run Tryz.prog w=.ok (f key) w:=by
 obtain⟨D,h1,h2⟩:=h
 obtain⟨v,ps,hrun,hv⟩:=h1.lookup keyH ht hz (zd:=.held .nilFunc) (zp:=[]) rfl (keyH_of k0 k1)
 rw [h2] at hv
 simp only [fnElem,Option.some.injEq,Prod.mk.injEq,DataW.held.injEq] at hv
 rw [hrun,hv.1]
theorem MapF.ins {b n:Nat} {f:Int→Value} (h:MapF w b n f) (t E:TypeId) (ht:Tryz.prog.underlying t=some (.map 22 E)) (hn:n<maxLen) (key:Int) (val:Value) (k0:0≤key) (k1:key<65536) :
  ∃ w',(Instr.mapUpdate t (.map (some b)) (.int .u16 key) val).run Tryz.prog w=.ok () w'∧MapF w' b (n+1) (fun y=>if y=key then val else f y)∧w.grownBy w' (some b):=by
 obtain⟨D,h1,h2⟩:=h
 obtain⟨w',hrun,r1,r2⟩:=h1.update keyH ht hn (keyH_of k0 k1) (show fnElem val=some (.held val,[]) from rfl)
 refine⟨w',hrun,⟨_,r1,fun y=>?_⟩,r2⟩
 show _=DataW.held (if y=key then val else f y)
 by_cases e:y=key
 ·subst e;rw [if_pos rfl];exact atKey_put_same (k:=.int .u16 y) h1.isMap (by simp [WideAt.IsKeyLit]) _ _
 ·rw [if_neg e,← h2 y];exact atKey_put_other (by simpa using e) _ _
theorem below_ins {W w w':World} {N b:Nat} (hb:Below N W w) (hW:N≤W.heap.size) (hN:N≤b) (hg:w.grownBy w' (some b)):Below N W w':=hb.grown hg (Nat.le_trans hW hb.size) (fun k e=>by cases e;exact hN)
theorem below_made (w:World):Below w.heap.size w (w.alloc (.map #[] 0)):=(Below.refl _ w).alloc (Nat.le_refl _) _
def fnV (n:Nat):Value:=.func (.func n) #[] #[]
end
theorem zeroFn0 (w:World):(zeroValue 73).run Tryz.prog w=.ok .nilFunc w:=by kernel_rfl
theorem nilzeroFn0 (w:World):(binOp .eql 73 .nilFunc .nilFunc).run Tryz.prog w=.ok (.bool true) w:=by kernel_rfl
theorem somezeroFn0 (w:World) (fn:Fn) (p q:Array Value):(binOp .eql 73 (.func fn p q) .nilFunc).run Tryz.prog w=.ok (.bool false) w:=by kernel_rfl
def ofSumsV (op:Int):Value:=if op=132 then fnV 79 else if op=130 then fnV 78 else if op=128 then fnV 77 else .nilFunc
set_option maxHeartbeats 2000000 in
theorem ofSums_any (op:Int) (w:World) (h0:0≤op) (h1:op<65536):Calls Tryz.prog 55 #[.int .u16 op] w fun e w'=>e=.returned (ofSumsV op)∧Below w.heap.size w w':=by
 have hmm:=@run_makeMap Tryz.prog
 obtain⟨w1,r1,m1,g1⟩:=(MapF.made w).ins 82 _ Tryz.underlying82 (by unfold maxLen;omega) 128 (.func (.func 77) #[] #[]) (by omega) (by omega)
 have b1:=below_ins (below_made w) (Nat.le_refl _) (Nat.le_refl _) g1
 obtain⟨w2,r2,m2,g2⟩:=m1.ins 82 _ Tryz.underlying82 (by unfold maxLen;omega) 130 (.func (.func 78) #[] #[]) (by omega) (by omega)
 have b2:=below_ins b1 (Nat.le_refl _) (Nat.le_refl _) g2
 obtain⟨w3,r3,m3,g3⟩:=m2.ins 82 _ Tryz.underlying82 (by unfold maxLen;omega) 132 (.func (.func 79) #[] #[]) (by omega) (by omega)
 have b3:=below_ins b2 (Nat.le_refl _) (Nat.le_refl _) g3
 have hlk:=m3.look 82 _ Tryz.underlying82 (zeroFn0 _) op h0 h1
 change _=Result.ok (ofSumsV op) _ at hlk
 generalize ofSumsV op=V at *
 clear m1 g1 m2 g2 m3 g3
 go_enter Tryz.func55,Tryz.ntmps55
 go_wp2
 go_ret
 exact⟨rfl,b3⟩
def ofTruthsV (op:Int):Value:=if op=167 then fnV 90 else if op=166 then fnV 89 else if op=165 then fnV 88 else if op=164 then fnV 87 else .nilFunc
set_option maxHeartbeats 2000000 in
theorem ofTruths_any (op:Int) (w:World) (h0:0≤op) (h1:op<65536):Calls Tryz.prog 57 #[.int .u16 op] w fun e w'=>e=.returned (ofTruthsV op)∧Below w.heap.size w w':=by
 have hmm:=@run_makeMap Tryz.prog
 obtain⟨w1,r1,m1,g1⟩:=(MapF.made w).ins 82 _ Tryz.underlying82 (by unfold maxLen;omega) 164 (.func (.func 87) #[] #[]) (by omega) (by omega)
 have b1:=below_ins (below_made w) (Nat.le_refl _) (Nat.le_refl _) g1
 obtain⟨w2,r2,m2,g2⟩:=m1.ins 82 _ Tryz.underlying82 (by unfold maxLen;omega) 165 (.func (.func 88) #[] #[]) (by omega) (by omega)
 have b2:=below_ins b1 (Nat.le_refl _) (Nat.le_refl _) g2
 obtain⟨w3,r3,m3,g3⟩:=m2.ins 82 _ Tryz.underlying82 (by unfold maxLen;omega) 166 (.func (.func 89) #[] #[]) (by omega) (by omega)
 have b3:=below_ins b2 (Nat.le_refl _) (Nat.le_refl _) g3
 obtain⟨w4,r4,m4,g4⟩:=m3.ins 82 _ Tryz.underlying82 (by unfold maxLen;omega) 167 (.func (.func 90) #[] #[]) (by omega) (by omega)
 have b4:=below_ins b3 (Nat.le_refl _) (Nat.le_refl _) g4
 have hlk:=m4.look 82 _ Tryz.underlying82 (zeroFn0 _) op h0 h1
 change _=Result.ok (ofTruthsV op) _ at hlk
 generalize ofTruthsV op=V at *
 clear m1 g1 m2 g2 m3 g3 m4 g4
 go_enter Tryz.func57,Tryz.ntmps57
 go_wp2
 go_ret
 exact⟨rfl,b4⟩
def ofGreaterV (op:Int):Value:=if op=175 then fnV 96 else if op=173 then fnV 95 else if op=174 then fnV 94 else if op=172 then fnV 93 else if op=171 then fnV 92 else if op=170 then fnV 91 else .nilFunc
set_option maxHeartbeats 2000000 in
theorem ofGreater_any (op:Int) (w:World) (h0:0≤op) (h1:op<65536):Calls Tryz.prog 58 #[.int .u16 op] w fun e w'=>e=.returned (ofGreaterV op)∧Below w.heap.size w w':=by
 have hmm:=@run_makeMap Tryz.prog
 obtain⟨w1,r1,m1,g1⟩:=(MapF.made w).ins 82 _ Tryz.underlying82 (by unfold maxLen;omega) 170 (.func (.func 91) #[] #[]) (by omega) (by omega)
 have b1:=below_ins (below_made w) (Nat.le_refl _) (Nat.le_refl _) g1
 obtain⟨w2,r2,m2,g2⟩:=m1.ins 82 _ Tryz.underlying82 (by unfold maxLen;omega) 171 (.func (.func 92) #[] #[]) (by omega) (by omega)
 have b2:=below_ins b1 (Nat.le_refl _) (Nat.le_refl _) g2
 obtain⟨w3,r3,m3,g3⟩:=m2.ins 82 _ Tryz.underlying82 (by unfold maxLen;omega) 172 (.func (.func 93) #[] #[]) (by omega) (by omega)
 have b3:=below_ins b2 (Nat.le_refl _) (Nat.le_refl _) g3
 obtain⟨w4,r4,m4,g4⟩:=m3.ins 82 _ Tryz.underlying82 (by unfold maxLen;omega) 174 (.func (.func 94) #[] #[]) (by omega) (by omega)
 have b4:=below_ins b3 (Nat.le_refl _) (Nat.le_refl _) g4
 obtain⟨w5,r5,m5,g5⟩:=m4.ins 82 _ Tryz.underlying82 (by unfold maxLen;omega) 173 (.func (.func 95) #[] #[]) (by omega) (by omega)
 have b5:=below_ins b4 (Nat.le_refl _) (Nat.le_refl _) g5
 obtain⟨w6,r6,m6,g6⟩:=m5.ins 82 _ Tryz.underlying82 (by unfold maxLen;omega) 175 (.func (.func 96) #[] #[]) (by omega) (by omega)
 have b6:=below_ins b5 (Nat.le_refl _) (Nat.le_refl _) g6
 have hlk:=m6.look 82 _ Tryz.underlying82 (zeroFn0 _) op h0 h1
 change _=Result.ok (ofGreaterV op) _ at hlk
 generalize ofGreaterV op=V at *
 clear m1 g1 m2 g2 m3 g3 m4 g4 m5 g5 m6 g6
 go_enter Tryz.func58,Tryz.ntmps58
 go_wp2
 go_ret
 exact⟨rfl,b6⟩
def ofLessV (op:Int):Value:=if op=179 then fnV 100 else if op=177 then fnV 99 else if op=178 then fnV 98 else if op=176 then fnV 97 else .nilFunc
set_option maxHeartbeats 2000000 in
theorem ofLess_any (op:Int) (w:World) (h0:0≤op) (h1:op<65536):Calls Tryz.prog 59 #[.int .u16 op] w fun e w'=>e=.returned (ofLessV op)∧Below w.heap.size w w':=by
 have hmm:=@run_makeMap Tryz.prog
 obtain⟨w1,r1,m1,g1⟩:=(MapF.made w).ins 82 _ Tryz.underlying82 (by unfold maxLen;omega) 176 (.func (.func 97) #[] #[]) (by omega) (by omega)
 have b1:=below_ins (below_made w) (Nat.le_refl _) (Nat.le_refl _) g1
 obtain⟨w2,r2,m2,g2⟩:=m1.ins 82 _ Tryz.underlying82 (by unfold maxLen;omega) 178 (.func (.func 98) #[] #[]) (by omega) (by omega)
 have b2:=below_ins b1 (Nat.le_refl _) (Nat.le_refl _) g2
 obtain⟨w3,r3,m3,g3⟩:=m2.ins 82 _ Tryz.underlying82 (by unfold maxLen;omega) 177 (.func (.func 99) #[] #[]) (by omega) (by omega)
 have b3:=below_ins b2 (Nat.le_refl _) (Nat.le_refl _) g3
 obtain⟨w4,r4,m4,g4⟩:=m3.ins 82 _ Tryz.underlying82 (by unfold maxLen;omega) 179 (.func (.func 100) #[] #[]) (by omega) (by omega)
 have b4:=below_ins b3 (Nat.le_refl _) (Nat.le_refl _) g4
 have hlk:=m4.look 82 _ Tryz.underlying82 (zeroFn0 _) op h0 h1
 change _=Result.ok (ofLessV op) _ at hlk
 generalize ofLessV op=V at *
 clear m1 g1 m2 g2 m3 g3 m4 g4
 go_enter Tryz.func59,Tryz.ntmps59
 go_wp2
 go_ret
 exact⟨rfl,b4⟩
def ofBitsV (op:Int):Value:=if op=199 then fnV 106 else if op=198 then fnV 105 else if op=197 then fnV 104 else if op=196 then fnV 103 else if op=195 then fnV 102 else if op=194 then fnV 101 else .nilFunc
set_option maxHeartbeats 2000000 in
theorem ofBits_any (op:Int) (w:World) (h0:0≤op) (h1:op<65536):Calls Tryz.prog 60 #[.int .u16 op] w fun e w'=>e=.returned (ofBitsV op)∧Below w.heap.size w w':=by
 have hmm:=@run_makeMap Tryz.prog
 obtain⟨w1,r1,m1,g1⟩:=(MapF.made w).ins 82 _ Tryz.underlying82 (by unfold maxLen;omega) 194 (.func (.func 101) #[] #[]) (by omega) (by omega)
 have b1:=below_ins (below_made w) (Nat.le_refl _) (Nat.le_refl _) g1
 obtain⟨w2,r2,m2,g2⟩:=m1.ins 82 _ Tryz.underlying82 (by unfold maxLen;omega) 195 (.func (.func 102) #[] #[]) (by omega) (by omega)
 have b2:=below_ins b1 (Nat.le_refl _) (Nat.le_refl _) g2
 obtain⟨w3,r3,m3,g3⟩:=m2.ins 82 _ Tryz.underlying82 (by unfold maxLen;omega) 196 (.func (.func 103) #[] #[]) (by omega) (by omega)
 have b3:=below_ins b2 (Nat.le_refl _) (Nat.le_refl _) g3
 obtain⟨w4,r4,m4,g4⟩:=m3.ins 82 _ Tryz.underlying82 (by unfold maxLen;omega) 197 (.func (.func 104) #[] #[]) (by omega) (by omega)
 have b4:=below_ins b3 (Nat.le_refl _) (Nat.le_refl _) g4
 obtain⟨w5,r5,m5,g5⟩:=m4.ins 82 _ Tryz.underlying82 (by unfold maxLen;omega) 198 (.func (.func 105) #[] #[]) (by omega) (by omega)
 have b5:=below_ins b4 (Nat.le_refl _) (Nat.le_refl _) g5
 obtain⟨w6,r6,m6,g6⟩:=m5.ins 82 _ Tryz.underlying82 (by unfold maxLen;omega) 199 (.func (.func 106) #[] #[]) (by omega) (by omega)
 have b6:=below_ins b5 (Nat.le_refl _) (Nat.le_refl _) g6
 have hlk:=m6.look 82 _ Tryz.underlying82 (zeroFn0 _) op h0 h1
 change _=Result.ok (ofBitsV op) _ at hlk
 generalize ofBitsV op=V at *
 clear m1 g1 m2 g2 m3 g3 m4 g4 m5 g5 m6 g6
 go_enter Tryz.func60,Tryz.ntmps60
 go_wp2
 go_ret
 exact⟨rfl,b6⟩
theorem zeroFn1 (w:World):(zeroValue 59).run Tryz.prog w=.ok .nilFunc w:=by kernel_rfl
def ofPairV (op:Int):Value:=if op=152 then fnV 43 else if op=151 then fnV 41 else if op=150 then fnV 40 else if op=149 then fnV 39 else .nilFunc
set_option maxHeartbeats 2000000 in
theorem ofPair_any (op:Int) (w:World) (h0:0≤op) (h1:op<65536):Calls Tryz.prog 29 #[.int .u16 op] w fun e w'=>e=.returned (ofPairV op)∧Below w.heap.size w w':=by
 have hmm:=@run_makeMap Tryz.prog
 obtain⟨w1,r1,m1,g1⟩:=(MapF.made w).ins 72 _ Tryz.underlying72 (by unfold maxLen;omega) 149 (.func (.func 39) #[] #[]) (by omega) (by omega)
 have b1:=below_ins (below_made w) (Nat.le_refl _) (Nat.le_refl _) g1
 obtain⟨w2,r2,m2,g2⟩:=m1.ins 72 _ Tryz.underlying72 (by unfold maxLen;omega) 150 (.func (.func 40) #[] #[]) (by omega) (by omega)
 have b2:=below_ins b1 (Nat.le_refl _) (Nat.le_refl _) g2
 obtain⟨w3,r3,m3,g3⟩:=m2.ins 72 _ Tryz.underlying72 (by unfold maxLen;omega) 151 (.func (.func 41) #[] #[]) (by omega) (by omega)
 have b3:=below_ins b2 (Nat.le_refl _) (Nat.le_refl _) g3
 obtain⟨w4,r4,m4,g4⟩:=m3.ins 72 _ Tryz.underlying72 (by unfold maxLen;omega) 152 (.func (.func 43) #[] #[]) (by omega) (by omega)
 have b4:=below_ins b3 (Nat.le_refl _) (Nat.le_refl _) g4
 have hlk:=m4.look 72 _ Tryz.underlying72 (zeroFn1 _) op h0 h1
 change _=Result.ok (ofPairV op) _ at hlk
 generalize ofPairV op=V at *
 clear m1 g1 m2 g2 m3 g3 m4 g4
 go_enter Tryz.func29,Tryz.ntmps29
 go_wp2
 go_ret
 exact⟨rfl,b4⟩
theorem zeroFn2 (w:World):(zeroValue 75).run Tryz.prog w=.ok .nilFunc w:=by kernel_rfl
def ofOneV (op:Int):Value:=if op=124 then fnV 61 else if op=83 then fnV 61 else if op=168 then fnV 68 else if op=205 then fnV 66 else if op=204 then fnV 64 else if op=200 then fnV 63 else if op=126 then fnV 62 else .nilFunc
set_option maxHeartbeats 2000000 in
theorem ofOne_any (op:Int) (w:World) (h0:0≤op) (h1:op<65536):Calls Tryz.prog 46 #[.int .u16 op] w fun e w'=>e=.returned (ofOneV op)∧Below w.heap.size w w':=by
 have hmm:=@run_makeMap Tryz.prog
 obtain⟨w1,r1,m1,g1⟩:=(MapF.made w).ins 78 _ Tryz.underlying78 (by unfold maxLen;omega) 126 (.func (.func 62) #[] #[]) (by omega) (by omega)
 have b1:=below_ins (below_made w) (Nat.le_refl _) (Nat.le_refl _) g1
 obtain⟨w2,r2,m2,g2⟩:=m1.ins 78 _ Tryz.underlying78 (by unfold maxLen;omega) 200 (.func (.func 63) #[] #[]) (by omega) (by omega)
 have b2:=below_ins b1 (Nat.le_refl _) (Nat.le_refl _) g2
 obtain⟨w3,r3,m3,g3⟩:=m2.ins 78 _ Tryz.underlying78 (by unfold maxLen;omega) 204 (.func (.func 64) #[] #[]) (by omega) (by omega)
 have b3:=below_ins b2 (Nat.le_refl _) (Nat.le_refl _) g3
 obtain⟨w4,r4,m4,g4⟩:=m3.ins 78 _ Tryz.underlying78 (by unfold maxLen;omega) 205 (.func (.func 66) #[] #[]) (by omega) (by omega)
 have b4:=below_ins b3 (Nat.le_refl _) (Nat.le_refl _) g4
 obtain⟨w5,r5,m5,g5⟩:=m4.ins 78 _ Tryz.underlying78 (by unfold maxLen;omega) 168 (.func (.func 68) #[] #[]) (by omega) (by omega)
 have b5:=below_ins b4 (Nat.le_refl _) (Nat.le_refl _) g5
 obtain⟨w6,r6,m6,g6⟩:=m5.ins 78 _ Tryz.underlying78 (by unfold maxLen;omega) 83 (.func (.func 61) #[] #[]) (by omega) (by omega)
 have b6:=below_ins b5 (Nat.le_refl _) (Nat.le_refl _) g6
 obtain⟨w7,r7,m7,g7⟩:=m6.ins 78 _ Tryz.underlying78 (by unfold maxLen;omega) 124 (.func (.func 61) #[] #[]) (by omega) (by omega)
 have b7:=below_ins b6 (Nat.le_refl _) (Nat.le_refl _) g7
 have hlk:=m7.look 78 _ Tryz.underlying78 (zeroFn2 _) op h0 h1
 change _=Result.ok (ofOneV op) _ at hlk
 generalize ofOneV op=V at *
 clear m1 g1 m2 g2 m3 g3 m4 g4 m5 g5 m6 g6 m7 g7
 go_enter Tryz.func46,Tryz.ntmps46
 go_wp2
 go_ret
 exact⟨rfl,b7⟩
theorem zeroFn3 (w:World):(zeroValue 62).run Tryz.prog w=.ok .nilFunc w:=by kernel_rfl
def ofMoreV (op:Int):Value:=if op=203 then fnV 75 else if op=202 then fnV 73 else if op=201 then fnV 71 else if op=169 then fnV 69 else .nilFunc
set_option maxHeartbeats 2000000 in
theorem ofMore_any (op:Int) (w:World) (h0:0≤op) (h1:op<65536):Calls Tryz.prog 48 #[.int .u16 op] w fun e w'=>e=.returned (ofMoreV op)∧Below w.heap.size w w':=by
 have hmm:=@run_makeMap Tryz.prog
 obtain⟨w1,r1,m1,g1⟩:=(MapF.made w).ins 81 _ Tryz.underlying81 (by unfold maxLen;omega) 169 (.func (.func 69) #[] #[]) (by omega) (by omega)
 have b1:=below_ins (below_made w) (Nat.le_refl _) (Nat.le_refl _) g1
 obtain⟨w2,r2,m2,g2⟩:=m1.ins 81 _ Tryz.underlying81 (by unfold maxLen;omega) 201 (.func (.func 71) #[] #[]) (by omega) (by omega)
 have b2:=below_ins b1 (Nat.le_refl _) (Nat.le_refl _) g2
 obtain⟨w3,r3,m3,g3⟩:=m2.ins 81 _ Tryz.underlying81 (by unfold maxLen;omega) 202 (.func (.func 73) #[] #[]) (by omega) (by omega)
 have b3:=below_ins b2 (Nat.le_refl _) (Nat.le_refl _) g3
 obtain⟨w4,r4,m4,g4⟩:=m3.ins 81 _ Tryz.underlying81 (by unfold maxLen;omega) 203 (.func (.func 75) #[] #[]) (by omega) (by omega)
 have b4:=below_ins b3 (Nat.le_refl _) (Nat.le_refl _) g4
 have hlk:=m4.look 81 _ Tryz.underlying81 (zeroFn3 _) op h0 h1
 change _=Result.ok (ofMoreV op) _ at hlk
 generalize ofMoreV op=V at *
 clear m1 g1 m2 g2 m3 g3 m4 g4
 go_enter Tryz.func48,Tryz.ntmps48
 go_wp2
 go_ret
 exact⟨rfl,b4⟩
theorem zeroFn4 (w:World):(zeroValue 56).run Tryz.prog w=.ok .nilFunc w:=by kernel_rfl
def ofRowV (op:Int):Value:=if op=155 then fnV 38 else if op=154 then fnV 35 else .nilFunc
set_option maxHeartbeats 2000000 in
theorem ofRow_any (op:Int) (w:World) (h0:0≤op) (h1:op<65536):Calls Tryz.prog 27 #[.int .u16 op] w fun e w'=>e=.returned (ofRowV op)∧Below w.heap.size w w':=by
 have hmm:=@run_makeMap Tryz.prog
 obtain⟨w1,r1,m1,g1⟩:=(MapF.made w).ins 69 _ Tryz.underlying69 (by unfold maxLen;omega) 154 (.func (.func 35) #[] #[]) (by omega) (by omega)
 have b1:=below_ins (below_made w) (Nat.le_refl _) (Nat.le_refl _) g1
 obtain⟨w2,r2,m2,g2⟩:=m1.ins 69 _ Tryz.underlying69 (by unfold maxLen;omega) 155 (.func (.func 38) #[] #[]) (by omega) (by omega)
 have b2:=below_ins b1 (Nat.le_refl _) (Nat.le_refl _) g2
 have hlk:=m2.look 69 _ Tryz.underlying69 (zeroFn4 _) op h0 h1
 change _=Result.ok (ofRowV op) _ at hlk
 generalize ofRowV op=V at *
 clear m1 g1 m2 g2
 go_enter Tryz.func27,Tryz.ntmps27
 go_wp2
 go_ret
 exact⟨rfl,b2⟩
theorem bne_dec (a b:Int):(a != b)=decide (a≠b):=by cases h:(a != b) <;> simp_all
theorem beq_dec (a b:Int):(a==b)=decide (a=b):=by cases h:(a==b) <;> simp_all
theorem word13_any (x:Bool) (w:World):Calls Tryz.prog 36 #[.bool x] w fun e w'=>e=.returned (.int .u32 (b2i x))∧w=w':=by
 cases x
 ·go_enter Tryz.func36,Tryz.ntmps36
  go_wp2
  go_ret
  exact⟨rfl,rfl⟩
 ·go_enter Tryz.func36,Tryz.ntmps36
  go_wp2
  go_ret
  exact⟨rfl,rfl⟩
theorem within_any (op a b:Int) (w:World):Calls Tryz.prog 25 #[.int .u16 op,.int .u16 a,.int .u16 b] w fun e w'=>e=.returned (.bool (decide (a≤op∧op≤b)))∧w=w':=by
 by_cases h1:a≤op
 ·by_cases h2:op≤b
  ·go_enter Tryz.func25,Tryz.ntmps25
   go_wp2
   go_ret
   exact⟨by simp [h1,h2],rfl⟩
  ·go_enter Tryz.func25,Tryz.ntmps25
   go_wp2
   go_ret
   exact⟨by simp [h1,h2],rfl⟩
 ·go_enter Tryz.func25,Tryz.ntmps25
  go_wp2
  go_ret
  exact⟨by simp [show ¬ a≤op by omega],rfl⟩
theorem ofSums1_any (a b:Int) (w:World) (a0:0≤a) (a1:a<4294967296) (b0:0≤b) (b1:b<4294967296):Calls Tryz.prog 77 #[.int .u32 a,.int .u32 b] w fun e w'=>e=.returned (.int .u32 (binV 128 a b))∧w=w':=by
 go_enter Tryz.func77,Tryz.ntmps77
 go_wp2
 go_ret
 exact⟨by simp [binV,bne_dec,beq_dec],rfl⟩
theorem ofSums2_any (a b:Int) (w:World) (a0:0≤a) (a1:a<4294967296) (b0:0≤b) (b1:b<4294967296):Calls Tryz.prog 78 #[.int .u32 a,.int .u32 b] w fun e w'=>e=.returned (.int .u32 (binV 130 a b))∧w=w':=by
 go_enter Tryz.func78,Tryz.ntmps78
 go_wp2
 go_ret
 exact⟨by simp [binV,bne_dec,beq_dec],rfl⟩
theorem ofSums3_any (a b:Int) (w:World) (a0:0≤a) (a1:a<4294967296) (b0:0≤b) (b1:b<4294967296):Calls Tryz.prog 79 #[.int .u32 a,.int .u32 b] w fun e w'=>e=.returned (.int .u32 (binV 132 a b))∧w=w':=by
 go_enter Tryz.func79,Tryz.ntmps79
 go_wp2
 go_ret
 exact⟨by simp [binV,bne_dec,beq_dec],rfl⟩
theorem ofTruths1_any (a b:Int) (w:World) (a0:0≤a) (a1:a<4294967296) (b0:0≤b) (b1:b<4294967296):Calls Tryz.prog 87 #[.int .u32 a,.int .u32 b] w fun e w'=>e=.returned (.int .u32 (binV 164 a b))∧w=w':=by
 by_cases ha:a=0
 ·by_cases hb:b=0
  ·go_enter Tryz.func87,Tryz.ntmps87
   go_wp2_with (go_at_call 36;refine (word13_any _ _).mono ?_;rintro e w' ⟨rfl,rfl⟩)
   go_ret
   exact⟨by simp [binV,bne_dec,beq_dec,ha,hb],rfl⟩
  ·go_enter Tryz.func87,Tryz.ntmps87
   go_wp2_with (go_at_call 36;refine (word13_any _ _).mono ?_;rintro e w' ⟨rfl,rfl⟩)
   go_ret
   exact⟨by simp [binV,bne_dec,beq_dec,ha,hb],rfl⟩
 ·by_cases hb:b=0
  ·go_enter Tryz.func87,Tryz.ntmps87
   go_wp2_with (go_at_call 36;refine (word13_any _ _).mono ?_;rintro e w' ⟨rfl,rfl⟩)
   go_ret
   exact⟨by simp [binV,bne_dec,beq_dec,ha,hb],rfl⟩
  ·go_enter Tryz.func87,Tryz.ntmps87
   go_wp2_with (go_at_call 36;refine (word13_any _ _).mono ?_;rintro e w' ⟨rfl,rfl⟩)
   go_ret
   exact⟨by simp [binV,bne_dec,beq_dec,ha,hb],rfl⟩
theorem ofTruths2_any (a b:Int) (w:World) (a0:0≤a) (a1:a<4294967296) (b0:0≤b) (b1:b<4294967296):Calls Tryz.prog 88 #[.int .u32 a,.int .u32 b] w fun e w'=>e=.returned (.int .u32 (binV 165 a b))∧w=w':=by
 by_cases ha:a=0
 ·by_cases hb:b=0
  ·go_enter Tryz.func88,Tryz.ntmps88
   go_wp2_with (go_at_call 36;refine (word13_any _ _).mono ?_;rintro e w' ⟨rfl,rfl⟩)
   go_ret
   exact⟨by simp [binV,bne_dec,beq_dec,ha,hb],rfl⟩
  ·go_enter Tryz.func88,Tryz.ntmps88
   go_wp2_with (go_at_call 36;refine (word13_any _ _).mono ?_;rintro e w' ⟨rfl,rfl⟩)
   go_ret
   exact⟨by simp [binV,bne_dec,beq_dec,ha,hb],rfl⟩
 ·by_cases hb:b=0
  ·go_enter Tryz.func88,Tryz.ntmps88
   go_wp2_with (go_at_call 36;refine (word13_any _ _).mono ?_;rintro e w' ⟨rfl,rfl⟩)
   go_ret
   exact⟨by simp [binV,bne_dec,beq_dec,ha,hb],rfl⟩
  ·go_enter Tryz.func88,Tryz.ntmps88
   go_wp2_with (go_at_call 36;refine (word13_any _ _).mono ?_;rintro e w' ⟨rfl,rfl⟩)
   go_ret
   exact⟨by simp [binV,bne_dec,beq_dec,ha,hb],rfl⟩
theorem ofTruths3_any (a b:Int) (w:World) (a0:0≤a) (a1:a<4294967296) (b0:0≤b) (b1:b<4294967296):Calls Tryz.prog 89 #[.int .u32 a,.int .u32 b] w fun e w'=>e=.returned (.int .u32 (binV 166 a b))∧w=w':=by
 by_cases ha:a=0
 ·by_cases hb:b=0
  ·go_enter Tryz.func89,Tryz.ntmps89
   go_wp2_with (go_at_call 36;refine (word13_any _ _).mono ?_;rintro e w' ⟨rfl,rfl⟩)
   go_ret
   exact⟨by simp [binV,bne_dec,beq_dec,ha,hb],rfl⟩
  ·go_enter Tryz.func89,Tryz.ntmps89
   go_wp2_with (go_at_call 36;refine (word13_any _ _).mono ?_;rintro e w' ⟨rfl,rfl⟩)
   go_ret
   exact⟨by simp [binV,bne_dec,beq_dec,ha,hb],rfl⟩
 ·by_cases hb:b=0
  ·go_enter Tryz.func89,Tryz.ntmps89
   go_wp2_with (go_at_call 36;refine (word13_any _ _).mono ?_;rintro e w' ⟨rfl,rfl⟩)
   go_ret
   exact⟨by simp [binV,bne_dec,beq_dec,ha,hb],rfl⟩
  ·go_enter Tryz.func89,Tryz.ntmps89
   go_wp2_with (go_at_call 36;refine (word13_any _ _).mono ?_;rintro e w' ⟨rfl,rfl⟩)
   go_ret
   exact⟨by simp [binV,bne_dec,beq_dec,ha,hb],rfl⟩
theorem ofTruths4_any (a b:Int) (w:World) (a0:0≤a) (a1:a<4294967296) (b0:0≤b) (b1:b<4294967296):Calls Tryz.prog 90 #[.int .u32 a,.int .u32 b] w fun e w'=>e=.returned (.int .u32 (binV 167 a b))∧w=w':=by
 by_cases ha:a=0
 ·by_cases hb:b=0
  ·go_enter Tryz.func90,Tryz.ntmps90
   go_wp2_with (go_at_call 36;refine (word13_any _ _).mono ?_;rintro e w' ⟨rfl,rfl⟩)
   go_ret
   exact⟨by simp [binV,bne_dec,beq_dec,ha,hb],rfl⟩
  ·go_enter Tryz.func90,Tryz.ntmps90
   go_wp2_with (go_at_call 36;refine (word13_any _ _).mono ?_;rintro e w' ⟨rfl,rfl⟩)
   go_ret
   exact⟨by simp [binV,bne_dec,beq_dec,ha,hb],rfl⟩
 ·by_cases hb:b=0
  ·go_enter Tryz.func90,Tryz.ntmps90
   go_wp2_with (go_at_call 36;refine (word13_any _ _).mono ?_;rintro e w' ⟨rfl,rfl⟩)
   go_ret
   exact⟨by simp [binV,bne_dec,beq_dec,ha,hb],rfl⟩
  ·go_enter Tryz.func90,Tryz.ntmps90
   go_wp2_with (go_at_call 36;refine (word13_any _ _).mono ?_;rintro e w' ⟨rfl,rfl⟩)
   go_ret
   exact⟨by simp [binV,bne_dec,beq_dec,ha,hb],rfl⟩
theorem ofGreater1_any (a b:Int) (w:World) (a0:0≤a) (a1:a<4294967296) (b0:0≤b) (b1:b<4294967296):Calls Tryz.prog 91 #[.int .u32 a,.int .u32 b] w fun e w'=>e=.returned (.int .u32 (binV 170 a b))∧w=w':=by
 go_enter Tryz.func91,Tryz.ntmps91
 go_wp2_with (go_at_call 36;refine (word13_any _ _).mono ?_;rintro e w' ⟨rfl,rfl⟩)
 go_ret
 exact⟨by simp [binV,bne_dec,beq_dec],rfl⟩
theorem ofGreater2_any (a b:Int) (w:World) (a0:0≤a) (a1:a<4294967296) (b0:0≤b) (b1:b<4294967296):Calls Tryz.prog 92 #[.int .u32 a,.int .u32 b] w fun e w'=>e=.returned (.int .u32 (binV 171 a b))∧w=w':=by
 go_enter Tryz.func92,Tryz.ntmps92
 go_wp2_with (go_at_call 36;refine (word13_any _ _).mono ?_;rintro e w' ⟨rfl,rfl⟩)
 go_ret
 exact⟨by simp [binV,bne_dec,beq_dec],rfl⟩
theorem ofGreater3_any (a b:Int) (w:World) (a0:0≤a) (a1:a<4294967296) (b0:0≤b) (b1:b<4294967296):Calls Tryz.prog 93 #[.int .u32 a,.int .u32 b] w fun e w'=>e=.returned (.int .u32 (binV 172 a b))∧w=w':=by
 go_enter Tryz.func93,Tryz.ntmps93
 go_wp2_with (go_at_call 36;refine (word13_any _ _).mono ?_;rintro e w' ⟨rfl,rfl⟩)
 go_ret
 exact⟨by simp [binV,bne_dec,beq_dec],rfl⟩
theorem ofGreater4_any (a b:Int) (w:World) (a0:0≤a) (a1:a<4294967296) (b0:0≤b) (b1:b<4294967296):Calls Tryz.prog 94 #[.int .u32 a,.int .u32 b] w fun e w'=>e=.returned (.int .u32 (binV 174 a b))∧w=w':=by
 go_enter Tryz.func94,Tryz.ntmps94
 go_wp2_with (go_at_call 36;refine (word13_any _ _).mono ?_;rintro e w' ⟨rfl,rfl⟩)
 go_ret
 exact⟨by simp [binV,bne_dec,beq_dec],rfl⟩
theorem ofGreater5_any (a b:Int) (w:World) (a0:0≤a) (a1:a<4294967296) (b0:0≤b) (b1:b<4294967296):Calls Tryz.prog 95 #[.int .u32 a,.int .u32 b] w fun e w'=>e=.returned (.int .u32 (binV 173 a b))∧w=w':=by
 go_enter Tryz.func95,Tryz.ntmps95
 go_wp2_with (go_at_call 36;refine (word13_any _ _).mono ?_;rintro e w' ⟨rfl,rfl⟩)
 go_ret
 exact⟨by simp [binV,bne_dec,beq_dec],rfl⟩
theorem ofGreater6_any (a b:Int) (w:World) (a0:0≤a) (a1:a<4294967296) (b0:0≤b) (b1:b<4294967296):Calls Tryz.prog 96 #[.int .u32 a,.int .u32 b] w fun e w'=>e=.returned (.int .u32 (binV 175 a b))∧w=w':=by
 go_enter Tryz.func96,Tryz.ntmps96
 go_wp2_with (go_at_call 36;refine (word13_any _ _).mono ?_;rintro e w' ⟨rfl,rfl⟩)
 go_ret
 exact⟨by simp [binV,bne_dec,beq_dec],rfl⟩
theorem ofLess1_any (a b:Int) (w:World) (a0:0≤a) (a1:a<4294967296) (b0:0≤b) (b1:b<4294967296):Calls Tryz.prog 97 #[.int .u32 a,.int .u32 b] w fun e w'=>e=.returned (.int .u32 (binV 176 a b))∧w=w':=by
 go_enter Tryz.func97,Tryz.ntmps97
 go_wp2_with (go_at_call 36;refine (word13_any _ _).mono ?_;rintro e w' ⟨rfl,rfl⟩)
 go_ret
 exact⟨by simp [binV,bne_dec,beq_dec],rfl⟩
theorem ofLess2_any (a b:Int) (w:World) (a0:0≤a) (a1:a<4294967296) (b0:0≤b) (b1:b<4294967296):Calls Tryz.prog 98 #[.int .u32 a,.int .u32 b] w fun e w'=>e=.returned (.int .u32 (binV 178 a b))∧w=w':=by
 go_enter Tryz.func98,Tryz.ntmps98
 go_wp2_with (go_at_call 36;refine (word13_any _ _).mono ?_;rintro e w' ⟨rfl,rfl⟩)
 go_ret
 exact⟨by simp [binV,bne_dec,beq_dec],rfl⟩
theorem ofLess3_any (a b:Int) (w:World) (a0:0≤a) (a1:a<4294967296) (b0:0≤b) (b1:b<4294967296):Calls Tryz.prog 99 #[.int .u32 a,.int .u32 b] w fun e w'=>e=.returned (.int .u32 (binV 177 a b))∧w=w':=by
 go_enter Tryz.func99,Tryz.ntmps99
 go_wp2_with (go_at_call 36;refine (word13_any _ _).mono ?_;rintro e w' ⟨rfl,rfl⟩)
 go_ret
 exact⟨by simp [binV,bne_dec,beq_dec],rfl⟩
theorem ofLess4_any (a b:Int) (w:World) (a0:0≤a) (a1:a<4294967296) (b0:0≤b) (b1:b<4294967296):Calls Tryz.prog 100 #[.int .u32 a,.int .u32 b] w fun e w'=>e=.returned (.int .u32 (binV 179 a b))∧w=w':=by
 go_enter Tryz.func100,Tryz.ntmps100
 go_wp2_with (go_at_call 36;refine (word13_any _ _).mono ?_;rintro e w' ⟨rfl,rfl⟩)
 go_ret
 exact⟨by simp [binV,bne_dec,beq_dec],rfl⟩
theorem ofBits1_any (a b:Int) (w:World) (a0:0≤a) (a1:a<4294967296) (b0:0≤b) (b1:b<4294967296):Calls Tryz.prog 101 #[.int .u32 a,.int .u32 b] w fun e w'=>e=.returned (.int .u32 (binV 194 a b))∧w=w':=by
 go_enter Tryz.func101,Tryz.ntmps101
 go_wp2
 go_ret
 exact⟨by simp [binV,bne_dec,beq_dec],rfl⟩
theorem ofBits2_any (a b:Int) (w:World) (a0:0≤a) (a1:a<4294967296) (b0:0≤b) (b1:b<4294967296):Calls Tryz.prog 102 #[.int .u32 a,.int .u32 b] w fun e w'=>e=.returned (.int .u32 (binV 195 a b))∧w=w':=by
 go_enter Tryz.func102,Tryz.ntmps102
 go_wp2
 go_ret
 exact⟨by simp [binV,bne_dec,beq_dec],rfl⟩
theorem ofBits3_any (a b:Int) (w:World) (a0:0≤a) (a1:a<4294967296) (b0:0≤b) (b1:b<4294967296):Calls Tryz.prog 103 #[.int .u32 a,.int .u32 b] w fun e w'=>e=.returned (.int .u32 (binV 196 a b))∧w=w':=by
 go_enter Tryz.func103,Tryz.ntmps103
 go_wp2
 go_ret
 exact⟨by simp [binV,bne_dec,beq_dec],rfl⟩
theorem ofBits4_any (a b:Int) (w:World) (a0:0≤a) (a1:a<4294967296) (b0:0≤b) (b1:b<4294967296):Calls Tryz.prog 104 #[.int .u32 a,.int .u32 b] w fun e w'=>e=.returned (.int .u32 (binV 197 a b))∧w=w':=by
 go_enter Tryz.func104,Tryz.ntmps104
 go_wp2
 go_ret
 exact⟨by simp [binV,bne_dec,beq_dec],rfl⟩
theorem ofBits5_any (a b:Int) (w:World) (a0:0≤a) (a1:a<4294967296) (b0:0≤b) (b1:b<4294967296):Calls Tryz.prog 105 #[.int .u32 a,.int .u32 b] w fun e w'=>e=.returned (.int .u32 (binV 198 a b))∧w=w':=by
 go_enter Tryz.func105,Tryz.ntmps105
 go_wp2
 go_ret
 exact⟨by simp [binV,bne_dec,beq_dec],rfl⟩
theorem ofBits6_any (a b:Int) (w:World) (a0:0≤a) (a1:a<4294967296) (b0:0≤b) (b1:b<4294967296):Calls Tryz.prog 106 #[.int .u32 a,.int .u32 b] w fun e w'=>e=.returned (.int .u32 (binV 199 a b))∧w=w':=by
 go_enter Tryz.func106,Tryz.ntmps106
 go_wp2
 go_ret
 exact⟨by simp [binV,bne_dec,beq_dec],rfl⟩
theorem ofQuotients1_any (a b:Int) (w:World) (a0:0≤a) (a1:a<4294967296) (b0:0≤b) (b1:b<4294967296) (hb:b≠0):Calls Tryz.prog 80 #[.int .u32 a,.int .u32 b] w fun e w'=>e=.returned (.int .u32 (binV 134 a b))∧w=w':=by
 have hs:=wrap_zero b b0 b1 hb
 have hI:=wrap_in a
 have hJ:=wrap_in b
 go_enter Tryz.func80,Tryz.ntmps80
 go_wp2
 go_ret
 exact⟨by simp [binV,hb],rfl⟩
theorem ofQuotients2_any (a b:Int) (w:World) (a0:0≤a) (a1:a<4294967296) (b0:0≤b) (b1:b<4294967296) (hb:b≠0):Calls Tryz.prog 81 #[.int .u32 a,.int .u32 b] w fun e w'=>e=.returned (.int .u32 (binV 137 a b))∧w=w':=by
 have hs:=wrap_zero b b0 b1 hb
 have hI:=wrap_in a
 have hJ:=wrap_in b
 go_enter Tryz.func81,Tryz.ntmps81
 go_wp2
 go_ret
 exact⟨by simp [binV,hb],rfl⟩
theorem ofQuotients3_any (a b:Int) (w:World) (a0:0≤a) (a1:a<4294967296) (b0:0≤b) (b1:b<4294967296) (hb:b≠0):Calls Tryz.prog 82 #[.int .u32 a,.int .u32 b] w fun e w'=>e=.returned (.int .u32 (binV 135 a b))∧w=w':=by
 have hs:=wrap_zero b b0 b1 hb
 have hI:=wrap_in a
 have hJ:=wrap_in b
 go_enter Tryz.func82,Tryz.ntmps82
 go_wp2
 go_ret
 exact⟨by simp [binV,hb,wrap_mod],rfl⟩
theorem ofQuotients4_any (a b:Int) (w:World) (a0:0≤a) (a1:a<4294967296) (b0:0≤b) (b1:b<4294967296) (hb:b≠0):Calls Tryz.prog 83 #[.int .u32 a,.int .u32 b] w fun e w'=>e=.returned (.int .u32 (binV 138 a b))∧w=w':=by
 have hs:=wrap_zero b b0 b1 hb
 have hI:=wrap_in a
 have hJ:=wrap_in b
 go_enter Tryz.func83,Tryz.ntmps83
 go_wp2
 go_ret
 exact⟨by simp [binV,hb],rfl⟩
theorem floored_any (s t:Int) (w:World) (s0:-2147483648≤s) (s1:s<2147483648) (t0:-2147483648≤t) (t1:t<2147483648) (ht:t≠0):Calls Tryz.prog 85 #[.int .i32 s,.int .i32 t] w fun e w'=>e=.returned (.int .i32 (flo s t))∧w=w':=by
 have hm:=tmod_in s t ht
 have hm2:s.tmod t<2147483648∧-2147483648≤s.tmod t:=by omega
 clear hm
 by_cases h1:s.tmod t=0
 ·go_enter Tryz.func85,Tryz.ntmps85
  go_wp2
  go_ret
  exact⟨by simp [flo,h1],rfl⟩
 ·by_cases h3:t<0
  ·by_cases h4:s.tmod t<0
   ·skip
    go_enter Tryz.func85,Tryz.ntmps85
    go_wp2
    go_ret
    exact⟨by simp [flo,h1,h3,h4],rfl⟩
   ·have hw:wrap32 (s.tmod t+t)=s.tmod t+t:=by unfold wrap32;omega
    go_enter Tryz.func85,Tryz.ntmps85
    go_wp2
    go_ret
    exact⟨by simp [flo,h1,h3,show ¬ s.tmod t<0 by omega,hw],rfl⟩
  ·by_cases h4:s.tmod t<0
   ·have hw:wrap32 (s.tmod t+t)=s.tmod t+t:=by unfold wrap32;omega
    go_enter Tryz.func85,Tryz.ntmps85
    go_wp2
    go_ret
    exact⟨by simp [flo,h1,show ¬ t<0 by omega,h4,hw],rfl⟩
   ·skip
    go_enter Tryz.func85,Tryz.ntmps85
    go_wp2
    go_ret
    exact⟨by simp [flo,h1,show ¬ t<0 by omega,show ¬ s.tmod t<0 by omega],rfl⟩
theorem ofQuotients5_any (a b:Int) (w:World) (a0:0≤a) (a1:a<4294967296) (b0:0≤b) (b1:b<4294967296) (hb:b≠0):Calls Tryz.prog 84 #[.int .u32 a,.int .u32 b] w fun e w'=>e=.returned (.int .u32 (binV 139 a b))∧w=w':=by
 have hs:=wrap_zero b b0 b1 hb
 have hI:=wrap_in a
 have hJ:=wrap_in b
 go_enter Tryz.func84,Tryz.ntmps84
 go_wp2_with (go_at_call 85;refine (floored_any _ _ _ hI.1 hI.2 hJ.1 hJ.2 hs).mono ?_;rintro e w' ⟨rfl,rfl⟩)
 go_ret
 exact⟨by simp [binV,hb],rfl⟩
def quoV (op:Int):Value:=if op=139 then fnV 84 else if op=138 then fnV 83 else if op=135 then fnV 82 else if op=137 then fnV 81 else if op=134 then fnV 80 else .nilFunc
set_option maxHeartbeats 2000000 in
theorem ofQuotients_any (op:Int) (w:World) (h0:0≤op) (h1:op<65536):Calls Tryz.prog 56 #[.int .u16 op] w fun e w'=>((quoV op=.nilFunc∧e=.returned .nilFunc)∨∃ p n,quoV op=.func (.func n) #[] #[]∧e=.returned (.func (.func 86) #[] #[.pointer (some ⟨p,0,none⟩)])∧p<w'.heap.size∧w'.cell? ⟨p,0,none⟩=some (quoV op))∧Below w.heap.size w w':=by
 have hmm:=@run_makeMap Tryz.prog
 obtain⟨w1,r1,m1,g1⟩:=(MapF.made w).ins 82 _ Tryz.underlying82 (by unfold maxLen;omega) 134 (.func (.func 80) #[] #[]) (by omega) (by omega)
 have b1:=below_ins (below_made w) (Nat.le_refl _) (Nat.le_refl _) g1
 obtain⟨w2,r2,m2,g2⟩:=m1.ins 82 _ Tryz.underlying82 (by unfold maxLen;omega) 137 (.func (.func 81) #[] #[]) (by omega) (by omega)
 have b2:=below_ins b1 (Nat.le_refl _) (Nat.le_refl _) g2
 obtain⟨w3,r3,m3,g3⟩:=m2.ins 82 _ Tryz.underlying82 (by unfold maxLen;omega) 135 (.func (.func 82) #[] #[]) (by omega) (by omega)
 have b3:=below_ins b2 (Nat.le_refl _) (Nat.le_refl _) g3
 obtain⟨w4,r4,m4,g4⟩:=m3.ins 82 _ Tryz.underlying82 (by unfold maxLen;omega) 138 (.func (.func 83) #[] #[]) (by omega) (by omega)
 have b4:=below_ins b3 (Nat.le_refl _) (Nat.le_refl _) g4
 obtain⟨w5,r5,m5,g5⟩:=m4.ins 82 _ Tryz.underlying82 (by unfold maxLen;omega) 139 (.func (.func 84) #[] #[]) (by omega) (by omega)
 have b5:=below_ins b4 (Nat.le_refl _) (Nat.le_refl _) g5
 have hlk:=m5.look 82 _ Tryz.underlying82 (zeroFn0 _) op h0 h1
 change _=Result.ok (quoV op) _ at hlk
 have hc:quoV op=.nilFunc∨∃ n,quoV op=.func (.func n) #[] #[]:=by
  unfold quoV
  repeat' split
  all_goals first | exact .inr ⟨_,rfl⟩ | exact .inl rfl
 generalize quoV op=V at *
 clear m1 m2 m3 m4 m5 g1 g2 g3 g4 g5 b1 b2 b3 b4
 have hE:=nilzeroFn0
 have hE2:=somezeroFn0
 rcases hc with rfl | ⟨n,rfl⟩
 ·go_enter Tryz.func56,Tryz.ntmps56
  go_wp2
  go_ret
  exact⟨.inl ⟨by first | rfl | trivial,rfl⟩,(b5.alloc b5.size _)⟩
 ·go_enter Tryz.func56,Tryz.ntmps56
  go_wp2
  go_ret
  refine⟨.inr ⟨_,_,rfl,rfl,?_,?_⟩,(b5.alloc b5.size _)⟩
  ·simp
  ·simp
def Enters (n:Nat):Prop:=∀ (args:Array Value) (w:World),(callFunc n args).run Tryz.prog w=.ok (.enter n args) w
def TwoN (op:Int) (n:Nat):Prop:=Enters n∧∀ (a b:Int) (W:World),0≤a→a<4294967296→0≤b→b<4294967296→Calls Tryz.prog n #[.int .u32 a,.int .u32 b] W fun e w'=>e=.returned (.int .u32 (binV op a b))∧W=w'
def TwoD (op:Int) (n:Nat):Prop:=Enters n∧∀ (a b:Int) (W:World),0≤a→a<4294967296→0≤b→b<4294967296→b≠0→Calls Tryz.prog n #[.int .u32 a,.int .u32 b] W fun e w'=>e=.returned (.int .u32 (binV op a b))∧W=w'
def TwoQ (op:Int) (v:Value) (w':World):Prop :=
 (binB op=false∧binV op=(fun _ _=>0)∧v=.nilFunc)∨(∃ n,v=.func (.func n) #[] #[]∧binB op=true∧TwoN op n)∨∃ p n,v=.func (.func 86) #[] #[.pointer (some ⟨p,0,none⟩)]∧binB op=true∧p<w'.heap.size∧w'.cell? ⟨p,0,none⟩=some (.func (.func n) #[] #[])∧TwoD op n∧∀ a,binV op a 0=0
theorem TwoQ.none {op:Int} {w':World} (h:∀ x∈binOps,op≠x):TwoQ op .nilFunc w':=by
 refine .inl ⟨?_,?_,rfl⟩
 ·unfold binB
  rw [Bool.eq_false_iff]
  intro e
  exact h op (by simpa using e) rfl
 ·funext a b
  simp only [binOps,List.mem_cons,List.not_mem_nil,or_false,forall_eq_or_imp,forall_eq] at h
  obtain⟨h1,h2,h3,h4,h5,h6,h7,h8,h9,h10,h11,h12,h13,h14,h15,h16,h17,h18,h19,h20,h21,h22,h23,h24,h25,h26,h27,h28⟩:=h
  simp only [binV,h1,h2,h3,h4,h5,h6,h7,h8,h9,h10,h11,h12,h13,h14,h15,h16,h17,h18,h19,h20,h21,h22,h23,h24,h25,h26,h27,h28,if_false]
theorem ofSumsV_q (op:Int) (w':World) (h:128≤op∧op≤132):TwoQ op (ofSumsV op) w':=by
 by_cases e128:op=128
 ·subst e128;exact .inr (.inl ⟨77,rfl,rfl,Tryz.call77,fun a b W=>ofSums1_any a b W⟩)
 by_cases e130:op=130
 ·subst e130;exact .inr (.inl ⟨78,rfl,rfl,Tryz.call78,fun a b W=>ofSums2_any a b W⟩)
 by_cases e132:op=132
 ·subst e132;exact .inr (.inl ⟨79,rfl,rfl,Tryz.call79,fun a b W=>ofSums3_any a b W⟩)
 rw [show ofSumsV op=.nilFunc by simp [ofSumsV,e128,e130,e132]]
 exact TwoQ.none (by simp only [binOps,List.mem_cons,List.not_mem_nil,or_false,forall_eq_or_imp,forall_eq];omega)
theorem ofTruthsV_q (op:Int) (w':World) (h:164≤op∧op≤167):TwoQ op (ofTruthsV op) w':=by
 by_cases e164:op=164
 ·subst e164;exact .inr (.inl ⟨87,rfl,rfl,Tryz.call87,fun a b W=>ofTruths1_any a b W⟩)
 by_cases e165:op=165
 ·subst e165;exact .inr (.inl ⟨88,rfl,rfl,Tryz.call88,fun a b W=>ofTruths2_any a b W⟩)
 by_cases e166:op=166
 ·subst e166;exact .inr (.inl ⟨89,rfl,rfl,Tryz.call89,fun a b W=>ofTruths3_any a b W⟩)
 by_cases e167:op=167
 ·subst e167;exact .inr (.inl ⟨90,rfl,rfl,Tryz.call90,fun a b W=>ofTruths4_any a b W⟩)
 rw [show ofTruthsV op=.nilFunc by simp [ofTruthsV,e164,e165,e166,e167]]
 exact TwoQ.none (by simp only [binOps,List.mem_cons,List.not_mem_nil,or_false,forall_eq_or_imp,forall_eq];omega)
theorem ofGreaterV_q (op:Int) (w':World) (h:170≤op∧op≤175):TwoQ op (ofGreaterV op) w':=by
 by_cases e170:op=170
 ·subst e170;exact .inr (.inl ⟨91,rfl,rfl,Tryz.call91,fun a b W=>ofGreater1_any a b W⟩)
 by_cases e171:op=171
 ·subst e171;exact .inr (.inl ⟨92,rfl,rfl,Tryz.call92,fun a b W=>ofGreater2_any a b W⟩)
 by_cases e172:op=172
 ·subst e172;exact .inr (.inl ⟨93,rfl,rfl,Tryz.call93,fun a b W=>ofGreater3_any a b W⟩)
 by_cases e174:op=174
 ·subst e174;exact .inr (.inl ⟨94,rfl,rfl,Tryz.call94,fun a b W=>ofGreater4_any a b W⟩)
 by_cases e173:op=173
 ·subst e173;exact .inr (.inl ⟨95,rfl,rfl,Tryz.call95,fun a b W=>ofGreater5_any a b W⟩)
 by_cases e175:op=175
 ·subst e175;exact .inr (.inl ⟨96,rfl,rfl,Tryz.call96,fun a b W=>ofGreater6_any a b W⟩)
 rw [show ofGreaterV op=.nilFunc by simp [ofGreaterV,e170,e171,e172,e174,e173,e175]]
 exact TwoQ.none (by simp only [binOps,List.mem_cons,List.not_mem_nil,or_false,forall_eq_or_imp,forall_eq];omega)
theorem ofLessV_q (op:Int) (w':World) (h:176≤op∧op≤179):TwoQ op (ofLessV op) w':=by
 by_cases e176:op=176
 ·subst e176;exact .inr (.inl ⟨97,rfl,rfl,Tryz.call97,fun a b W=>ofLess1_any a b W⟩)
 by_cases e178:op=178
 ·subst e178;exact .inr (.inl ⟨98,rfl,rfl,Tryz.call98,fun a b W=>ofLess2_any a b W⟩)
 by_cases e177:op=177
 ·subst e177;exact .inr (.inl ⟨99,rfl,rfl,Tryz.call99,fun a b W=>ofLess3_any a b W⟩)
 by_cases e179:op=179
 ·subst e179;exact .inr (.inl ⟨100,rfl,rfl,Tryz.call100,fun a b W=>ofLess4_any a b W⟩)
 rw [show ofLessV op=.nilFunc by simp [ofLessV,e176,e178,e177,e179]]
 exact TwoQ.none (by simp only [binOps,List.mem_cons,List.not_mem_nil,or_false,forall_eq_or_imp,forall_eq];omega)
theorem ofBitsV_q (op:Int) (w':World) (h:194≤op∧op≤199):TwoQ op (ofBitsV op) w':=by
 by_cases e194:op=194
 ·subst e194;exact .inr (.inl ⟨101,rfl,rfl,Tryz.call101,fun a b W=>ofBits1_any a b W⟩)
 by_cases e195:op=195
 ·subst e195;exact .inr (.inl ⟨102,rfl,rfl,Tryz.call102,fun a b W=>ofBits2_any a b W⟩)
 by_cases e196:op=196
 ·subst e196;exact .inr (.inl ⟨103,rfl,rfl,Tryz.call103,fun a b W=>ofBits3_any a b W⟩)
 by_cases e197:op=197
 ·subst e197;exact .inr (.inl ⟨104,rfl,rfl,Tryz.call104,fun a b W=>ofBits4_any a b W⟩)
 by_cases e198:op=198
 ·subst e198;exact .inr (.inl ⟨105,rfl,rfl,Tryz.call105,fun a b W=>ofBits5_any a b W⟩)
 by_cases e199:op=199
 ·subst e199;exact .inr (.inl ⟨106,rfl,rfl,Tryz.call106,fun a b W=>ofBits6_any a b W⟩)
 rw [show ofBitsV op=.nilFunc by simp [ofBitsV,e194,e195,e196,e197,e198,e199]]
 exact TwoQ.none (by simp only [binOps,List.mem_cons,List.not_mem_nil,or_false,forall_eq_or_imp,forall_eq];omega)
theorem quoV_q (op:Int) (w':World) (v:Value) (h:134≤op∧op≤139) (hq:(quoV op=.nilFunc∧v=.nilFunc)∨∃ p n,quoV op=.func (.func n) #[] #[]∧v=.func (.func 86) #[] #[.pointer (some ⟨p,0,none⟩)]∧p<w'.heap.size∧w'.cell? ⟨p,0,none⟩=some (quoV op)):TwoQ op v w':=by
 by_cases e134:op=134
 ·subst e134
  rcases hq with ⟨h1,_⟩ | ⟨p,n,h1,rfl,h3,h4⟩
  ·cases h1
  ·rw [h1] at h4
   have en:n=80:=by
    have:quoV 134=fnV 80:=rfl
    rw [this] at h1
    injection h1 with h1
    injection h1 with h1
    exact h1.symm
   subst en
   exact .inr (.inr ⟨p,_,rfl,rfl,h3,h4,⟨Tryz.call80,fun a b W=>ofQuotients1_any a b W⟩,fun a=>by simp [binV]⟩)
 by_cases e137:op=137
 ·subst e137
  rcases hq with ⟨h1,_⟩ | ⟨p,n,h1,rfl,h3,h4⟩
  ·cases h1
  ·rw [h1] at h4
   have en:n=81:=by
    have:quoV 137=fnV 81:=rfl
    rw [this] at h1
    injection h1 with h1
    injection h1 with h1
    exact h1.symm
   subst en
   exact .inr (.inr ⟨p,_,rfl,rfl,h3,h4,⟨Tryz.call81,fun a b W=>ofQuotients2_any a b W⟩,fun a=>by simp [binV]⟩)
 by_cases e135:op=135
 ·subst e135
  rcases hq with ⟨h1,_⟩ | ⟨p,n,h1,rfl,h3,h4⟩
  ·cases h1
  ·rw [h1] at h4
   have en:n=82:=by
    have:quoV 135=fnV 82:=rfl
    rw [this] at h1
    injection h1 with h1
    injection h1 with h1
    exact h1.symm
   subst en
   exact .inr (.inr ⟨p,_,rfl,rfl,h3,h4,⟨Tryz.call82,fun a b W=>ofQuotients3_any a b W⟩,fun a=>by simp [binV]⟩)
 by_cases e138:op=138
 ·subst e138
  rcases hq with ⟨h1,_⟩ | ⟨p,n,h1,rfl,h3,h4⟩
  ·cases h1
  ·rw [h1] at h4
   have en:n=83:=by
    have:quoV 138=fnV 83:=rfl
    rw [this] at h1
    injection h1 with h1
    injection h1 with h1
    exact h1.symm
   subst en
   exact .inr (.inr ⟨p,_,rfl,rfl,h3,h4,⟨Tryz.call83,fun a b W=>ofQuotients4_any a b W⟩,fun a=>by simp [binV]⟩)
 by_cases e139:op=139
 ·subst e139
  rcases hq with ⟨h1,_⟩ | ⟨p,n,h1,rfl,h3,h4⟩
  ·cases h1
  ·rw [h1] at h4
   have en:n=84:=by
    have:quoV 139=fnV 84:=rfl
    rw [this] at h1
    injection h1 with h1
    injection h1 with h1
    exact h1.symm
   subst en
   exact .inr (.inr ⟨p,_,rfl,rfl,h3,h4,⟨Tryz.call84,fun a b W=>ofQuotients5_any a b W⟩,fun a=>by simp [binV]⟩)
 have e0:quoV op=.nilFunc:=by simp [quoV,e134,e137,e135,e138,e139]
 rcases hq with ⟨_,rfl⟩ | ⟨p,n,h1,_⟩
 ·exact TwoQ.none (by simp only [binOps,List.mem_cons,List.not_mem_nil,or_false,forall_eq_or_imp,forall_eq];omega)
 ·rw [e0] at h1;cases h1
set_option maxHeartbeats 4000000 in
theorem ofTwo_any (op:Int) (w:World) (h0:0≤op) (h1:op<65536):Calls Tryz.prog 44 #[.int .u16 op] w fun e w'=>∃ v,e=.returned v∧TwoQ op v w'∧Below w.heap.size w w':=by
 by_cases c0:128≤op∧op≤132
 ·have d0:decide (128≤op∧op≤132)=true:=by simp;omega
  go_enter Tryz.func44,Tryz.ntmps44
  go_wp2_with (go_at_call 25;refine (within_any _ _ _ _).mono ?_;rintro e w' ⟨rfl,rfl⟩;first | rw [d0])
  refine (ofSums_any op _ h0 h1).mono ?_
  rintro e w' ⟨rfl,hb⟩
  have hv:=ofSumsV_q op w' c0
  generalize ofSumsV op=v at *
  go_wp2
  go_ret
  exact⟨_,rfl,hv,hb⟩
 by_cases c1:134≤op∧op≤139
 ·have d0:decide (128≤op∧op≤132)=false:=by simp;omega
  have d1:decide (134≤op∧op≤139)=true:=by simp;omega
  go_enter Tryz.func44,Tryz.ntmps44
  go_wp2_with (go_at_call 25;refine (within_any _ _ _ _).mono ?_;rintro e w' ⟨rfl,rfl⟩;first | rw [d0] | rw [d1])
  refine (ofQuotients_any op _ h0 h1).mono ?_
  rintro e w' ⟨hq,hb⟩
  have hv:∃ v,e=.returned v∧TwoQ op v w':=by
   rcases hq with ⟨q1,rfl⟩ | ⟨p,n,q1,rfl,q3,q4⟩
   ·exact⟨_,rfl,quoV_q op w' _ c1 (.inl ⟨q1,rfl⟩)⟩
   ·exact⟨_,rfl,quoV_q op w' _ c1 (.inr ⟨p,n,q1,rfl,q3,q4⟩)⟩
  obtain⟨v,rfl,hv⟩:=hv
  go_wp2
  go_ret
  exact⟨_,rfl,hv,hb⟩
 by_cases c2:164≤op∧op≤167
 ·have d0:decide (128≤op∧op≤132)=false:=by simp;omega
  have d1:decide (134≤op∧op≤139)=false:=by simp;omega
  have d2:decide (164≤op∧op≤167)=true:=by simp;omega
  go_enter Tryz.func44,Tryz.ntmps44
  go_wp2_with (go_at_call 25;refine (within_any _ _ _ _).mono ?_;rintro e w' ⟨rfl,rfl⟩;first | rw [d0] | rw [d1] | rw [d2])
  refine (ofTruths_any op _ h0 h1).mono ?_
  rintro e w' ⟨rfl,hb⟩
  have hv:=ofTruthsV_q op w' c2
  generalize ofTruthsV op=v at *
  go_wp2
  go_ret
  exact⟨_,rfl,hv,hb⟩
 by_cases c3:170≤op∧op≤175
 ·have d0:decide (128≤op∧op≤132)=false:=by simp;omega
  have d1:decide (134≤op∧op≤139)=false:=by simp;omega
  have d2:decide (164≤op∧op≤167)=false:=by simp;omega
  have d3:decide (170≤op∧op≤175)=true:=by simp;omega
  go_enter Tryz.func44,Tryz.ntmps44
  go_wp2_with (go_at_call 25;refine (within_any _ _ _ _).mono ?_;rintro e w' ⟨rfl,rfl⟩;first | rw [d0] | rw [d1] | rw [d2] | rw [d3])
  refine (ofGreater_any op _ h0 h1).mono ?_
  rintro e w' ⟨rfl,hb⟩
  have hv:=ofGreaterV_q op w' c3
  generalize ofGreaterV op=v at *
  go_wp2
  go_ret
  exact⟨_,rfl,hv,hb⟩
 by_cases c4:176≤op∧op≤179
 ·have d0:decide (128≤op∧op≤132)=false:=by simp;omega
  have d1:decide (134≤op∧op≤139)=false:=by simp;omega
  have d2:decide (164≤op∧op≤167)=false:=by simp;omega
  have d3:decide (170≤op∧op≤175)=false:=by simp;omega
  have d4:decide (176≤op∧op≤179)=true:=by simp;omega
  go_enter Tryz.func44,Tryz.ntmps44
  go_wp2_with (go_at_call 25;refine (within_any _ _ _ _).mono ?_;rintro e w' ⟨rfl,rfl⟩;first | rw [d0] | rw [d1] | rw [d2] | rw [d3] | rw [d4])
  refine (ofLess_any op _ h0 h1).mono ?_
  rintro e w' ⟨rfl,hb⟩
  have hv:=ofLessV_q op w' c4
  generalize ofLessV op=v at *
  go_wp2
  go_ret
  exact⟨_,rfl,hv,hb⟩
 by_cases c5:194≤op∧op≤199
 ·have d0:decide (128≤op∧op≤132)=false:=by simp;omega
  have d1:decide (134≤op∧op≤139)=false:=by simp;omega
  have d2:decide (164≤op∧op≤167)=false:=by simp;omega
  have d3:decide (170≤op∧op≤175)=false:=by simp;omega
  have d4:decide (176≤op∧op≤179)=false:=by simp;omega
  have d5:decide (194≤op∧op≤199)=true:=by simp;omega
  go_enter Tryz.func44,Tryz.ntmps44
  go_wp2_with (go_at_call 25;refine (within_any _ _ _ _).mono ?_;rintro e w' ⟨rfl,rfl⟩;first | rw [d0] | rw [d1] | rw [d2] | rw [d3] | rw [d4] | rw [d5])
  refine (ofBits_any op _ h0 h1).mono ?_
  rintro e w' ⟨rfl,hb⟩
  have hv:=ofBitsV_q op w' c5
  generalize ofBitsV op=v at *
  go_wp2
  go_ret
  exact⟨_,rfl,hv,hb⟩
 have d0:decide (128≤op∧op≤132)=false:=by simp;omega
 have d1:decide (134≤op∧op≤139)=false:=by simp;omega
 have d2:decide (164≤op∧op≤167)=false:=by simp;omega
 have d3:decide (170≤op∧op≤175)=false:=by simp;omega
 have d4:decide (176≤op∧op≤179)=false:=by simp;omega
 have d5:decide (194≤op∧op≤199)=false:=by simp;omega
 go_enter Tryz.func44,Tryz.ntmps44
 go_wp2_with (go_at_call 25;refine (within_any _ _ _ _).mono ?_;rintro e w' ⟨rfl,rfl⟩;first | rw [d0] | rw [d1] | rw [d2] | rw [d3] | rw [d4] | rw [d5])
 go_ret
 exact⟨_,rfl,TwoQ.none (by simp only [binOps,List.mem_cons,List.not_mem_nil,or_false,forall_eq_or_imp,forall_eq];omega),Below.refl _ _⟩
end Go.Proofs.YtonhnflilfjkbaaGreat
