/-
  Texts in one: Ref06Number, Ref06Run, Ref06Quote.
-/
import Derived.Test.YtonhnflilfjkbaaGreatDoorB18
namespace Go.Proofs.YtonhnflilfjkbaaGreatDoor
open Go.RowKit
set_option maxRecDepth 10000
set_option linter.unusedVariables false
set_option linter.unusedSimpArgs false
theorem refDigit_any (c:Int) (w:World) (h0:0≤c) (h1:c<256) :
  Calls Tryz.prog 114 #[.int .u8 c] w fun e w'=>e=.returned (.bool (digitB c))∧w=w':=by
 by_cases a:48≤c
 ·by_cases b:c≤57
  ·have H:Hid (digitB c=true):=by show _=_;simp [digitB];omega
   go_enter Tryz.func114,Tryz.ntmps114
   go_wp2
   go_ret
   exact⟨by rw [H.out];first | rfl | (simp;done) | (simp;omega),rfl⟩
  ·have H:Hid (digitB c=false):=by show _=_;simp [digitB];omega
   go_enter Tryz.func114,Tryz.ntmps114
   go_wp2
   go_ret
   exact⟨by rw [H.out];first | rfl | (simp;done) | (simp;omega),rfl⟩
 ·have H:Hid (digitB c=false):=by show _=_;simp [digitB];omega
  go_enter Tryz.func114,Tryz.ntmps114
  go_wp2
  go_ret
  exact⟨by rw [H.out];first | rfl | (simp;done) | (simp;omega),rfl⟩
theorem refHex_any (c:Int) (w:World) (h0:0≤c) (h1:c<256) :
  Calls Tryz.prog 115 #[.int .u8 c] w fun e w'=>e=.returned (.bool (hexB c))∧w=w':=by
 have hD:=fun wx=>refDigit_any c wx h0 h1
 cases hd:digitB c
 ·rw [hd] at hD
  have HH:Hid (hexB c=(decide (97≤c∧c≤102) || decide (65≤c∧c≤70))):=by show _=_;rw [hexB,hd];rfl
  clear hd
  by_cases a:97≤c
  ·by_cases b:c≤102
   ·have H:Hid (hexB c=true):=by show _=_;rw [HH.out];simp [a,b]
    clear HH
    go_enter Tryz.func115,Tryz.ntmps115
    go_wp2_with (go_at_call 114;refine (hD _).mono ?_;rintro e w' ⟨rfl,rfl⟩)
    go_ret
    exact⟨by rw [H.out];first | rfl | (simp;done) | (simp;omega),rfl⟩
   ·have H:Hid (hexB c=false):=by show _=_;rw [HH.out];simp;omega
    have b1:65≤c:=by omega
    have b2:¬ c≤70:=by omega
    clear HH
    go_enter Tryz.func115,Tryz.ntmps115
    go_wp2_with (go_at_call 114;refine (hD _).mono ?_;rintro e w' ⟨rfl,rfl⟩)
    go_ret
    exact⟨by rw [H.out];first | rfl | (simp;done) | (simp;omega),rfl⟩
  ·by_cases b:65≤c
   ·by_cases d:c≤70
    ·have H:Hid (hexB c=true):=by show _=_;rw [HH.out];simp;omega
     clear HH
     go_enter Tryz.func115,Tryz.ntmps115
     go_wp2_with (go_at_call 114;refine (hD _).mono ?_;rintro e w' ⟨rfl,rfl⟩)
     go_ret
     exact⟨by rw [H.out];first | rfl | (simp;done) | (simp;omega),rfl⟩
    ·have H:Hid (hexB c=false):=by show _=_;rw [HH.out];simp;omega
     clear HH
     go_enter Tryz.func115,Tryz.ntmps115
     go_wp2_with (go_at_call 114;refine (hD _).mono ?_;rintro e w' ⟨rfl,rfl⟩)
     go_ret
     exact⟨by rw [H.out];first | rfl | (simp;done) | (simp;omega),rfl⟩
   ·have H:Hid (hexB c=false):=by show _=_;rw [HH.out];simp;omega
    clear HH
    go_enter Tryz.func115,Tryz.ntmps115
    go_wp2_with (go_at_call 114;refine (hD _).mono ?_;rintro e w' ⟨rfl,rfl⟩)
    go_ret
    exact⟨by rw [H.out];first | rfl | (simp;done) | (simp;omega),rfl⟩
 ·rw [hd] at hD
  have H:Hid (hexB c=true):=digit_hex hd
  clear hd
  go_enter Tryz.func115,Tryz.ntmps115
  go_wp2_with (go_at_call 114;refine (hD _).mono ?_;rintro e w' ⟨rfl,rfl⟩)
  go_ret
  exact⟨by rw [H.out];first | rfl | (simp;done) | (simp;omega),rfl⟩
theorem refWorth_any (c:Int) (w:World) (h0:0≤c) (h1:c<256) (hx:hexB c=true) :
  Calls Tryz.prog 116 #[.int .u8 c] w fun e w'=>e=.returned (.int .u64 (dvI c))∧w=w':=by
 have hD:=fun wx=>refDigit_any c wx h0 h1
 have hv:dvI c=worthI c:=by unfold dvI;rw [if_pos hx]
 cases hd:digitB c
 ·rw [hd] at hD
  simp only [hexB,hd,Bool.false_or,Bool.or_eq_true,decide_eq_true_eq] at hx
  by_cases a:97≤c
  ·have H:Hid (dvI c=c - 87):=by show _=_;rw [hv];unfold worthI;rw [if_neg (by omega),if_pos a]
   clear hd hv
   have hx':c≤102:=by omega
   clear hx
   go_enter Tryz.func116,Tryz.ntmps116
   go_wp2_with (go_at_call 114;refine (hD _).mono ?_;rintro e w' ⟨rfl,rfl⟩)
   go_ret
   exact⟨by rw [H.out];exact ret_int (by omega),rfl⟩
  ·have H:Hid (dvI c=c - 55):=by show _=_;rw [hv];unfold worthI;rw [if_neg (by omega),if_neg a]
   have hx1:65≤c:=by omega
   have hx':c≤70:=by omega
   clear hd hv hx
   go_enter Tryz.func116,Tryz.ntmps116
   go_wp2_with (go_at_call 114;refine (hD _).mono ?_;rintro e w' ⟨rfl,rfl⟩)
   go_ret
   exact⟨by rw [H.out];exact ret_int (by omega),rfl⟩
 ·rw [hd] at hD
  simp only [digitB,decide_eq_true_eq] at hd
  have H:Hid (dvI c=c - 48):=by show _=_;rw [hv];unfold worthI;rw [if_pos hd.2]
  have a:=hd.1
  have b:=hd.2
  clear hd hv hx
  go_enter Tryz.func116,Tryz.ntmps116
  go_wp2_with (go_at_call 114;refine (hD _).mono ?_;rintro e w' ⟨rfl,rfl⟩)
  go_ret
  exact⟨by rw [H.out];exact ret_int (by omega),rfl⟩
theorem hid1 {p:Prop} (h:p):Hid p:=h
theorem dv_of_digit {c:Int} (h:digitB c=true):dvI c=c - 48:=by
 unfold dvI;rw [if_pos (digit_hex h)]
 simp only [digitB,decide_eq_true_eq] at h
 unfold worthI;rw [if_pos h.2]
theorem pow10 (k:Nat) (h:k≤10):(10:Int) ^ k≤10000000000:=by
 have:∀ k:Fin 11,(10:Int) ^ k.val≤10000000000:=by decide
 exact this ⟨k,by omega⟩
theorem pow16 (k:Nat) (h:k≤8):(16:Int) ^ k≤4294967296:=by
 have:∀ k:Fin 9,(16:Int) ^ k.val≤4294967296:=by decide
 exact this ⟨k,by omega⟩
set_option maxHeartbeats 1000000 in
theorem refPlain_any (s:ByteArray) (w:World) (hs:s.size≤140737488351232) :
  Calls Tryz.prog 76 #[.string s] w fun e w'=>(∃ x:Int,e=.returned (.tuple #[.int .u64 x,.bool (plainB (strI s))])∧0≤x∧(plainB (strI s)=true→x=valF 10 0 (strI s)∧x<4294967296))∧w=w':=by
 have HLen:Hid ((strI s).length=s.size):=strI_len s
 by_cases hz:s.size=0
 ·have HB:Hid (plainB (strI s)=false):=by
   show _=_
   have:strI s=[]:=List.length_eq_zero_iff.1 (by rw [strI_len];exact hz)
   rw [this];rfl
  have hzi:((s.size:Int)==0)=true:=by rw [hz];rfl
  go_enter Tryz.func76,Tryz.ntmps76
  go_wp2_with fail
  go_ret2
  exact⟨⟨0,by rw [HB.out];rfl,by omega,fun h=>by rw [HB.out] at h;cases h⟩,rfl⟩
 have hzi:((s.size:Int)==0)=false:=beq_eq_false_iff_ne.2 (by omega)
 by_cases hl:10<s.size
 ·have HB:Hid (plainB (strI s)=false):=plain_long (by rw [HLen.out];exact hl)
  have hli:(10:Int)<(s.size:Int):=by omega
  go_enter Tryz.func76,Tryz.ntmps76
  go_wp2_with fail
  go_ret2
  exact⟨⟨0,by rw [HB.out];rfl,by omega,fun h=>by rw [HB.out] at h;cases h⟩,rfl⟩
 have hli:¬ (10:Int)<(s.size:Int):=by omega
 by_cases h0:1<s.size∧nth (strI s) 0=48
 ·have HB:Hid (plainB (strI s)=false):=plain_zero (by rw [HLen.out];exact h0.1) h0.2
  have h1:(1:Int)<(s.size:Int):=by omega
  have h2:=h0.2
  have hlt:0<s.size:=by omega
  rw [nth_strI s 0 hlt] at h2
  have h3:((s[0].toNat:Int)==48)=true:=by simpa using h2
  clear h0 h2
  go_enter Tryz.func76,Tryz.ntmps76
  go_wp2_with fail
  go_ret2
  exact⟨⟨0,by rw [HB.out];rfl,by omega,fun h=>by rw [HB.out] at h;cases h⟩,rfl⟩
 have HB:Hid (plainB (strI s)=digsB 10 (strI s)):=plain_digs (by rw [HLen.out];exact h0)
 have hlt0:0<s.size:=by omega
 have hs10:s.size≤10:=by omega
 have HH:Hid (¬ (1<s.size∧(s[0].toNat:Int)=48)):=by rw [← nth_strI s 0 hlt0];exact h0
 have HF:Hid (∀ k,k<s.size→digitB (nth (strI s) k)=false→plainB (strI s)=false):=fun k hk h=>by
  rw [HB.out]
  refine digs_not (k:=k) (by rw [HLen.out];exact hk) ?_
  have:=dv_digit (nth (strI s) k)
  rw [h] at this
  simp at this;omega
 have HA:Hid (∀ k,k<s.size→allD 10 ((strI s).take k)=true→digitB (nth (strI s) k)=true→allD 10 ((strI s).take (k+1))=true∧valF 10 0 ((strI s).take (k+1))=10 * valF 10 0 ((strI s).take k)+(nth (strI s) k - 48)):=fun k hk h h1 =>
  ⟨allD_snoc (by rw [HLen.out];exact hk) h ((dv_digit _).2 h1),by rw [valF_take 10 _ k (by rw [HLen.out];exact hk),dv_of_digit h1];omega⟩
 have HW:Hid (∀ k,k≤s.size→allD 10 ((strI s).take k)=true→0≤valF 10 0 ((strI s).take k)∧valF 10 0 ((strI s).take k)<10000000000):=fun k hk h=>by
  refine⟨valF_lo 10 _ (by omega),?_⟩
  have h1:=valF_lt 10 ((strI s).take k) (by omega) h 0 0 (by decide)
  have h2:=pow10 k (by omega)
  rw [List.length_take,HLen.out,Nat.min_eq_left hk,Nat.zero_add] at h1
  omega
 have HE:Hid (allD 10 ((strI s).take s.size)=true→plainB (strI s)=decide (valF 10 0 ((strI s).take s.size)<4294967296)∧valF 10 0 ((strI s).take s.size)=valF 10 0 (strI s)):=fun h=>by
  rw [List.take_of_length_le (by rw [HLen.out];omega)] at h ⊢
  refine⟨?_,rfl⟩
  rw [HB.out,digsB,h]
  have:(strI s).isEmpty=false:=by
   cases e:strI s with
   | nil=>have:=HLen.out;rw [e] at this;simp at this;omega
   | cons a b=>rfl
  rw [this];rfl
 clear h0 hz HB
 by_cases h1:1<s.size
 ·have h1i:(1:Int)<(s.size:Int):=by omega
  have h3:((s[0].toNat:Int)==48)=false:=by simpa using fun e=>HH.out ⟨h1,e⟩
  go_enter Tryz.func76,Tryz.ntmps76
  go_wp2_with fail
  go_loop [4,5] (fun m i=>∃ k:Nat,k≤s.size∧i=.int .i64 k∧m=.int .u64 (valF 10 0 ((strI s).take k))∧allD 10 ((strI s).take k)=true) (fun _ i=>s.size - (intOf i).toNat)
  case atStart=>exact⟨0,Nat.zero_le _,rfl,rfl,rfl⟩
  case round =>
   obtain⟨k,hk,rfl,rfl,hall⟩:=hrel
   obtain⟨hn0,hn1⟩:=HW.out k hk hall
   by_cases hlt:k<s.size
   ·have hc0:(0:Int)≤(s[k].toNat:Int):=by omega
    have hc1:(s[k].toNat:Int)<256:=by have:=s[k].toNat_lt;omega
    have hD:=fun wx=>refDigit_any (s[k].toNat:Int) wx hc0 hc1
    have eF:=HF.out k hlt
    have eA:=HA.out k hlt hall
    rw [nth_strI s k hlt] at eF eA
    have EF:=hid1 eF
    have EA:=hid1 eA
    clear eF eA hall
    cases hd:digitB (s[k].toNat:Int)
    ·have HB:Hid (plainB (strI s)=false):=EF.out hd
     rw [hd] at hD
     clear EA EF hd
     generalize valF 10 0 ((strI s).take k)=m at *
     go_wp2_with (go_at_call 114;refine (hD _).mono ?_;rintro e w' ⟨rfl,rfl⟩)
     go_ret2
     exact⟨⟨0,by rw [HB.out];rfl,by omega,fun h=>by rw [HB.out] at h;cases h⟩,rfl⟩
    ·obtain⟨eA1,eA2⟩:=EA.out hd
     have EA1:=hid1 eA1
     have EA2:=hid1 eA2
     rw [hd] at hD
     simp only [digitB,decide_eq_true_eq] at hd
     have d1:=hd.1
     have d2:=hd.2
     clear EA EF hd eA1 eA2
     generalize valF 10 0 ((strI s).take k)=m at *
     go_wp2_with (go_at_call 114;refine (hD _).mono ?_;rintro e w' ⟨rfl,rfl⟩)
     go_round
     case rel=>exact⟨k+1,by omega,by go_num,by rw [EA2.out],EA1.out⟩
     case measure=>simp [intOf];omega
   ·obtain rfl:k=s.size:=by omega
    obtain⟨e1,e2⟩:=HE.out hall
    have E1:=hid1 e1
    have E2:=hid1 e2
    clear e1 e2 hall
    generalize valF 10 0 ((strI s).take s.size)=m at *
    go_wp2_with fail
    go_ret2
    exact⟨⟨m,by rw [E1.out];rfl,hn0,fun h=>⟨E2.out,of_decide_eq_true (by rw [E1.out] at h;exact h)⟩⟩,rfl⟩
 ·have h1i:¬ (1:Int)<(s.size:Int):=by omega
  go_enter Tryz.func76,Tryz.ntmps76
  go_wp2_with fail
  go_loop [4,5] (fun m i=>∃ k:Nat,k≤s.size∧i=.int .i64 k∧m=.int .u64 (valF 10 0 ((strI s).take k))∧allD 10 ((strI s).take k)=true) (fun _ i=>s.size - (intOf i).toNat)
  case atStart=>exact⟨0,Nat.zero_le _,rfl,rfl,rfl⟩
  case round =>
   obtain⟨k,hk,rfl,rfl,hall⟩:=hrel
   obtain⟨hn0,hn1⟩:=HW.out k hk hall
   by_cases hlt:k<s.size
   ·have hc0:(0:Int)≤(s[k].toNat:Int):=by omega
    have hc1:(s[k].toNat:Int)<256:=by have:=s[k].toNat_lt;omega
    have hD:=fun wx=>refDigit_any (s[k].toNat:Int) wx hc0 hc1
    have eF:=HF.out k hlt
    have eA:=HA.out k hlt hall
    rw [nth_strI s k hlt] at eF eA
    have EF:=hid1 eF
    have EA:=hid1 eA
    clear eF eA hall
    cases hd:digitB (s[k].toNat:Int)
    ·have HB:Hid (plainB (strI s)=false):=EF.out hd
     rw [hd] at hD
     clear EA EF hd
     generalize valF 10 0 ((strI s).take k)=m at *
     go_wp2_with (go_at_call 114;refine (hD _).mono ?_;rintro e w' ⟨rfl,rfl⟩)
     go_ret2
     exact⟨⟨0,by rw [HB.out];rfl,by omega,fun h=>by rw [HB.out] at h;cases h⟩,rfl⟩
    ·obtain⟨eA1,eA2⟩:=EA.out hd
     have EA1:=hid1 eA1
     have EA2:=hid1 eA2
     rw [hd] at hD
     simp only [digitB,decide_eq_true_eq] at hd
     have d1:=hd.1
     have d2:=hd.2
     clear EA EF hd eA1 eA2
     generalize valF 10 0 ((strI s).take k)=m at *
     go_wp2_with (go_at_call 114;refine (hD _).mono ?_;rintro e w' ⟨rfl,rfl⟩)
     go_round
     case rel=>exact⟨k+1,by omega,by go_num,by rw [EA2.out],EA1.out⟩
     case measure=>simp [intOf];omega
   ·obtain rfl:k=s.size:=by omega
    obtain⟨e1,e2⟩:=HE.out hall
    have E1:=hid1 e1
    have E2:=hid1 e2
    clear e1 e2 hall
    generalize valF 10 0 ((strI s).take s.size)=m at *
    go_wp2_with fail
    go_ret2
    exact⟨⟨m,by rw [E1.out];rfl,hn0,fun h=>⟨E2.out,of_decide_eq_true (by rw [E1.out] at h;exact h)⟩⟩,rfl⟩
theorem take1_nth {l:List Int} {c:Int} (h:0<l.length):l.take 1=[c]↔nth l 0=c:=by
 cases l with
 | nil=>simp at h
 | cons a r=>simp [nth]
theorem take2_nth {l:List Int} {c d:Int} (h:1<l.length):l.take 2=[c,d]↔nth l 0=c∧nth l 1=d:=by
 match l,h with
 | [a],h=>simp at h
 | a :: b :: r,_=>simp [nth]
theorem num_not {l:List Int} (hb:plainB l=false) (hm:¬ (1<l.length∧nth l 0=45)) (hx:¬ (3≤l.length∧l.length≤10∧nth l 0=48∧nth l 1=120)):numB l=false:=by
 by_cases h1:l.take 1=[45]
 ·have hlen:0<l.length:=by
   have:=congrArg List.length h1
   rw [List.length_take] at this;simp at this;omega
  have h0:=(take1_nth hlen).1 h1
  have hl1:l.length=1:=by
   by_cases h:1<l.length
   ·exact absurd ⟨h,h0⟩ hm
   ·omega
  rw [(num_neg h1).1,List.drop_eq_nil_of_le (by omega)];rfl
 ·by_cases h2:l.take 2=[48,120]
  ·have hlen:1<l.length:=by
    have:=congrArg List.length h2
    rw [List.length_take] at this;simp at this;omega
   have h0:=(take2_nth hlen).1 h2
   rw [(num_hex h1 h2).1]
   by_cases h3:3≤l.length
   ·have:¬ l.length≤10:=fun h=>hx ⟨h3,h,h0.1,h0.2⟩
    rw [decide_eq_false this,Bool.and_false]
   ·rw [List.drop_eq_nil_of_le (by omega)];rfl
  ·rw [(num_plain h1 h2).1];exact hb
theorem plain_num {l:List Int} (h:plainB l=true):numB l=true∧numV l=valF 10 0 l:=by
 have hall:allD 10 l=true:=by
  simp only [plainB,digsB,Bool.and_eq_true] at h
  exact h.2.1.2
 have h1:¬ l.take 1=[45]:=fun e=>by
  cases l with
  | nil=>simp at e
  | cons c r =>
   simp at e;subst e
   have:dvI 45<10:=allD_at hall (k:=0) (by simp)
   exact absurd this (by decide)
 have h2:¬ l.take 2=[48,120]:=fun e=>by
  match l,e with
  | [],e=>simp at e
  | [c],e=>simp at e
  | c :: d :: r,e =>
   simp at e
   obtain⟨rfl,rfl⟩:=e
   have:dvI 120<10:=allD_at hall (k:=1) (by simp)
   exact absurd this (by decide)
 obtain⟨a,b⟩:=num_plain h1 h2
 exact⟨a.trans h,b⟩
set_option maxHeartbeats 2000000 in
theorem refNumber_any (s:ByteArray) (w:World) (hs:s.size≤140737488351232) :
  Calls Tryz.prog 77 #[.string s] w fun e w'=>e=.returned (.tuple #[.int .u32 (numOut (strI s)),.int .i64 (numErr (strI s))])∧w=w':=by
 have hP:=fun wx=>refPlain_any s wx hs
 have HLen:Hid ((strI s).length=s.size):=strI_len s
 have HO1:Hid (numB (strI s)=true→numOut (strI s)=numV (strI s)∧numErr (strI s)=0):=fun h=>by simp [numOut,numErr,h]
 have HO0:Hid (numB (strI s)=false→numOut (strI s)=0∧numErr (strI s)=62):=fun h=>by simp [numOut,numErr,h]
 cases hb:plainB (strI s)
 ·rw [hb] at hP
  by_cases hm:1<s.size∧nth (strI s) 0=45
  ·have h1:=hm.1
   have ht:(strI s).take 1=[45]:=(take1_nth (by rw [HLen.out];omega)).2 hm.2
   obtain⟨n1,n2⟩:=num_neg ht
   have e3:strI (s.extract 1 s.size)=(strI s).drop 1:=by rw [strI_extract,List.take_of_length_le (by rw [HLen.out];omega)]
   have hN:=fun wx=>refPlain_any (s.extract 1 s.size) wx (by rw [ByteArray.size_extract];omega)
   rw [e3] at hN
   have N1:=hid1 n1
   have N2:=hid1 n2
   have hlt:0<s.size:=by omega
   have h2:=hm.2
   rw [nth_strI s 0 hlt] at h2
   have h3:((s[0].toNat:Int)==45)=true:=by simpa using h2
   have h1i:(1:Int)<(s.size:Int):=by omega
   have h1n:1≤s.size:=by omega
   clear n1 n2 e3 ht hm h2 hb
   generalize (strI s).drop 1=l at *
   generalize plainB l=B at *
   generalize valF 10 0 l=v at *
   go_enter Tryz.func77,Tryz.ntmps77
   go_wp2_with fail
   refine (hP _).mono ?_
   rintro e w' ⟨⟨x,rfl,hx0,_⟩,rfl⟩
   go_wp2_with fail
   refine (hN _).mono ?_
   rintro e w' ⟨⟨x2,rfl,hx20,hx2⟩,rfl⟩
   cases B
   ·obtain⟨o1,o2⟩:=HO0.out (by rw [N1.out];rfl)
    have O1:=hid1 o1
    have O2:=hid1 o2
    clear o1 o2 N1 N2 hx2 hN hP
    go_wp2_with fail
    go_ret2
    exact⟨by rw [O1.out,O2.out];rfl,rfl⟩
   ·obtain⟨rfl,hx2h⟩:=hx2 rfl
    clear hN hP hx2
    by_cases g1:1≤x2
    ·by_cases g2:x2≤2147483648
     ·obtain⟨o1,o2⟩:=HO1.out (by rw [N1.out];simp [g1,g2])
      have O1:Hid (numOut (strI s)=4294967296 - x2):=o1.trans N2.out
      have O2:=hid1 o2
      have g1d:decide (1≤x2)=true:=decide_eq_true g1
      have g2d:decide (x2≤2147483648)=true:=decide_eq_true g2
      clear o1 o2 N1 N2
      go_wp2_with fail
      go_ret2
      refine⟨?_,rfl⟩
      rw [O1.out,O2.out]
      first
       | rfl
       | (go_goals)
     ·obtain⟨o1,o2⟩:=HO0.out (by rw [N1.out];simp [g1,g2])
      have O1:=hid1 o1
      have O2:=hid1 o2
      have g1d:decide (1≤x2)=true:=decide_eq_true g1
      have g2d:decide (x2≤2147483648)=false:=decide_eq_false g2
      clear o1 o2 N1 N2 g2
      go_wp2_with fail
      go_ret2
      exact⟨by rw [O1.out,O2.out];rfl,rfl⟩
    ·obtain⟨o1,o2⟩:=HO0.out (by rw [N1.out];simp [g1])
     have O1:=hid1 o1
     have O2:=hid1 o2
     have g1d:decide (1≤x2)=false:=decide_eq_false g1
     clear o1 o2 N1 N2
     go_wp2_with fail
     go_ret2
     exact⟨by rw [O1.out,O2.out];rfl,rfl⟩
  ·have hm2:¬ (1<(strI s).length∧nth (strI s) 0=45):=by rw [HLen.out];exact hm
   by_cases hx:3≤s.size∧s.size≤10∧nth (strI s) 0=48∧nth (strI s) 1=120
   ·obtain⟨g1,g2,g3,g4⟩:=hx
    have h1:¬ (strI s).take 1=[45]:=fun e=>by have:=(take1_nth (by rw [HLen.out];omega)).1 e;omega
    have h2:(strI s).take 2=[48,120]:=(take2_nth (by rw [HLen.out];omega)).2 ⟨g3,g4⟩
    obtain⟨n1,n2⟩:=num_hex h1 h2
    rw [HLen.out,decide_eq_true g2,Bool.and_true] at n1
    have N1:=hid1 n1
    have N2:=hid1 n2
    have hlt0:0<s.size:=by omega
    have hlt1:1<s.size:=by omega
    rw [nth_strI s 0 hlt0] at g3
    rw [nth_strI s 1 hlt1] at g4
    have i0:((s[0].toNat:Int)==45)=false:=by rw [g3];rfl
    have i1:((s[0].toNat:Int) != 48)=false:=by rw [g3];rfl
    have i2:((s[1].toNat:Int) != 120)=false:=by rw [g4];rfl
    have j1:(1:Int)<(s.size:Int):=by omega
    have j2:¬ (s.size:Int)<3:=by omega
    have j3:¬ (10:Int)<(s.size:Int):=by omega
    have HDl:Hid (((strI s).drop 2).length=s.size - 2):=by show _=_;rw [List.length_drop,HLen.out]
    have HDn:Hid (∀ k,nth ((strI s).drop 2) k=nth (strI s) (k+2)):=fun k=>by unfold nth;simp [List.getD,List.getElem?_drop,Nat.add_comm]
    have HF:Hid (∀ k,k+2<s.size→hexB (nth (strI s) (k+2))=false→numB (strI s)=false):=fun k hk h=>by
     rw [N1.out]
     refine digs_not (k:=k) (by rw [HDl.out];omega) ?_
     rw [HDn.out]
     have:=dv_hex (nth (strI s) (k+2))
     rw [h] at this
     simp at this;omega
    have HA:Hid (∀ k,k+2<s.size→allD 16 (((strI s).drop 2).take k)=true→hexB (nth (strI s) (k+2))=true→allD 16 (((strI s).drop 2).take (k+1))=true∧valF 16 0 (((strI s).drop 2).take (k+1))=16 * valF 16 0 (((strI s).drop 2).take k)+dvI (nth (strI s) (k+2))):=fun k hk h h1 =>
     ⟨allD_snoc (by rw [HDl.out];omega) h (by rw [HDn.out];exact (dv_hex _).2 h1),by rw [valF_take 16 _ k (by rw [HDl.out];omega),HDn.out];omega⟩
    have HW:Hid (∀ k,k+2≤s.size→allD 16 (((strI s).drop 2).take k)=true→0≤valF 16 0 (((strI s).drop 2).take k)∧valF 16 0 (((strI s).drop 2).take k)<4294967296):=fun k hk h=>by
     refine⟨valF_lo 16 _ (by omega),?_⟩
     have h1:=valF_lt 16 (((strI s).drop 2).take k) (by omega) h 0 0 (by decide)
     have h2:=pow16 k (by omega)
     rw [List.length_take,HDl.out,Nat.min_eq_left (by omega),Nat.zero_add] at h1
     omega
    have HE:Hid (∀ k,k+2=s.size→allD 16 (((strI s).drop 2).take k)=true→numB (strI s)=true∧valF 16 0 (((strI s).drop 2).take k)=numV (strI s)):=fun k hk h=>by
     have hw:=HW.out k (by omega) h
     rw [List.take_of_length_le (by rw [HDl.out];omega)] at h hw ⊢
     refine⟨?_,by rw [N2.out]⟩
     rw [N1.out,digs_all h hw.2]
     cases e:(strI s).drop 2 with
     | nil=>have:=HDl.out;rw [e] at this;simp at this;omega
     | cons a b=>rfl
    have GF:Hid (∀ q,2≤q→q<s.size→hexB (nth (strI s) q)=false→numB (strI s)=false):=fun q h1 h2 h3=>HF.out (q - 2) (by omega) (by rw [show q - 2+2=q by omega];exact h3)
    have GA:Hid (∀ q,2≤q→q<s.size→allD 16 (((strI s).drop 2).take (q - 2))=true→hexB (nth (strI s) q)=true→allD 16 (((strI s).drop 2).take (q+1 - 2))=true∧valF 16 0 (((strI s).drop 2).take (q+1 - 2))=16 * valF 16 0 (((strI s).drop 2).take (q - 2))+dvI (nth (strI s) q)):=fun q h1 h2 h3 h4=>by
     have:=HA.out (q - 2) (by omega) h3 (by rw [show q - 2+2=q by omega];exact h4)
     rw [show q - 2+2=q by omega,show q - 2+1=q+1 - 2 by omega] at this;exact this
    have GW:Hid (∀ q,2≤q→q≤s.size→allD 16 (((strI s).drop 2).take (q - 2))=true→0≤valF 16 0 (((strI s).drop 2).take (q - 2))∧valF 16 0 (((strI s).drop 2).take (q - 2))<4294967296):=fun q h1 h2 h3=>HW.out (q - 2) (by omega) h3
    have GE:Hid (allD 16 (((strI s).drop 2).take (s.size - 2))=true→numB (strI s)=true∧valF 16 0 (((strI s).drop 2).take (s.size - 2))=numV (strI s)):=fun h3=>HE.out (s.size - 2) (by omega) h3
    clear n1 n2 h1 h2 hb hm hm2 N1 N2 HDl HDn g3 g4 HF HA HW HE
    go_enter Tryz.func77,Tryz.ntmps77
    go_wp2_with fail
    refine (hP _).mono ?_
    rintro e w' ⟨⟨x,rfl,hx0,_⟩,rfl⟩
    clear hP
    go_wp2_with fail
    go_loop [4,6] (fun m i=>∃ q:Nat,2≤q∧q≤s.size∧i=.int .i64 q∧m=.int .u64 (valF 16 0 (((strI s).drop 2).take (q - 2)))∧allD 16 (((strI s).drop 2).take (q - 2))=true) (fun _ i=>s.size - (intOf i).toNat)
    case atStart=>exact⟨2,by omega,by omega,rfl,rfl,rfl⟩
    case round =>
     obtain⟨q,hq2,hk,rfl,rfl,hall⟩:=hrel
     obtain⟨hn0,hn1⟩:=GW.out q hq2 hk hall
     by_cases hlt:q<s.size
     ·have hc0:(0:Int)≤(s[q].toNat:Int):=by omega
      have hc1:(s[q].toNat:Int)<256:=by have:=s[q].toNat_lt;omega
      have hD:=fun wx=>refHex_any (s[q].toNat:Int) wx hc0 hc1
      have eF:=GF.out q hq2 hlt
      have eA:=GA.out q hq2 hlt hall
      rw [nth_strI s q hlt] at eF eA
      have EF:=hid1 eF
      have EA:=hid1 eA
      clear eF eA hall
      cases hd:hexB (s[q].toNat:Int)
      ·obtain⟨o1,o2⟩:=HO0.out (EF.out hd)
       have O1:=hid1 o1
       have O2:=hid1 o2
       rw [hd] at hD
       clear EA EF hd o1 o2
       generalize valF 16 0 (((strI s).drop 2).take (q - 2))=m at *
       go_wp2_with (go_at_call 115;refine (hD _).mono ?_;rintro e w' ⟨rfl,rfl⟩)
       go_ret2
       exact⟨by rw [O1.out,O2.out];rfl,rfl⟩
      ·obtain⟨eA1,eA2⟩:=EA.out hd
       have EA1:=hid1 eA1
       have EA2:=hid1 eA2
       have hWo:=fun wx=>refWorth_any (s[q].toNat:Int) wx hc0 hc1 hd
       have d0:=dv_lo (s[q].toNat:Int)
       have d1:=(dv_hex (s[q].toNat:Int)).2 hd
       rw [hd] at hD
       clear EA EF hd eA1 eA2
       generalize valF 16 0 (((strI s).drop 2).take (q - 2))=m at *
       generalize dvI (s[q].toNat:Int)=d at *
       go_wp2_with (first | (go_at_call 115;refine (hD _).mono ?_;rintro e w' ⟨rfl,rfl⟩) | (go_at_call 116;refine (hWo _).mono ?_;rintro e w' ⟨rfl,rfl⟩))
       go_round
       case rel=>exact⟨q+1,by omega,by omega,by go_num,by rw [EA2.out],EA1.out⟩
       case measure=>simp [intOf];omega
     ·obtain rfl:q=s.size:=by omega
      obtain⟨o1,o2⟩:=GE.out hall
      obtain⟨o3,o4⟩:=HO1.out o1
      have O1:Hid (numOut (strI s)=valF 16 0 (((strI s).drop 2).take (s.size - 2))):=by show _=_;rw [o3,o2]
      have O2:=hid1 o4
      clear o1 o2 o3 o4 hall
      generalize valF 16 0 (((strI s).drop 2).take (s.size - 2))=m at *
      go_wp2_with fail
      go_ret2
      exact⟨by rw [O1.out,O2.out];rfl,rfl⟩
   ·have hx2:¬ (3≤(strI s).length∧(strI s).length≤10∧nth (strI s) 0=48∧nth (strI s) 1=120):=by rw [HLen.out];exact hx
    obtain⟨o1,o2⟩:=HO0.out (num_not hb hm2 hx2)
    have O1:=hid1 o1
    have O2:=hid1 o2
    clear o1 o2 hm2 hx2 hb
    by_cases a1:1<s.size
    ·have hlt0:0<s.size:=by omega
     have hne:¬ nth (strI s) 0=45:=fun e=>hm ⟨a1,e⟩
     have e0:=nth_strI s 0 hlt0
     have e1:=nth_strI s 1 a1
     rw [e0] at hne hx
     rw [e1] at hx
     have i0:((s[0].toNat:Int)==45)=false:=beq_eq_false_iff_ne.2 hne
     have j1:(1:Int)<(s.size:Int):=by omega
     clear hm hne e0 e1
     by_cases a2:s.size<3
     ·have j2:(s.size:Int)<3:=by omega
      clear hx
      go_enter Tryz.func77,Tryz.ntmps77
      go_wp2_with fail
      refine (hP _).mono ?_
      rintro e w' ⟨⟨x,rfl,hx0,_⟩,rfl⟩
      clear hP
      go_wp2_with fail
      go_ret2
      exact⟨by rw [O1.out,O2.out];rfl,rfl⟩
     have j2:¬ (s.size:Int)<3:=by omega
     by_cases a3:10<s.size
     ·have j3:(10:Int)<(s.size:Int):=by omega
      clear hx
      go_enter Tryz.func77,Tryz.ntmps77
      go_wp2_with fail
      refine (hP _).mono ?_
      rintro e w' ⟨⟨x,rfl,hx0,_⟩,rfl⟩
      clear hP
      go_wp2_with fail
      go_ret2
      exact⟨by rw [O1.out,O2.out];rfl,rfl⟩
     have j3:¬ (10:Int)<(s.size:Int):=by omega
     by_cases a4:(s[0].toNat:Int)=48
     ·have a5:¬ (s[1].toNat:Int)=120:=fun e=>hx ⟨by omega,by omega,a4,e⟩
      have i1:((s[0].toNat:Int) != 48)=false:=by rw [a4];rfl
      have i2:((s[1].toNat:Int) != 120)=true:=by simpa using a5
      clear hx a4 a5
      go_enter Tryz.func77,Tryz.ntmps77
      go_wp2_with fail
      refine (hP _).mono ?_
      rintro e w' ⟨⟨x,rfl,hx0,_⟩,rfl⟩
      clear hP
      go_wp2_with fail
      go_ret2
      exact⟨by rw [O1.out,O2.out];rfl,rfl⟩
     ·have i1:((s[0].toNat:Int) != 48)=true:=by simpa using a4
      clear hx a4
      go_enter Tryz.func77,Tryz.ntmps77
      go_wp2_with fail
      refine (hP _).mono ?_
      rintro e w' ⟨⟨x,rfl,hx0,_⟩,rfl⟩
      clear hP
      go_wp2_with fail
      go_ret2
      exact⟨by rw [O1.out,O2.out];rfl,rfl⟩
    ·have j1:¬ (1:Int)<(s.size:Int):=by omega
     have j2:(s.size:Int)<3:=by omega
     clear hx hm
     go_enter Tryz.func77,Tryz.ntmps77
     go_wp2_with fail
     refine (hP _).mono ?_
     rintro e w' ⟨⟨x,rfl,hx0,_⟩,rfl⟩
     clear hP
     go_wp2_with fail
     go_ret2
     exact⟨by rw [O1.out,O2.out];rfl,rfl⟩
 ·obtain⟨p1,p2⟩:=plain_num hb
  rw [hb] at hP
  obtain⟨o1,o2⟩:=HO1.out p1
  have O1:Hid (numOut (strI s)=valF 10 0 (strI s)):=o1.trans p2
  have O2:=hid1 o2
  clear o1 o2 p1 p2 hb
  go_enter Tryz.func77,Tryz.ntmps77
  go_wp2_with fail
  refine (hP _).mono ?_
  rintro e w' ⟨⟨x,rfl,hx0,hx⟩,rfl⟩
  obtain⟨hx1,hx2⟩:=hx trivial
  have HX1:=hid1 hx1
  clear hx hx1 hP
  go_wp2_with fail
  go_ret2
  exact⟨by rw [O1.out,O2.out,← HX1.out];rfl,rfl⟩
theorem ref6Letter_any (c:Int) (w:World) (h0:0≤c) (h1:c<256) :
  Calls Tryz.prog 74 #[.int .u8 c] w fun e w'=>e=.returned (.bool (letterB c))∧w=w':=by
 by_cases a:65≤c
 ·by_cases b:c≤90
  ·have H:Hid (letterB c=true):=by show _=_;simp [letterB];omega
   go_enter Tryz.func74,Tryz.ntmps74
   go_wp2
   go_ret
   exact⟨by first | rfl | (rw [H.out];first | rfl | (simp;done) | (simp;omega)),rfl⟩
  ·by_cases d:97≤c
   ·by_cases e:c≤122
    ·have H:Hid (letterB c=true):=by show _=_;simp [letterB];omega
     go_enter Tryz.func74,Tryz.ntmps74
     go_wp2
     go_ret
     exact⟨by first | rfl | (rw [H.out];first | rfl | (simp;done) | (simp;omega)),rfl⟩
    ·have H:Hid (letterB c=false):=by show _=_;simp [letterB];omega
     go_enter Tryz.func74,Tryz.ntmps74
     go_wp2
     go_ret
     exact⟨by first | rfl | (rw [H.out];first | rfl | (simp;done) | (simp;omega)),rfl⟩
   ·by_cases f:c=95
    ·have f':(c==95)=true:=by simpa using f
     have H:Hid (letterB c=true):=by show _=_;simp [letterB];omega
     go_enter Tryz.func74,Tryz.ntmps74
     go_wp2
     go_ret
     exact⟨by first | rfl | (rw [H.out];first | rfl | (simp;done) | (simp;omega)),rfl⟩
    ·have f':(c==95)=false:=by simpa using f
     have H:Hid (letterB c=false):=by show _=_;simp [letterB];omega
     go_enter Tryz.func74,Tryz.ntmps74
     go_wp2
     go_ret
     exact⟨by first | rfl | (rw [H.out];first | rfl | (simp;done) | (simp;omega)),rfl⟩
 ·have H:Hid (letterB c=false):=by show _=_;simp [letterB];omega
  go_enter Tryz.func74,Tryz.ntmps74
  go_wp2
  go_ret
  exact⟨by first | rfl | (rw [H.out];first | rfl | (simp;done) | (simp;omega)),rfl⟩
set_option maxHeartbeats 1000000 in
theorem refRun_any (s:ByteArray) (p:Nat) (w:World) (hs:s.size≤140737488351232) (hp:p≤s.size) :
  Calls Tryz.prog 75 #[.string s,.int .i64 p] w fun e w'=>e=.returned (.string (s.extract p (runE (strI s) p)))∧w=w':=by
 have HE:Hid (∀ k,p≤k→k≤s.size→(∀ i,p≤i→i<k→runB (nth (strI s) i)=true)→(k=s.size∨runB (nth (strI s) k)=false)→runE (strI s) p=k):=fun k h1 h2 h3 h4=>runE_spec h1 (by rw [strI_len];exact h2) h3 (by rw [strI_len];exact h4)
 have hp':(p:Int)≤(s.size:Int):=by omega
 go_enter Tryz.func75,Tryz.ntmps75
 go_wp2
 go_loop [5] (fun i=>∃ k:Nat,p≤k∧k≤s.size∧i=.int .i64 k∧∀ j,p≤j→j<k→runB (nth (strI s) j)=true) (fun i=>s.size - (intOf i).toNat)
 case atStart=>exact⟨p,Nat.le_refl _,hp,rfl,fun j h1 h2=>by omega⟩
 case round =>
  obtain⟨k,hpk,hk,rfl,hall⟩:=hrel
  have hpk':(p:Int)≤(k:Int):=by omega
  have hk':(k:Int)≤(s.size:Int):=by omega
  by_cases hlt:k<s.size
  ·have hc0:(0:Int)≤(s[k].toNat:Int):=by omega
   have hc1:(s[k].toNat:Int)<256:=by have:=s[k].toNat_lt;omega
   have hL:=fun wx=>ref6Letter_any (s[k].toNat:Int) wx hc0 hc1
   have hD:=fun wx=>refDigit_any (s[k].toNat:Int) wx hc0 hc1
   have hlt':(k:Int)<(s.size:Int):=by omega
   have EE:=HE.out k hpk hk hall
   rw [nth_strI s k hlt] at EE
   have EA:Hid (runB (s[k].toNat:Int)=true→∀ j,p≤j→j<k+1→runB (nth (strI s) j)=true):=fun h j hpj hj=>by
    by_cases e:j=k
    ·subst e;rw [nth_strI s j hlt];exact h
    ·exact hall j hpj (by omega)
   have ER:Hid (runB (s[k].toNat:Int)=(letterB (s[k].toNat:Int) || digitB (s[k].toNat:Int))):=rfl
   have EE':Hid (runB (s[k].toNat:Int)=false→runE (strI s) p=k):=fun h=>EE (Or.inr h)
   clear EE hall
   generalize runB (s[k].toNat:Int)=rb at *
   cases hl:letterB (s[k].toNat:Int)
   ·cases hd:digitB (s[k].toNat:Int)
    ·have HB:Hid (runE (strI s) p=k):=EE'.out (by rw [ER.out,hl,hd];rfl)
     rw [hl] at hL
     rw [hd] at hD
     clear hl hd ER EA EE' HE
     go_wp2_with (first | (go_at_call 74;refine (hL _).mono ?_;rintro e w' ⟨rfl,rfl⟩) | (go_at_call 114;refine (hD _).mono ?_;rintro e w' ⟨rfl,rfl⟩))
     go_ret
     exact⟨by rw [HB.out];rfl,rfl⟩
    ·have HA:Hid (∀ j,p≤j→j<k+1→runB (nth (strI s) j)=true):=EA.out (by rw [ER.out,hl,hd];rfl)
     rw [hl] at hL
     rw [hd] at hD
     clear hl hd ER EA EE' HE
     go_wp2_with (first | (go_at_call 74;refine (hL _).mono ?_;rintro e w' ⟨rfl,rfl⟩) | (go_at_call 114;refine (hD _).mono ?_;rintro e w' ⟨rfl,rfl⟩))
     go_round
     case rel=>exact⟨k+1,by omega,by omega,by go_num,HA.out⟩
     case measure=>simp [intOf];omega
   ·have HA:Hid (∀ j,p≤j→j<k+1→runB (nth (strI s) j)=true):=EA.out (by rw [ER.out,hl];rfl)
    rw [hl] at hL
    clear hl ER EA EE' HE hD
    go_wp2_with (go_at_call 74;refine (hL _).mono ?_;rintro e w' ⟨rfl,rfl⟩)
    go_round
    case rel=>exact⟨k+1,by omega,by omega,by go_num,HA.out⟩
    case measure=>simp [intOf];omega
  ·obtain rfl:k=s.size:=by omega
   have HB:Hid (runE (strI s) p=s.size):=HE.out s.size hpk hk hall (Or.inl rfl)
   clear hall HE
   go_wp2
   go_ret
   exact⟨by rw [HB.out];rfl,rfl⟩
theorem refDigit6_any (c:Int) (w:World) (h0:0≤c) (h1:c<16) :
  Calls Tryz.prog 117 #[.int .u8 c] w fun e w'=>e=.returned (.int .u8 (hexD c))∧w=w':=by
 by_cases a:c<10
 ·have H:Hid (hexD c=48+c):=by show _=_;simp [hexD,a]
  go_enter Tryz.func117,Tryz.ntmps117
  go_wp2
  go_ret
  exact⟨by rw [H.out];exact ret_int (by omega),rfl⟩
 ·have H:Hid (hexD c=87+c):=by show _=_;simp [hexD,a]
  go_enter Tryz.func117,Tryz.ntmps117
  go_wp2
  go_ret
  exact⟨by rw [H.out];exact ret_int (by omega),rfl⟩
def RowB (B:Nat) (v:Value) (zs:List Int) (w:World):Prop:=w.ownsRow B 5 1 v zs.length (zs.map (Value.int .u8))
theorem rowB_push {B:Nat} {v:Value} {zs ys:List Int} {w:World} (h:w.ownsRow B 5 1 v (zs.length+ys.length) (zs.map (Value.int .u8)++ys.map (Value.int .u8))):RowB B v (zs++ys) w:=by
 unfold RowB;rw [List.length_append,List.map_append];exact h
theorem one_cells {w:World} (ys:List Int):∀ j u,(ys.map (Value.int .u8))[j]?=some u→(w.alloc (.cells (ys.map (Value.int .u8)).toArray 5)).cell? ((⟨w.heap.size,0,none⟩:Addr).add j)=some u:=by
 intro j u hj
 have:=heap_alloc_new w (.cells (ys.map (Value.int .u8)).toArray 5)
 rw [Addr.add_lit,Nat.zero_add,Lib.cell_of_heap this]
 simpa using hj
theorem oneC_all (ys:List Int):∀ u∈ys.map (Value.int .u8),u.oneCell'=true:=by
 intro u hu
 obtain⟨z,_,rfl⟩:=List.mem_map.1 hu
 rfl
set_option maxHeartbeats 1000000 in
theorem refQuote_any (s:ByteArray) (w:World) (hs:s.size≤1048576) :
  Calls Tryz.prog 78 #[.string s] w fun e w'=>e=.returned (.string (strOfNums (quoteL (strI s))))∧Below w.heap.size w w':=by
 obtain⟨i0,hi,hz0,hz1,hz2⟩:=info_parts Bld.info
 have HLen:=strI_len s
 have HS:Hid (∀ k,k<s.size→(34 :: ((strI s).take (k+1)).flatMap escL)=(34 :: ((strI s).take k).flatMap escL)++escL (nth (strI s) k)):=fun k hk=>by
  rw [flat_snoc _ k (by omega)];rfl
 have HE:Hid ((34 :: ((strI s).take s.size).flatMap escL)++[34]=quoteL (strI s)):=by
  show _=_
  rw [List.take_of_length_le (by omega)];rfl
 have HL:Hid (∀ k,k≤s.size→(34 :: ((strI s).take k).flatMap escL).length≤4 * k+1):=fun k hk=>by
  have:=flat_lenX ((strI s).take k)
  rw [List.length_take] at this
  simp only [List.length_cons];omega
 have HQ:Hid (∀ (v:Value) (wx:World),RowB w.heap.size v (quoteL (strI s)) wx→(convert 44 9 v).run Tryz.prog wx=.ok (.string (strOfNums (quoteL (strI s)))) wx):=fun v wx hr=>by
  unfold RowB at hr
  obtain⟨g,cap,rfl⟩:∃ g cap,v=.slice (some ⟨g,0,none⟩) (quoteL (strI s)).length cap:=by
   rcases hr.2 with ⟨_,h0⟩ | ⟨g,cap,cur,hv,_⟩
   ·simp [quoteL] at h0
   ·exact⟨g,cap,hv⟩
  refine run_convert_bytes_arg wx _ _ Tryz.underlying44 Tryz.underlying5 g 0 _ cap (quoteL (strI s)) rfl (fun i hi=>?_) _ Tryz.underlying9
  obtain⟨b',off',e,_,hcell⟩:=View.ofRow hr rfl i hi
  simp at e
  obtain⟨rfl,rfl⟩:=e
  exact hcell
 clear HLen
 have h0:=(World.ownsRow_nil w w.heap.size 5 1).alloc (.cells #[.int .u8 34] 5)
 go_enter Tryz.func78,Tryz.ntmps78
 go_wp2_with (at_builtin;refine wpList_append_own _ rfl _ _ 44 rfl w.heap.size 5 i0 (.int .u8 0) 1 1 Tryz.underlying44 hi hz0 hz1 hz2 rfl (by decide) _ 0 [] rfl h0 ⟨w.heap.size,0,none⟩ 1 1 ([34].map (Value.int .u8)) rfl rfl (one_cells [34]) (oneC_all _) (by unfold maxLen;omega) (by omega) (by simp) ?_)
 intro v1 w1 hown1 hgr1 _
 have hr1:RowB w.heap.size v1 [34] w1:=rowB_push (zs:=[]) hown1
 have hb1:Below w.heap.size w w1:=((Below.refl _ w).alloc (Nat.le_refl _) _).grown hgr1 (by simp) (fun k e=>by cases e)
 clear hown1 hgr1 h0
 go_wp2_with fail
 go_loopw [3,4] (fun v i wr=>∃ k:Nat,k≤s.size∧i=.int .i64 k∧RowB w.heap.size v (34 :: ((strI s).take k).flatMap escL) wr∧Below w.heap.size w wr) (fun _ i _=>s.size - (intOf i).toNat)
 case atStart=>exact⟨0,Nat.zero_le _,rfl,hr1,hb1⟩
 case round =>
  obtain⟨k,hk,rfl,hR,hbel⟩:=hrel
  have hl:=HL.out k hk
  have hsz:=hbel.size
  clear hr1 hb1
  by_cases hlt:k<s.size
  ·have hc0:(0:Int)≤(s[k].toNat:Int):=by omega
   have hc1:(s[k].toNat:Int)<256:=by have:=s[k].toNat_lt;omega
   have eS:=HS.out k hlt
   rw [nth_strI s k hlt] at eS
   generalize 34 :: ((strI s).take k).flatMap escL=zs at hR hl eS
   have ES:Hid ((34 :: ((strI s).take (k+1)).flatMap escL)=zs++escL (s[k].toNat:Int)):=eS
   clear eS
   cases hp:printB (s[k].toNat:Int)
   ·have hq:¬ ((s[k].toNat:Int)=34∨(s[k].toNat:Int)=92):=fun h=>by
     rcases h with h | h <;> (rw [h] at hp;exact absurd hp (by decide))
    rw [esc_hex hq hp] at ES
    have hd1:=fun wx=>refDigit6_any ((s[k].toNat:Int) / 16) wx (by omega) (by omega)
    have hd2:=fun wx=>refDigit6_any ((s[k].toNat:Int) % 16) wx (by omega) (by omega)
    generalize hexD ((s[k].toNat:Int) / 16)=d1 at *
    generalize hexD ((s[k].toNat:Int) % 16)=d2 at *
    have hra:=World.ownsRow.alloc hR (.cells #[.int .u8 92,.int .u8 120,.int .u8 d1,.int .u8 d2] 5)
    have ew:=hbel.alloc hsz (.cells #[.int .u8 92,.int .u8 120,.int .u8 d1,.int .u8 d2] 5)
    have hcond:(s[k].toNat:Int)<32∨(126:Int)<(s[k].toNat:Int):=by
     simp [printB] at hp;omega
    have hnone:∀ kk,u3.ownBlock=some kk→w.heap.size≤kk:=fun kk e=>(World.ownsRow.lt hR kk e).1
    clear hp hq hR
    rcases hcond with hcn | hcn
    ·go_wp2_with fail
     refine (hd1 _).mono ?_
     rintro e w' ⟨rfl,rfl⟩
     go_wp2_with fail
     refine (hd2 _).mono ?_
     rintro e w' ⟨rfl,rfl⟩
     go_wp2_with (at_builtin;refine wpList_append_own _ rfl _ _ 44 rfl w.heap.size 5 i0 (.int .u8 0) 1 1 Tryz.underlying44 hi hz0 hz1 hz2 rfl (by decide) _ zs.length (zs.map (Value.int .u8)) rfl hra ⟨wr.heap.size,0,none⟩ 4 4 ([92,120,d1,d2].map (Value.int .u8)) rfl rfl (one_cells _) (oneC_all _) (by unfold maxLen;omega) (by omega) (by simp;omega) ?_)
     intro v2 w2 hown2 hgr2 _
     have hr2:RowB w.heap.size v2 (zs++[92,120,d1,d2]) w2:=rowB_push hown2
     have hb2:Below w.heap.size w w2:=ew.grown hgr2 (by simp;omega) (fun kk e=>hnone kk e)
     clear hown2 hgr2 hra ew
     go_wp2_with fail
     go_roundw
     case rel=>exact⟨k+1,by omega,by go_num,by rw [ES.out];exact hr2,hb2⟩
     case measure=>simp [intOf];omega
    ·have hcn2:¬ (s[k].toNat:Int)<32:=by omega
     go_wp2_with fail
     refine (hd1 _).mono ?_
     rintro e w' ⟨rfl,rfl⟩
     go_wp2_with fail
     refine (hd2 _).mono ?_
     rintro e w' ⟨rfl,rfl⟩
     go_wp2_with (at_builtin;refine wpList_append_own _ rfl _ _ 44 rfl w.heap.size 5 i0 (.int .u8 0) 1 1 Tryz.underlying44 hi hz0 hz1 hz2 rfl (by decide) _ zs.length (zs.map (Value.int .u8)) rfl hra ⟨wr.heap.size,0,none⟩ 4 4 ([92,120,d1,d2].map (Value.int .u8)) rfl rfl (one_cells _) (oneC_all _) (by unfold maxLen;omega) (by omega) (by simp;omega) ?_)
     intro v2 w2 hown2 hgr2 _
     have hr2:RowB w.heap.size v2 (zs++[92,120,d1,d2]) w2:=rowB_push hown2
     have hb2:Below w.heap.size w w2:=ew.grown hgr2 (by simp;omega) (fun kk e=>hnone kk e)
     clear hown2 hgr2 hra ew
     go_wp2_with fail
     go_roundw
     case rel=>exact⟨k+1,by omega,by go_num,by rw [ES.out];exact hr2,hb2⟩
     case measure=>simp [intOf];omega
   ·have hpb:=hp
    simp only [printB,decide_eq_true_eq] at hpb
    have n1:¬ (s[k].toNat:Int)<32:=by omega
    have n2:¬ (126:Int)<(s[k].toNat:Int):=by omega
    clear hpb
    by_cases hq:(s[k].toNat:Int)=34∨(s[k].toNat:Int)=92
    ·rw [esc_quote hq] at ES
     have hra:=World.ownsRow.alloc hR (.cells #[.int .u8 92] 5)
     have ew:=hbel.alloc hsz (.cells #[.int .u8 92] 5)
     have hnone:∀ kk,u3.ownBlock=some kk→w.heap.size≤kk:=fun kk e=>(World.ownsRow.lt hR kk e).1
     clear hp hR
     rcases hq with hq | hq
     ·have q1:((s[k].toNat:Int)==34)=true:=by simpa using hq
      clear hq
      go_wp2_with (at_builtin;refine wpList_append_own _ rfl _ _ 44 rfl w.heap.size 5 i0 (.int .u8 0) 1 1 Tryz.underlying44 hi hz0 hz1 hz2 rfl (by decide) _ zs.length (zs.map (Value.int .u8)) rfl hra ⟨wr.heap.size,0,none⟩ 1 1 ([92].map (Value.int .u8)) rfl rfl (one_cells [92]) (oneC_all _) (by unfold maxLen;omega) (by omega) (by simp;omega) ?_)
      intro v2 w2 hown2 hgr2 _
      have hr2:RowB w.heap.size v2 (zs++[92]) w2:=rowB_push hown2
      have hb2:Below w.heap.size w w2:=ew.grown hgr2 (by simp;omega) (fun kk e=>hnone kk e)
      have hsz2:=hb2.size
      have hra2:=World.ownsRow.alloc hr2 (.cells #[.int .u8 (s[k].toNat:Int)] 5)
      have ew2:=hb2.alloc hsz2 (.cells #[.int .u8 (s[k].toNat:Int)] 5)
      have hnone2:∀ kk,v2.ownBlock=some kk→w.heap.size≤kk:=fun kk e=>(World.ownsRow.lt hr2 kk e).1
      clear hown2 hgr2 hra ew hr2
      go_wp2_with (at_builtin;refine wpList_append_own _ rfl (.tmp 42) (.tmp 44) 44 rfl w.heap.size 5 i0 (.int .u8 0) 1 1 Tryz.underlying44 hi hz0 hz1 hz2 rfl (by decide) v2 (zs++[92]).length ((zs++[92]).map (Value.int .u8)) rfl hra2 ⟨w2.heap.size,0,none⟩ 1 1 ([(s[k].toNat:Int)].map (Value.int .u8)) rfl rfl (one_cells _) (oneC_all _) ?c1 ?c2 ?c3 ?_)
      case c1=>unfold maxLen;rw [List.length_append];simp only [List.length_cons,List.length_nil];omega
      case c2=>rw [List.length_append];simp only [List.length_cons,List.length_nil];omega
      case c3=>simp;omega
      intro v3 w3 hown3 hgr3 _
      have hr3:RowB w.heap.size v3 (zs++[92,(s[k].toNat:Int)]) w3:=rowB_push (ys:=[92,(s[k].toNat:Int)]) hown3
      have hb3:Below w.heap.size w w3:=ew2.grown hgr3 (by simp;omega) (fun kk e=>hnone2 kk e)
      clear hown3 hgr3 hra2 ew2
      go_wp2_with fail
      go_roundw
      case rel=>exact⟨k+1,by omega,by go_num,by rw [ES.out];exact hr3,hb3⟩
      case measure=>simp [intOf];omega
     ·have q1:((s[k].toNat:Int)==34)=false:=by rw [hq];rfl
      have q2:((s[k].toNat:Int)==92)=true:=by simpa using hq
      clear hq
      go_wp2_with (at_builtin;refine wpList_append_own _ rfl _ _ 44 rfl w.heap.size 5 i0 (.int .u8 0) 1 1 Tryz.underlying44 hi hz0 hz1 hz2 rfl (by decide) _ zs.length (zs.map (Value.int .u8)) rfl hra ⟨wr.heap.size,0,none⟩ 1 1 ([92].map (Value.int .u8)) rfl rfl (one_cells [92]) (oneC_all _) (by unfold maxLen;omega) (by omega) (by simp;omega) ?_)
      intro v2 w2 hown2 hgr2 _
      have hr2:RowB w.heap.size v2 (zs++[92]) w2:=rowB_push hown2
      have hb2:Below w.heap.size w w2:=ew.grown hgr2 (by simp;omega) (fun kk e=>hnone kk e)
      have hsz2:=hb2.size
      have hra2:=World.ownsRow.alloc hr2 (.cells #[.int .u8 (s[k].toNat:Int)] 5)
      have ew2:=hb2.alloc hsz2 (.cells #[.int .u8 (s[k].toNat:Int)] 5)
      have hnone2:∀ kk,v2.ownBlock=some kk→w.heap.size≤kk:=fun kk e=>(World.ownsRow.lt hr2 kk e).1
      clear hown2 hgr2 hra ew hr2
      go_wp2_with (at_builtin;refine wpList_append_own _ rfl (.tmp 42) (.tmp 44) 44 rfl w.heap.size 5 i0 (.int .u8 0) 1 1 Tryz.underlying44 hi hz0 hz1 hz2 rfl (by decide) v2 (zs++[92]).length ((zs++[92]).map (Value.int .u8)) rfl hra2 ⟨w2.heap.size,0,none⟩ 1 1 ([(s[k].toNat:Int)].map (Value.int .u8)) rfl rfl (one_cells _) (oneC_all _) ?c1 ?c2 ?c3 ?_)
      case c1=>unfold maxLen;rw [List.length_append];simp only [List.length_cons,List.length_nil];omega
      case c2=>rw [List.length_append];simp only [List.length_cons,List.length_nil];omega
      case c3=>simp;omega
      intro v3 w3 hown3 hgr3 _
      have hr3:RowB w.heap.size v3 (zs++[92,(s[k].toNat:Int)]) w3:=rowB_push (ys:=[92,(s[k].toNat:Int)]) hown3
      have hb3:Below w.heap.size w w3:=ew2.grown hgr3 (by simp;omega) (fun kk e=>hnone2 kk e)
      clear hown3 hgr3 hra2 ew2
      go_wp2_with fail
      go_roundw
      case rel=>exact⟨k+1,by omega,by go_num,by rw [ES.out];exact hr3,hb3⟩
      case measure=>simp [intOf];omega
    ·rw [esc_print hq hp] at ES
     have q1:((s[k].toNat:Int)==34)=false:=by simpa using fun e=>hq (.inl e)
     have q2:((s[k].toNat:Int)==92)=false:=by simpa using fun e=>hq (.inr e)
     have hra:=World.ownsRow.alloc hR (.cells #[.int .u8 (s[k].toNat:Int)] 5)
     have ew:=hbel.alloc hsz (.cells #[.int .u8 (s[k].toNat:Int)] 5)
     have hnone:∀ kk,u3.ownBlock=some kk→w.heap.size≤kk:=fun kk e=>(World.ownsRow.lt hR kk e).1
     clear hp hq hR
     go_wp2_with (at_builtin;refine wpList_append_own _ rfl _ _ 44 rfl w.heap.size 5 i0 (.int .u8 0) 1 1 Tryz.underlying44 hi hz0 hz1 hz2 rfl (by decide) _ zs.length (zs.map (Value.int .u8)) rfl hra ⟨wr.heap.size,0,none⟩ 1 1 ([(s[k].toNat:Int)].map (Value.int .u8)) rfl rfl (one_cells _) (oneC_all _) (by unfold maxLen;omega) (by omega) (by simp;omega) ?_)
     intro v2 w2 hown2 hgr2 _
     have hr2:RowB w.heap.size v2 (zs++[(s[k].toNat:Int)]) w2:=rowB_push hown2
     have hb2:Below w.heap.size w w2:=ew.grown hgr2 (by simp;omega) (fun kk e=>hnone kk e)
     clear hown2 hgr2 hra ew
     go_wp2_with fail
     go_roundw
     case rel=>exact⟨k+1,by omega,by go_num,by rw [ES.out];exact hr2,hb2⟩
     case measure=>simp [intOf];omega
  ·obtain rfl:k=s.size:=by omega
   have hE:=HE.out
   have hra:=World.ownsRow.alloc hR (.cells #[.int .u8 34] 5)
   have ew:=hbel.alloc hsz (.cells #[.int .u8 34] 5)
   have hnone:∀ kk,u3.ownBlock=some kk→w.heap.size≤kk:=fun kk e=>(World.ownsRow.lt hR kk e).1
   clear hR
   generalize 34 :: ((strI s).take s.size).flatMap escL=zs at *
   go_wp2_with (at_builtin;refine wpList_append_own _ rfl _ _ 44 rfl w.heap.size 5 i0 (.int .u8 0) 1 1 Tryz.underlying44 hi hz0 hz1 hz2 rfl (by decide) _ zs.length (zs.map (Value.int .u8)) rfl hra ⟨wr.heap.size,0,none⟩ 1 1 ([34].map (Value.int .u8)) rfl rfl (one_cells [34]) (oneC_all _) (by unfold maxLen;omega) (by omega) (by simp;omega) ?_)
   intro v2 w2 hown2 hgr2 _
   have hr2:RowB w.heap.size v2 (zs++[34]) w2:=rowB_push hown2
   have hb2:Below w.heap.size w w2:=ew.grown hgr2 (by simp;omega) (fun kk e=>hnone kk e)
   rw [hE] at hr2
   have hcv:=HQ.out v2 w2 hr2
   clear hown2 hgr2 hra ew hr2 hE
   go_wp2_with fail
   go_ret
   exact⟨rfl,hb2⟩
end Go.Proofs.YtonhnflilfjkbaaGreatDoor
