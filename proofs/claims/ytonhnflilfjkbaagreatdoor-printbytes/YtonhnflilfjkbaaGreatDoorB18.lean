/-
  Texts in one: LexNumber, LexWords, LexQuote, LexWrite, MathLn, AsmRow, AsmWanted, AsmTakeW, AsmTakeO, AsmArg, AsmArgO, AsmSays, AsmRd, GrammarNamed, AsmOp, AsmOpO, AsmOpS, AsmOpA, AsmEnd, Jumps, AsmRead0, AsmRead1, AsmRead2, AsmRead, AsmNumber, AsmHead, LexStep, LexQuoted, StringsClone, LexTok0.
-/
import Derived.Test.YtonhnflilfjkbaaGreatDoorB17
import Derived.ScopeJumps
import Derived.OwnWalk
import Derived.Shelf.Strconv.Clone
namespace Go.Proofs.YtonhnflilfjkbaaGreatDoor
open Go.RowKit
set_option maxRecDepth 10000
set_option linter.unusedVariables false
set_option linter.unusedSimpArgs false
theorem str_empty_strI {s:ByteArray}:(strI s).isEmpty=s.toList.isEmpty:=by
 rw [ByteArray.toList_eq,strI,List.isEmpty_map]
set_option maxHeartbeats 1000000 in
theorem digitsOf_any (s:ByteArray) (b:Int) (w:World) (hs:s.size≤140737488351232) (hb:b=10∨b=16) :
  Calls Tryz.prog 131 #[.string s,.int .u64 b] w fun e w'=>(∃ x:Int,e=.returned (.tuple #[.int .u32 x,.bool (digsB b (strI s))])∧0≤x∧x<4294967296∧(digsB b (strI s)=true→x=valF b 0 (strI s)))∧w=w':=by
 have HLen:=strI_len s
 have HF:Hid (∀ k,k<s.size→b≤dvI (nth (strI s) k)→digsB b (strI s)=false):=fun k hk h=>digs_not (by omega) h
 have HG:Hid (∀ k,4294967296≤valF b 0 ((strI s).take k)→digsB b (strI s)=false):=fun k h=>digs_large (by omega) h
 have HA:Hid (∀ k,k<s.size→allD b ((strI s).take k)=true→dvI (nth (strI s) k)<b→allD b ((strI s).take (k+1))=true):=fun k hk h h1=>allD_snoc (by omega) h h1
 have HV:Hid (∀ k,k<s.size→valF b 0 ((strI s).take (k+1))=valF b 0 ((strI s).take k) * b+dvI (nth (strI s) k)):=fun k hk=>valF_take b _ k (by omega)
 have HW:Hid (∀ k,0≤valF b 0 ((strI s).take k)):=fun k=>valF_lo b _ (by omega)
 have HE:Hid (allD b ((strI s).take s.size)=true→valF b 0 ((strI s).take s.size)<4294967296→digsB b (strI s)=!s.toList.isEmpty∧valF b 0 ((strI s).take s.size)=valF b 0 (strI s)):=fun h1 h2=>by
  rw [List.take_of_length_le (by omega)] at h1 h2 ⊢
  refine⟨?_,rfl⟩
  rw [digs_all h1 h2,str_empty_strI]
 clear HLen
 go_enter Tryz.func131,Tryz.ntmps131
 go_wp2
 go_loop [6,11] (fun n i=>∃ k:Nat,k≤s.size∧i=.int .i64 k∧n=.int .u64 (valF b 0 ((strI s).take k))∧allD b ((strI s).take k)=true∧valF b 0 ((strI s).take k)<4294967296) (fun _ i=>s.size - (intOf i).toNat)
 case atStart=>exact⟨0,Nat.zero_le _,rfl,rfl,rfl,by simp [valF]⟩
 case round =>
  obtain⟨k,hk,rfl,rfl,hall,hlt32⟩:=hrel
  have hn0:=HW.out k
  by_cases hlt:k<s.size
  ·have hc0:(0:Int)≤(s[k].toNat:Int):=by omega
   have hc1:(s[k].toNat:Int)<256:=by have:=s[k].toNat_lt;omega
   have hD:=fun wx=>digitValue_any (s[k].toNat:Int) wx hc0 hc1
   have d0:=dv_lo (s[k].toNat:Int)
   have d1:=dv_hi (s[k].toNat:Int)
   have eF:=HF.out k hlt
   have eG:=HG.out (k+1)
   have eA:=HA.out k hlt hall
   have eV:=HV.out k hlt
   rw [nth_strI s k hlt] at eF eA eV
   rw [eV] at eG
   have EF:Hid (b≤dvI (s[k].toNat:Int)→digsB b (strI s)=false):=eF
   have EG:Hid (4294967296≤valF b 0 ((strI s).take k) * b+dvI (s[k].toNat:Int)→digsB b (strI s)=false):=eG
   have EA:Hid (dvI (s[k].toNat:Int)<b→allD b ((strI s).take (k+1))=true):=eA
   have EV:Hid (valF b 0 ((strI s).take (k+1))=valF b 0 ((strI s).take k) * b+dvI (s[k].toNat:Int)):=eV
   clear eF eG eA eV hall
   generalize dvI (s[k].toNat:Int)=d at *
   generalize valF b 0 ((strI s).take k)=n at *
   by_cases hge:b≤d
   ·have HB:Hid (digsB b (strI s)=false):=EF.out hge
    have hdec:decide (b≤d)=true:=decide_eq_true hge
    go_wp2_with (go_at_call 155;refine (hD _).mono ?_;rintro e w' ⟨rfl,rfl⟩)
    go_ret2
    exact⟨⟨0,by rw [HB.out];rfl,by omega,by omega,fun h=>by rw [HB.out] at h;cases h⟩,rfl⟩
   ·have hdec:decide (b≤d)=false:=decide_eq_false hge
    by_cases hbig:4294967296≤n * b+d
    ·have HB:Hid (digsB b (strI s)=false):=EG.out hbig
     have hdec2:decide ((4294967295:Int)<n * b+d)=true:=decide_eq_true (by omega)
     have hw1:0≤n * b∧n * b<18446744073709551616:=by rcases hb with rfl | rfl <;> omega
     have hw2:0≤n * b+d∧n * b+d<18446744073709551616:=by rcases hb with rfl | rfl <;> omega
     clear hbig
     rcases hb with rfl | rfl <;>
     ·go_wp2_with (go_at_call 155;refine (hD _).mono ?_;rintro e w' ⟨rfl,rfl⟩)
      go_ret2
      exact⟨⟨0,by rw [HB.out];rfl,by omega,by omega,fun h=>by rw [HB.out] at h;cases h⟩,rfl⟩
    ·have hdec2:decide ((4294967295:Int)<n * b+d)=false:=decide_eq_false (by omega)
     have hsm:n * b+d<4294967296:=by omega
     clear hbig
     rcases hb with rfl | rfl <;>
     ·go_wp2_with (go_at_call 155;refine (hD _).mono ?_;rintro e w' ⟨rfl,rfl⟩)
      go_round
      case rel=>exact⟨k+1,by omega,by go_num,by rw [EV.out],EA.out (by omega),by rw [EV.out];exact hsm⟩
      case measure=>simp [intOf];omega
  ·obtain rfl:k=s.size:=by omega
   obtain⟨e1,e2⟩:=HE.out hall hlt32
   have E2:Hid (valF b 0 ((strI s).take s.size)=valF b 0 (strI s)):=e2
   clear e2 hall
   generalize valF b 0 ((strI s).take s.size)=n at *
   have E1:Hid (digsB b (strI s)=!s.toList.isEmpty):=e1
   clear e1
   go_wp2
   go_ret2
   refine⟨⟨n,?_,hn0,hlt32,fun _=>E2.out⟩,rfl⟩
   rw [E1.out];rfl
theorem plainNumber_any (s:ByteArray) (w:World) (hs:s.size≤140737488351232) :
  Calls Tryz.prog 87 #[.string s] w fun e w'=>(∃ x:Int,e=.returned (.tuple #[.int .u32 x,.bool (plainB (strI s))])∧0≤x∧x<4294967296∧(plainB (strI s)=true→x=valF 10 0 (strI s)))∧w=w':=by
 have hD:=fun wx=>digitsOf_any s 10 wx hs (.inl rfl)
 by_cases h1:1<s.size
 ·have h0:=nth_strI s 0 (by omega)
  by_cases hz:(s[0].toNat:Int)=48
  ·have HB:Hid (plainB (strI s)=false):=plain_zero (by rw [strI_len];exact h1) (by rw [h0];exact hz)
   have hz':((s[0].toNat:Int)==48)=true:=by simpa using hz
   clear h0 hz
   go_enter Tryz.func87,Tryz.ntmps87
   go_wp2_with fail
   go_ret2
   exact⟨⟨0,by rw [HB.out];rfl,by omega,by omega,fun h=>by rw [HB.out] at h;cases h⟩,rfl⟩
  ·have HB:Hid (plainB (strI s)=digsB 10 (strI s)):=plain_digs (by rw [h0];intro h;exact hz h.2)
   have hz':((s[0].toNat:Int)==48)=false:=by simpa using hz
   clear h0 hz
   go_enter Tryz.func87,Tryz.ntmps87
   go_wp2_with fail
   refine (hD _).mono ?_
   rintro e w' ⟨⟨x,rfl,hx0,hx1,hx⟩,rfl⟩
   go_wp2_with fail
   go_ret2
   exact⟨⟨x,by rw [HB.out];rfl,hx0,hx1,fun h=>hx (by rw [HB.out] at h;exact h)⟩,rfl⟩
 ·have HB:Hid (plainB (strI s)=digsB 10 (strI s)):=plain_digs (by rw [strI_len];intro h;exact h1 h.1)
  go_enter Tryz.func87,Tryz.ntmps87
  go_wp2_with fail
  refine (hD _).mono ?_
  rintro e w' ⟨⟨x,rfl,hx0,hx1,hx⟩,rfl⟩
  go_wp2_with fail
  go_ret2
  exact⟨⟨x,by rw [HB.out];rfl,hx0,hx1,fun h=>hx (by rw [HB.out] at h;exact h)⟩,rfl⟩
def pfxB (t s:ByteArray):Bool:=decide (s.size≤t.size) && ((t.extract 0 s.size).toList==s.toList)
def pfxS (t s:ByteArray):ByteArray:=if pfxB t s then t.extract s.size t.size else t
theorem litePfx_any (t s:ByteArray) (w:World) (ht:t.size≤140737488351232) (hs:s.size≤140737488351232) :
  Calls Tryz.prog 174 #[.string t,.string s] w fun e w'=>e=.returned (.bool (pfxB t s))∧w=w':=by
 by_cases h:s.size≤t.size
 ·have HE:Hid (pfxB t s=((t.extract 0 s.size).toList==s.toList)):=by show _=_;unfold pfxB;rw [decide_eq_true h];rfl
  have h':decide ((t.size:Int) ≥ (s.size:Int))=true:=decide_eq_true (by omega)
  have hi:(s.size:Int)≤(t.size:Int):=by omega
  go_enter Tryz.func174,Tryz.ntmps174
  go_wp2
  go_ret
  exact⟨by rw [HE.out];rfl,rfl⟩
 ·have HE:Hid (pfxB t s=false):=by show _=_;unfold pfxB;rw [decide_eq_false h];rfl
  go_enter Tryz.func174,Tryz.ntmps174
  go_wp2
  go_ret
  exact⟨by rw [HE.out];rfl,rfl⟩
theorem liteCutPrefix_any (t s:ByteArray) (w:World) (ht:t.size≤140737488351232) (hs:s.size≤140737488351232) :
  Calls Tryz.prog 156 #[.string t,.string s] w fun e w'=>e=.returned (.tuple #[.string (pfxS t s),.bool (pfxB t s)])∧w=w':=by
 have hP:=fun wx=>litePfx_any t s wx ht hs
 cases hb:pfxB t s
 ·have HS:Hid (pfxS t s=t):=by show _=_;simp [pfxS,hb]
  rw [hb] at hP
  clear hb
  go_enter Tryz.func156,Tryz.ntmps156
  go_wp2_with fail
  refine (hP _).mono ?_
  rintro e w' ⟨rfl,rfl⟩
  go_wp2_with fail
  go_ret2
  exact⟨by rw [HS.out];rfl,rfl⟩
 ·have HS:Hid (pfxS t s=t.extract s.size t.size):=by show _=_;simp [pfxS,hb]
  have hle:s.size≤t.size:=by simp only [pfxB,Bool.and_eq_true,decide_eq_true_eq] at hb;exact hb.1
  have hi:(s.size:Int)≤(t.size:Int):=by omega
  rw [hb] at hP
  clear hb
  go_enter Tryz.func156,Tryz.ntmps156
  go_wp2_with fail
  refine (hP _).mono ?_
  rintro e w' ⟨rfl,rfl⟩
  go_wp2_with fail
  go_ret2
  exact⟨by rw [HS.out];rfl,rfl⟩
theorem cutPrefix_any (t s:ByteArray) (w:World) (ht:t.size≤140737488351232) (hs:s.size≤140737488351232) :
  Calls Tryz.prog 132 #[.string t,.string s] w fun e w'=>e=.returned (.tuple #[.string (pfxS t s),.bool (pfxB t s)])∧w=w':=by
 have hP:=fun wx=>liteCutPrefix_any t s wx ht hs
 generalize pfxB t s=b at *
 generalize pfxS t s=u at *
 go_enter Tryz.func132,Tryz.ntmps132
 go_wp2_with fail
 refine (hP _).mono ?_
 rintro e w' ⟨rfl,rfl⟩
 go_wp2_with fail
 go_ret2
 exact⟨rfl,rfl⟩
theorem pfx_strI (t s:ByteArray):pfxB t s=decide ((strI t).take s.size=strI s):=by
 have h1:=strI_len t
 have h2:=strI_len s
 have e:((t.extract 0 s.size).toList==s.toList)=decide ((strI t).take s.size=strI s):=by
  rw [ByteArray.toList_eq,ByteArray.toList_eq]
  have e3:strI (t.extract 0 s.size)=(strI t).take s.size:=by rw [strI_extract];rfl
  rw [← e3]
  by_cases h:(t.extract 0 s.size).data.toList=s.data.toList
  ·have:strI (t.extract 0 s.size)=strI s:=by unfold strI;rw [h]
   rw [h,decide_eq_true this];simp
  ·have:¬ strI (t.extract 0 s.size)=strI s:=fun h'=>h (by rw [strI_inj h'])
   rw [decide_eq_false this];simpa using h
 unfold pfxB;rw [e]
 by_cases hs:s.size≤t.size
 ·simp [hs]
 ·have:¬ (strI t).take s.size=strI s:=fun h=>by
   have:=congrArg List.length h
   rw [List.length_take] at this;omega
  rw [decide_eq_false this,Bool.and_false]
theorem pfxS_strI {t s:ByteArray} (h:pfxB t s=true):strI (pfxS t s)=(strI t).drop s.size:=by
 rw [pfxS,if_pos h,strI_extract,List.take_of_length_le (by rw [strI_len];omega)]
theorem pfxS_size (t s:ByteArray):(pfxS t s).size≤t.size:=by
 unfold pfxS;split
 ·rw [ByteArray.size_extract];omega
 ·omega
theorem num_neg {l:List Int} (h:l.take 1=[45]):numB l=(plainB (l.drop 1) && decide (1≤valF 10 0 (l.drop 1)∧valF 10 0 (l.drop 1)≤2147483648))∧numV l=4294967296 - valF 10 0 (l.drop 1):=by
 unfold numB numV;rw [if_pos h,if_pos h];exact⟨rfl,rfl⟩
theorem num_hex {l:List Int} (h0:¬ l.take 1=[45]) (h:l.take 2=[48,120]):numB l=(digsB 16 (l.drop 2) && decide (l.length≤10))∧numV l=valF 16 0 (l.drop 2):=by
 unfold numB numV;rw [if_neg h0,if_neg h0,if_pos h,if_pos h];exact⟨rfl,rfl⟩
theorem num_plain {l:List Int} (h0:¬ l.take 1=[45]) (h:¬ l.take 2=[48,120]):numB l=plainB l∧numV l=valF 10 0 l:=by
 unfold numB numV;rw [if_neg h0,if_neg h0,if_neg h,if_neg h];exact⟨rfl,rfl⟩
theorem number_any (s:ByteArray) (w:World) (hs:s.size≤140737488351232) :
  Calls Tryz.prog 88 #[.string s] w fun e w'=>(∃ x:Int,e=.returned (.tuple #[.int .u32 x,.bool (numB (strI s))])∧0≤x∧x<4294967296∧(numB (strI s)=true→x=numV (strI s)))∧w=w':=by
 have hP:∀ wx,_:=fun wx=>cutPrefix_any s { data:=#[45] } wx hs (by decide)
 have hQ:∀ wx,_:=fun wx=>cutPrefix_any s { data:=#[48,120] } wx hs (by decide)
 have e1:=pfx_strI s { data:=#[45] }
 have e2:=pfx_strI s { data:=#[48,120] }
 rw [show strI { data:=#[45] }=[45] from rfl,show ByteArray.size { data:=#[45] }=1 from rfl] at e1
 rw [show strI { data:=#[48,120] }=[48,120] from rfl,show ByteArray.size { data:=#[48,120] }=2 from rfl] at e2
 by_cases hm:(strI s).take 1=[45]
 ·rw [decide_eq_true hm] at e1
  have e3:=pfxS_strI e1
  rw [show ByteArray.size { data:=#[45] }=1 from rfl] at e3
  have hN:=fun wx=>plainNumber_any (pfxS s { data:=#[45] }) wx (Nat.le_trans (pfxS_size _ _) hs)
  obtain⟨n1,n2⟩:=num_neg hm
  rw [e3] at hN
  rw [e1] at hP
  have N1:Hid (numB (strI s)=_):=n1
  have N2:Hid (numV (strI s)=_):=n2
  generalize pfxS s { data:=#[45] }=u at hP hN
  generalize (strI s).drop 1=l at hN N1 N2
  generalize plainB l=B at hN N1
  generalize valF 10 0 l=v at hN N1 N2
  clear hQ e1 e2 e3 n1 n2 hm
  go_enter Tryz.func88,Tryz.ntmps88
  go_wp2_with fail
  refine (hP _).mono ?_
  rintro e w' ⟨rfl,rfl⟩
  go_wp2_with fail
  refine (hN _).mono ?_
  rintro e w' ⟨⟨x,rfl,hx0,hx1,hx⟩,rfl⟩
  cases B
  ·have HB:Hid (numB (strI s)=false):=by show _=_;rw [N1.out];rfl
   clear N1 N2 hx hP hN
   go_wp2
   go_ret2
   exact⟨⟨_,by rw [HB.out];rfl,by omega,by omega,fun h=>by rw [HB.out] at h;cases h⟩,rfl⟩
  ·obtain rfl:=hx rfl
   clear hx hP hN
   by_cases h1:1≤x
   ·have HB:Hid (numB (strI s)=decide (x≤2147483648)):=by show _=_;rw [N1.out];simp [h1]
    go_wp2
    go_ret2
    exact⟨⟨-x % 4294967296,by rw [HB.out];rfl,by omega,by omega,fun h=>by rw [HB.out] at h;have:=of_decide_eq_true h;rw [N2.out];omega⟩,rfl⟩
   ·have HB:Hid (numB (strI s)=false):=by show _=_;rw [N1.out];simp [h1]
    go_wp2
    go_ret2
    exact⟨⟨_,by rw [HB.out];rfl,by omega,by omega,fun h=>by rw [HB.out] at h;cases h⟩,rfl⟩
 ·rw [decide_eq_false hm] at e1
  rw [e1] at hP
  by_cases hx:(strI s).take 2=[48,120]
  ·rw [decide_eq_true hx] at e2
   have e3:=pfxS_strI e2
   rw [show ByteArray.size { data:=#[48,120] }=2 from rfl] at e3
   have hN:=fun wx=>digitsOf_any (pfxS s { data:=#[48,120] }) 16 wx (Nat.le_trans (pfxS_size _ _) hs) (.inr rfl)
   obtain⟨n1,n2⟩:=num_hex hm hx
   rw [e3] at hN
   rw [e2] at hQ
   have hlen:(pfxS s { data:=#[48,120] }).size=s.size - 2:=by
    rw [← strI_len,e3,List.length_drop,strI_len]
   have h2:2≤s.size:=by
    have:=congrArg List.length hx
    rw [List.length_take,strI_len] at this
    simp at this;omega
   have N1:Hid (numB (strI s)=_):=n1
   have N2:Hid (numV (strI s)=_):=n2
   rw [strI_len] at N1
   generalize pfxS s { data:=#[45] }=u' at hP
   generalize pfxS s { data:=#[48,120] }=u at hQ hN hlen
   generalize (strI s).drop 2=l at hN N1 N2
   generalize digsB 16 l=B at hN N1
   generalize valF 16 0 l=v at hN N1 N2
   have hu:u.size≤140737488351232:=by omega
   have HLEN:Hid (u.size=s.size - 2):=hlen
   clear e1 e2 e3 n1 n2 hm hx hlen
   go_enter Tryz.func88,Tryz.ntmps88
   go_wp2_with fail
   refine (hP _).mono ?_
   rintro e w' ⟨rfl,rfl⟩
   go_wp2_with fail
   refine (hQ _).mono ?_
   rintro e w' ⟨rfl,rfl⟩
   go_wp2_with fail
   refine (hN _).mono ?_
   rintro e w' ⟨⟨x,rfl,hx0,hx1,hx⟩,rfl⟩
   cases B
   ·have HB:Hid (numB (strI s)=false):=by show _=_;rw [N1.out];rfl
    clear N1 N2 hx hP hN hQ
    go_wp2
    go_ret2
    exact⟨⟨_,by rw [HB.out];rfl,hx0,hx1,fun h=>by rw [HB.out] at h;cases h⟩,rfl⟩
   ·obtain rfl:=hx rfl
    clear hx hP hN hQ
    have HB:Hid (numB (strI s)=decide ((u.size:Int)≤8)):=by
     show _=_
     have hlen:=HLEN.out
     rw [N1.out]
     by_cases h:s.size≤10
     ·rw [decide_eq_true h,decide_eq_true (by omega)];rfl
     ·rw [decide_eq_false h,decide_eq_false (by omega)];rfl
    go_wp2
    go_ret2
    exact⟨⟨_,by rw [HB.out];rfl,hx0,hx1,fun h=>by rw [N2.out]⟩,rfl⟩
  ·rw [decide_eq_false hx] at e2
   rw [e2] at hQ
   have hN:=fun wx=>plainNumber_any s wx hs
   obtain⟨n1,n2⟩:=num_plain hm hx
   have N1:Hid (numB (strI s)=_):=n1
   have N2:Hid (numV (strI s)=_):=n2
   clear n1 n2 e1 e2 hm hx
   generalize pfxS s { data:=#[45] }=u' at hP
   generalize pfxS s { data:=#[48,120] }=u at hQ
   generalize plainB (strI s)=B at hN N1
   generalize valF 10 0 (strI s)=v at hN N2
   go_enter Tryz.func88,Tryz.ntmps88
   go_wp2_with fail
   refine (hP _).mono ?_
   rintro e w' ⟨rfl,rfl⟩
   go_wp2_with fail
   refine (hQ _).mono ?_
   rintro e w' ⟨rfl,rfl⟩
   go_wp2_with fail
   refine (hN _).mono ?_
   rintro e w' ⟨⟨x,rfl,hx0,hx1,hx⟩,rfl⟩
   go_wp2_with fail
   go_ret2
   exact⟨⟨_,by rw [N1.out];rfl,hx0,hx1,fun h=>by rw [N2.out];exact hx (by rw [N1.out] at h;exact h)⟩,rfl⟩
set_option maxHeartbeats 1000000 in
theorem isWord_any (s:ByteArray) (w:World) (hs:s.size≤140737488351232) :
  Calls Tryz.prog 86 #[.string s] w fun e w'=>e=.returned (.bool (wordB (strI s)))∧w=w':=by
 have HN:Hid (∀ k,k<s.size→runB (nth (strI s) k)=false→wordB (strI s)=false):=fun k hk h=>word_not (by rw [strI_len];exact hk) h
 have HA:Hid ((∀ k,k<s.size→runB (nth (strI s) k)=true)→wordB (strI s)=(!s.toList.isEmpty && letterB (nth (strI s) 0))):=fun h=>by
  rw [← str_empty_strI]
  cases hl:strI s with
  | nil=>rfl
  | cons c r =>
   rw [← hl,word_all (by rw [hl];simp) (fun k hk=>h k (by rw [← strI_len];exact hk)),hl];rfl
 have HZ:Hid (s.size=0→s.toList.isEmpty=true):=fun h=>by rw [← str_empty_strI,List.isEmpty_iff,← List.length_eq_zero_iff,strI_len];exact h
 have HZ2:Hid (0<s.size→s.toList.isEmpty=false):=fun h=>by
  rw [← str_empty_strI]
  have:=strI_len s
  cases hl:strI s with
  | nil=>rw [hl] at this;simp at this;omega
  | cons c r=>rfl
 go_enter Tryz.func86,Tryz.ntmps86
 go_wp2
 go_loop [6] (fun i=>∃ k:Nat,k≤s.size∧i=.int .i64 k∧∀ j,j<k→runB (nth (strI s) j)=true) (fun i=>s.size - (intOf i).toNat)
 case atStart=>exact⟨0,Nat.zero_le _,rfl,fun j hj=>by omega⟩
 case round =>
  obtain⟨k,hk,rfl,hall⟩:=hrel
  by_cases hlt:k<s.size
  ·have hc0:(0:Int)≤(s[k].toNat:Int):=by omega
   have hc1:(s[k].toNat:Int)<256:=by have:=s[k].toNat_lt;omega
   have hK:=fun wx=>lexKindOf_any (s[k].toNat:Int) wx hc0 hc1
   have hR:=fun wx=>inRun_any (kindL (s[k].toNat:Int)) wx (by have:=kind_lo (s[k].toNat:Int);omega) (by have:=kind_hi (s[k].toNat:Int);omega)
   have EN:=HN.out k hlt
   rw [nth_strI s k hlt] at EN
   have EA:Hid (runB (s[k].toNat:Int)=true→∀ j,j<k+1→runB (nth (strI s) j)=true):=fun h j hj=>by
    by_cases e:j=k
    ·subst e;rw [nth_strI s j hlt];exact h
    ·exact hall j (by omega)
   have EN':Hid (runB (s[k].toNat:Int)=false→wordB (strI s)=false):=EN
   clear EN hall
   rw [kind_run] at hR
   generalize kindL (s[k].toNat:Int)=kd at *
   generalize runB (s[k].toNat:Int)=rb at *
   cases rb
   ·have HB:Hid (wordB (strI s)=false):=EN'.out rfl
    go_wp2_with (first | (go_at_call 130;refine (hK _).mono ?_;rintro e w' ⟨rfl,rfl⟩) | (go_at_call 129;refine (hR _).mono ?_;rintro e w' ⟨rfl,rfl⟩))
    go_ret
    exact⟨by rw [HB.out];rfl,rfl⟩
   ·go_wp2_with (first | (go_at_call 130;refine (hK _).mono ?_;rintro e w' ⟨rfl,rfl⟩) | (go_at_call 129;refine (hR _).mono ?_;rintro e w' ⟨rfl,rfl⟩))
    go_round
    case rel=>exact⟨k+1,by omega,by go_num,EA.out trivial⟩
    case measure=>simp [intOf];omega
  ·obtain rfl:k=s.size:=by omega
   have HB:Hid (wordB (strI s)=(!s.toList.isEmpty && letterB (nth (strI s) 0))):=HA.out hall
   clear hall
   by_cases hz:0<s.size
   ·have he:=HZ2.out hz
    have hc0:(0:Int)≤(s[0].toNat:Int):=by omega
    have hc1:(s[0].toNat:Int)<256:=by have:=s[0].toNat_lt;omega
    have hK:=fun wx=>lexKindOf_any (s[0].toNat:Int) wx hc0 hc1
    rw [nth_strI s 0 hz] at HB
    have HK:Hid ((kindL (s[0].toNat:Int)==3)=letterB (s[0].toNat:Int)):=kind_letter _
    have HB2:Hid (wordB (strI s)=(kindL (s[0].toNat:Int)==3)):=by show _=_;rw [HB.out,he,HK.out];rfl
    clear HB HK
    generalize kindL (s[0].toNat:Int)=kd at *
    go_wp2_with (go_at_call 130;refine (hK _).mono ?_;rintro e w' ⟨rfl,rfl⟩)
    go_ret
    exact⟨by rw [HB2.out];rfl,rfl⟩
   ·have he:=HZ.out (by omega)
    have HB2:Hid (wordB (strI s)=false):=by show _=_;rw [HB.out,he];rfl
    clear HB
    go_wp2_with fail
    go_ret
    exact⟨by rw [HB2.out];rfl,rfl⟩
theorem eq_strI (s t:ByteArray):(s.toList==t.toList)=decide (strI s=strI t):=by
 rw [ByteArray.toList_eq,ByteArray.toList_eq]
 by_cases h:s.data.toList=t.data.toList
 ·have:strI s=strI t:=by unfold strI;rw [h]
  rw [h,decide_eq_true this];simp
 ·have:¬ strI s=strI t:=fun h'=>h (by rw [strI_inj h'])
  rw [decide_eq_false this];simpa using h
theorem mayBe_any (k:Int) (s:ByteArray) (a:Int) (w:World) (hk0:0≤k) (hk1:k<256) (hs:s.size≤140737488351232) :
  Calls Tryz.prog 49 #[.agg #[.int .u8 k,.string s,.int .i64 a]] w fun e w'=>e=.returned (.bool (tokOk k (strI s)))∧Below w.heap.size w w':=by
 have HB:Hid (Below w.heap.size w (w.alloc (.cells #[.int .u8 k,.string s,.int .i64 a] 81))):=(Below.refl _ w).alloc (Nat.le_refl _) _
 by_cases k1:k=1
 ·subst k1
  have HT:Hid (tokOk 1 (strI s)=wordB (strI s)):=rfl
  have hW:=fun wx=>isWord_any s wx hs
  generalize wordB (strI s)=B at hW HT
  go_enter Tryz.func49,Tryz.ntmps49
  go_wp2_with fail
  refine (hW _).mono ?_
  rintro e w' ⟨rfl,rfl⟩
  go_wp2_with fail
  go_ret
  exact⟨by rw [HT.out];rfl,HB.out⟩
 by_cases k2:k=2
 ·subst k2
  have HT:Hid (tokOk 2 (strI s)=plainB (strI s)):=rfl
  have hW:=fun wx=>plainNumber_any s wx hs
  generalize plainB (strI s)=B at hW HT
  go_enter Tryz.func49,Tryz.ntmps49
  go_wp2_with fail
  refine (hW _).mono ?_
  rintro e w' ⟨⟨x,rfl,_,_,_⟩,rfl⟩
  go_wp2_with fail
  go_ret
  exact⟨by rw [HT.out];rfl,HB.out⟩
 by_cases k3:k=3
 ·subst k3
  have HT:Hid (tokOk 3 (strI s)=numB (strI s)):=rfl
  have hW:=fun wx=>number_any s wx hs
  generalize numB (strI s)=B at hW HT
  go_enter Tryz.func49,Tryz.ntmps49
  go_wp2_with fail
  refine (hW _).mono ?_
  rintro e w' ⟨⟨x,rfl,_,_,_⟩,rfl⟩
  go_wp2_with fail
  go_ret
  exact⟨by rw [HT.out];rfl,HB.out⟩
 by_cases k4:k=4
 ·subst k4
  have HT:Hid (tokOk 4 (strI s)=true):=rfl
  go_enter Tryz.func49,Tryz.ntmps49
  go_wp2_with fail
  go_ret
  exact⟨by rw [HT.out];rfl,HB.out⟩
 by_cases k5:k=5
 ·subst k5
  have HT:Hid (tokOk 5 (strI s)=(s.toList==[61])):=by
   have e:=eq_strI s { data:=#[61] }
   rw [show ByteArray.toList { data:=#[61] }=[61] by rw [ByteArray.toList_eq]] at e
   show _=_
   rw [e];rfl
  go_enter Tryz.func49,Tryz.ntmps49
  go_wp2_with fail
  go_ret
  exact⟨by rw [HT.out];rfl,HB.out⟩
 have HT:Hid (tokOk k (strI s)=false):=by show _=_;simp [tokOk,k1,k2,k3,k4,k5]
 have b1:(k==1)=false:=by simpa using k1
 have b2:(k==2)=false:=by simpa using k2
 have b3:(k==3)=false:=by simpa using k3
 have b4:(k==4)=false:=by simpa using k4
 have b5:(k==5)=false:=by simpa using k5
 clear k1 k2 k3 k4 k5
 go_enter Tryz.func49,Tryz.ntmps49
 go_wp2_with fail
 go_ret
 exact⟨by rw [HT.out];rfl,HB.out⟩
theorem esc_quote {c:Int} (h:c=34∨c=92):escL c=[92,c]:=by unfold escL;rw [if_pos h]
theorem esc_print {c:Int} (h:¬ (c=34∨c=92)) (h1:printB c=true):escL c=[c]:=by unfold escL;rw [if_neg h,if_pos h1]
theorem esc_hex {c:Int} (h:¬ (c=34∨c=92)) (h1:printB c=false):escL c=[92,120,hexD (c / 16),hexD (c % 16)]:=by unfold escL;rw [if_neg h,if_neg (by simp [h1])]
theorem and15 {c:Int} (h0:0≤c) (h1:c<256):bits .and .u8 c 15=c % 16:=by
 obtain⟨n,rfl⟩:=Int.eq_ofNat_of_zero_le h0
 have hn:n<256:=by omega
 have key:∀ n:Fin 256,bits .and .u8 ((n.val:Nat):Int) 15=((n.val:Nat):Int) % 16:=by decide +kernel
 exact key ⟨n,hn⟩
set_option maxHeartbeats 2000000 in
theorem quote_any (s:ByteArray) (w:World) (hs:4 * s.size+2≤140737488355328) :
  Calls Tryz.prog 90 #[.string s] w fun e w'=>e=.returned (.string (strOfNums (quoteL (strI s))))∧Below w.heap.size w w':=by
 have HLen:=strI_len s
 have HS:Hid (∀ k,k<s.size→(34 :: ((strI s).take (k+1)).flatMap escL)=(34 :: ((strI s).take k).flatMap escL)++escL (nth (strI s) k)):=fun k hk=>by
  rw [flat_snoc _ k (by omega)];rfl
 have HE:Hid ((34 :: ((strI s).take s.size).flatMap escL)++[34]=quoteL (strI s)):=by
  show _=_
  rw [List.take_of_length_le (by omega)];rfl
 have HW:Hid (Within 256 (quoteL (strI s))):=quoteL_within (strI_within s)
 have HL:Hid (∀ k,k≤s.size→(34 :: ((strI s).take k).flatMap escL).length≤4 * k+1):=fun k hk=>by
  have:=flat_lenX ((strI s).take k)
  rw [List.length_take] at this
  simp only [List.length_cons];omega
 have h0:=bld_new w w.heap.size (Nat.le_refl _)
 have b0:Below w.heap.size w (w.alloc (.cells #[.pointer none,.slice none 0 0] 76)):=(Below.refl _ w).alloc (Nat.le_refl _) _
 have hW0:=writeByte_any w.heap.size w.heap.size [] 34 _ h0 (by simp) b0.size
 clear h0 HLen
 go_enter Tryz.func90,Tryz.ntmps90
 go_wp2_with fail
 refine hW0.mono ?_
 rintro e w1 ⟨rfl,h1,b1,_⟩
 have bel1:=b0.trans b1
 clear hW0 b0 b1
 go_wp2_with fail
 go_loopw [9] (fun i wr=>∃ k:Nat,k≤s.size∧i=.int .i64 k∧Bld w.heap.size w.heap.size (34 :: ((strI s).take k).flatMap escL) wr∧Below w.heap.size w wr) (fun i _=>s.size - (intOf i).toNat)
 case atStart=>exact⟨0,Nat.zero_le _,rfl,h1,bel1⟩
 case round =>
  obtain⟨k,hk,rfl,hB,hbel⟩:=hrel
  have hl:=HL.out k hk
  have hsz:=hbel.size
  clear h1 bel1
  by_cases hlt:k<s.size
  ·have hc0:(0:Int)≤(s[k].toNat:Int):=by omega
   have hc1:(s[k].toNat:Int)<256:=by have:=s[k].toNat_lt;omega
   have hP:=fun wx=>printable_any (s[k].toNat:Int) wx hc0 hc1
   have eS:=HS.out k hlt
   rw [nth_strI s k hlt] at eS
   have ES:Hid ((34 :: ((strI s).take (k+1)).flatMap escL)=(34 :: ((strI s).take k).flatMap escL)++escL (s[k].toNat:Int)):=eS
   clear eS
   generalize (34 :: ((strI s).take k).flatMap escL)=zs at hB hl ES
   by_cases hq:(s[k].toNat:Int)=34∨(s[k].toNat:Int)=92
   ·rw [esc_quote hq] at ES
    have hW1:=writeByte_any w.heap.size w.heap.size zs 92 wr hB (by omega) hsz
    rcases hq with hq | hq
    ·have hq':((s[k].toNat:Int)==34)=true:=by simpa using hq
     rw [hq] at ES
     clear hP hB
     go_wp2_with fail
     refine hW1.mono ?_
     rintro e w1 ⟨rfl,h1,b1,_⟩
     have hW2:=writeByte_any w.heap.size w.heap.size (zs++[92]) 34 w1 h1 (by simp;omega) (Nat.le_trans hsz b1.size)
     go_wp2_with fail
     refine hW2.mono ?_
     rintro e w2 ⟨rfl,h2,b2,_⟩
     go_wp2_with fail
     go_roundw
     case rel=>exact⟨k+1,by omega,by go_num,by rw [ES.out];simpa using h2,(hbel.trans b1).trans b2⟩
     case measure=>simp [intOf];omega
    ·have hq':((s[k].toNat:Int)==34)=false:=by rw [hq];rfl
     have hq2:((s[k].toNat:Int)==92)=true:=by simpa using hq
     rw [hq] at ES
     clear hP hB
     go_wp2_with fail
     refine hW1.mono ?_
     rintro e w1 ⟨rfl,h1,b1,_⟩
     have hW2:=writeByte_any w.heap.size w.heap.size (zs++[92]) 92 w1 h1 (by simp;omega) (Nat.le_trans hsz b1.size)
     go_wp2_with fail
     refine hW2.mono ?_
     rintro e w2 ⟨rfl,h2,b2,_⟩
     go_wp2_with fail
     go_roundw
     case rel=>exact⟨k+1,by omega,by go_num,by rw [ES.out];simpa using h2,(hbel.trans b1).trans b2⟩
     case measure=>simp [intOf];omega
   ·have hq1:((s[k].toNat:Int)==34)=false:=by simpa using fun e=>hq (.inl e)
    have hq2:((s[k].toNat:Int)==92)=false:=by simpa using fun e=>hq (.inr e)
    cases hp:printB (s[k].toNat:Int)
    ·rw [esc_hex hq hp] at ES
     rw [hp] at hP
     have hd1:=fun wx=>hexDigit_any ((s[k].toNat:Int) / 16) wx (by omega) (by omega)
     have hd2:=fun wx=>hexDigit_any ((s[k].toNat:Int) % 16) wx (by omega) (by omega)
     have ha:=and15 hc0 hc1
     have hW1:=writeString_any w.heap.size w.heap.size zs { data:=#[92,120] } wr hB (by show _+2≤_;omega) hsz
     rw [show strI { data:=#[92,120] }=[92,120] from rfl] at hW1
     have D1:Hid ((if (s[k].toNat:Int) / 16<10 then 48+(s[k].toNat:Int) / 16 else 87+(s[k].toNat:Int) / 16)=hexD ((s[k].toNat:Int) / 16)):=rfl
     have D2:Hid ((if (s[k].toNat:Int) % 16<10 then 48+(s[k].toNat:Int) % 16 else 87+(s[k].toNat:Int) % 16)=hexD ((s[k].toNat:Int) % 16)):=rfl
     rw [D1.out] at hd1
     rw [D2.out] at hd2
     clear hq hp hB D1 D2
     generalize hexD ((s[k].toNat:Int) / 16)=d1 at *
     generalize hexD ((s[k].toNat:Int) % 16)=d2 at *
     go_wp2_with fail
     refine (hP _).mono ?_
     rintro e w' ⟨rfl,rfl⟩
     go_wp2_with fail
     refine hW1.mono ?_
     rintro e w1 ⟨rfl,h1,b1,_⟩
     have s1:=Nat.le_trans hsz b1.size
     go_wp2_with fail
     refine (hd1 _).mono ?_
     rintro e w' ⟨rfl,rfl⟩
     have hW2:=writeByte_any w.heap.size w.heap.size (zs++[92,120]) d1 w1 h1 (by simp;omega) s1
     go_wp2_with fail
     refine hW2.mono ?_
     rintro e w2 ⟨rfl,h2,b2,_⟩
     go_wp2_with fail
     refine (hd2 _).mono ?_
     rintro e w' ⟨rfl,rfl⟩
     have hW3:=writeByte_any w.heap.size w.heap.size (zs++[92,120]++[d1]) d2 w2 h2 (by simp;omega) (Nat.le_trans s1 b2.size)
     go_wp2_with fail
     refine hW3.mono ?_
     rintro e w3 ⟨rfl,h3,b3,_⟩
     go_wp2_with fail
     go_roundw
     case rel=>exact⟨k+1,by omega,by go_num,by rw [ES.out];simpa using h3,((hbel.trans b1).trans b2).trans b3⟩
     case measure=>simp [intOf];omega
    ·rw [esc_print hq hp] at ES
     rw [hp] at hP
     have hW1:=writeByte_any w.heap.size w.heap.size zs (s[k].toNat:Int) wr hB (by omega) hsz
     clear hq hp hB
     go_wp2_with fail
     refine (hP _).mono ?_
     rintro e w' ⟨rfl,rfl⟩
     go_wp2_with fail
     refine hW1.mono ?_
     rintro e w1 ⟨rfl,h1,b1,_⟩
     go_wp2_with fail
     go_roundw
     case rel=>exact⟨k+1,by omega,by go_num,by rw [ES.out];exact h1,hbel.trans b1⟩
     case measure=>simp [intOf];omega
  ·obtain rfl:k=s.size:=by omega
   have hW1:=writeByte_any w.heap.size w.heap.size _ 34 wr hB (by omega) hsz
   rw [HE.out] at hW1
   clear hB
   go_wp2_with fail
   refine hW1.mono ?_
   rintro e w1 ⟨rfl,h1,b1,_⟩
   have hW2:=buildString_any w.heap.size w.heap.size _ w1 h1 HW.out (Nat.le_trans hsz b1.size)
   clear hW1 h1
   go_wp2_with fail
   refine hW2.mono ?_
   rintro e w2 ⟨rfl,h2,b2,_⟩
   clear hW2 h2
   go_wp2_with fail
   go_ret
   exact⟨rfl,(hbel.trans b1).trans b2⟩
theorem written_any (k:Int) (s:ByteArray) (a:Int) (w:World) (hk0:0≤k) (hk1:k<256) (hs:4 * s.size+2≤140737488355328) :
  Calls Tryz.prog 52 #[.agg #[.int .u8 k,.string s,.int .i64 a]] w fun e w'=>e=.returned (.string (strOfNums (tokS k (strI s))))∧Below w.heap.size w w':=by
 have HB:Hid (Below w.heap.size w (w.alloc (.cells #[.int .u8 k,.string s,.int .i64 a] 81))):=(Below.refl _ w).alloc (Nat.le_refl _) _
 by_cases k2:k=2
 ·subst k2
  have HT:Hid (strOfNums (tokS 2 (strI s))={ data:=#[37] }++s):=by
   show _=_
   rw [show tokS 2 (strI s)=[37]++strI s from rfl,strOfNums_append,str_of_strI];rfl
  go_enter Tryz.func52,Tryz.ntmps52
  go_wp2_with fail
  go_ret
  exact⟨by rw [HT.out];rfl,HB.out⟩
 by_cases k4:k=4
 ·subst k4
  have HT:Hid (tokS 4 (strI s)=quoteL (strI s)):=rfl
  have hQ:=fun wx=>quote_any s wx hs
  go_enter Tryz.func52,Tryz.ntmps52
  go_wp2_with fail
  refine (hQ _).mono ?_
  rintro e w' ⟨rfl,hb⟩
  go_wp2_with fail
  go_ret
  exact⟨by rw [HT.out];rfl,HB.out.trans (hb.mono (by simp))⟩
 have HT:Hid (strOfNums (tokS k (strI s))=s):=by
  show _=_
  rw [show tokS k (strI s)=strI s by simp [tokS,k2,k4],str_of_strI]
 have b2:(k==2)=false:=by simpa using k2
 have b4:(k==4)=false:=by simpa using k4
 clear k2 k4
 go_enter Tryz.func52,Tryz.ntmps52
 go_wp2_with fail
 go_ret
 exact⟨by rw [HT.out];rfl,HB.out⟩
set_option maxHeartbeats 2000000 in
theorem write_any (a:Option Addr) (n cap:Nat) (l:List TokT) (w:World) (hv:ToksV w a l) (hl:l.length=n) (hok:ToksIn l) (hu:4 * bulkT l+3 * n≤140737488351232) :
  Calls Tryz.prog 28 #[.slice a n cap] w fun e w'=>e=.returned (.tuple #[.string (strOfNums (wOut l)),.int .i64 (wErr l)])∧Below w.heap.size w w':=by
 have HL:Hid (l.length=n):=hl
 have HV:Hid (ToksV w a l):=hv
 have HK:Hid (ToksIn l):=hok
 have HLEN:Hid (∀ k,k≤n→((wAll (l.take k)).drop 1).length≤4 * bulkT l+3 * n):=fun k hk=>by
  have h1:=wAll_len (l.take k)
  have h2:=bulkT_take l k
  rw [List.length_take,HL.out] at h1
  rw [List.length_drop];omega
 have HBK:Hid (∀ k,k<n→(nthT l k).2.1.size≤bulkT l):=fun k hk=>bulkT_at l k (by rw [HL.out];exact hk)
 have HN:Hid (∀ k,k<n→tokOk (nthT l k).1 (strI (nthT l k).2.1)=false→wOk l=false):=fun k hk h=>wOk_not (by rw [HL.out];exact hk) h
 have HA:Hid ((∀ k,k<n→tokOk (nthT l k).1 (strI (nthT l k).2.1)=true)→wOk l=true):=fun h=>wOk_all (by rw [HL.out];exact h)
 have hli:(n:Int)≤140737488351232:=by omega
 have HU:Hid (4 * bulkT l+3 * n≤140737488351232):=hu
 have h0:=bld_new w w.heap.size (Nat.le_refl _)
 have b0:Below w.heap.size w (w.alloc (.cells #[.pointer none,.slice none 0 0] 76)):=(Below.refl _ w).alloc (Nat.le_refl _) _
 have H0:Hid (Bld w.heap.size w.heap.size [] (w.alloc (.cells #[.pointer none,.slice none 0 0] 76))):=h0
 clear hv hl hok hu h0
 go_enter Tryz.func28,Tryz.ntmps28
 go_wp2_with fail
 go_loopw [9] (fun i wr=>∃ k:Nat,k≤n∧i=.int .i64 k∧Bld w.heap.size w.heap.size ((wAll (l.take k)).drop 1) wr∧Below w.heap.size w wr∧∀ j,j<k→tokOk (nthT l j).1 (strI (nthT l j).2.1)=true) (fun i _=>n - (intOf i).toNat)
 case atStart=>exact⟨0,Nat.zero_le _,rfl,H0.out,b0,fun j hj=>by omega⟩
 case round =>
  obtain⟨k,hk,rfl,hB,hbel,hall⟩:=hrel
  have hlen:=HLEN.out k hk
  have hsz:=hbel.size
  have hwlt:w.heap.size<wr.heap.size:=bld_lt hB
  clear H0 b0
  by_cases hlt:k<n
  ·obtain⟨b,off,rfl,hblt,c0,c1,c2⟩:=HV.out k (by rw [HL.out];exact hlt)
   obtain⟨t0,t1,t2,t3,t4⟩:=HK.out k (by rw [HL.out];exact hlt)
   have hbk:=HBK.out k hlt
   have EN:Hid (tokOk (nthT l k).1 (strI (nthT l k).2.1)=false→wOk l=false):=HN.out k hlt
   have d0:=(hbel.cell (p:=⟨b,off+k * 3,none⟩) hblt).trans c0
   have d1:=(hbel.cell (p:=⟨b,off+k * 3+1,none⟩) hblt).trans c1
   have d2:=(hbel.cell (p:=⟨b,off+k * 3+2,none⟩) hblt).trans c2
   have EA:Hid (tokOk (nthT l k).1 (strI (nthT l k).2.1)=true→∀ j,j<k+1→tokOk (nthT l j).1 (strI (nthT l j).2.1)=true):=fun h j hj=>by
    by_cases e:j=k
    ·subst e;exact h
    ·exact hall j (by omega)
   have E0:Hid (k=0→(wAll (l.take (k+1))).drop 1=(wAll (l.take k)).drop 1++tokS (nthT l k).1 (strI (nthT l k).2.1)):=fun e=>by
    subst e
    rw [wAll_drop0 l (by rw [HL.out];omega)];rfl
   have E1:Hid (0<k→(wAll (l.take (k+1))).drop 1=((wAll (l.take k)).drop 1++[32])++tokS (nthT l k).1 (strI (nthT l k).2.1)):=fun e=>wAll_dropS l k e (by rw [HL.out];omega)
   clear c0 c1 c2 hall
   generalize (nthT l k).1=tk at *
   generalize (nthT l k).2.1=ts at *
   generalize (nthT l k).2.2=ta at *
   generalize (wAll (l.take k)).drop 1=zs at *
   have hMB:=fun wx=>mayBe_any tk ts ta wx t0 t1 t2
   have hWR:=fun wx=>written_any tk ts ta wx t0 t1 (by have:=HU.out;omega)
   have hBa:=bld_alloc hB (.cells #[.int .u8 tk,.string ts,.int .i64 ta] 81)
   have hba:=hbel.alloc hsz (.cells #[.int .u8 tk,.string ts,.int .i64 ta] 81)
   have hbx:(wr.alloc (.cells #[.int .u8 tk,.string ts,.int .i64 ta] 81)).heap[wr.heap.size]?=some (.cells #[.int .u8 tk,.string ts,.int .i64 ta] 81 (0,0)):=heap_alloc_new wr _
   have hlx:wr.heap.size<(wr.alloc (.cells #[.int .u8 tk,.string ts,.int .i64 ta] 81)).heap.size:=by simp
   have hTL:(strOfNums (tokS tk (strI ts))).size≤4 * ts.size+2:=by rw [strOfNums_size];have:=tokS_len tk (strI ts);rw [strI_len] at this;exact this
   have HTL:Hid ((strOfNums (tokS tk (strI ts))).size≤4 * ts.size+2):=hTL
   have HSW:Hid (strI (strOfNums (tokS tk (strI ts)))=tokS tk (strI ts)):=strI_of (tokS_within (strI_within ts))
   clear hB hTL
   go_wp2_with fail
   generalize wr.alloc (.cells #[.int .u8 tk,.string ts,.int .i64 ta] 81)=W1 at hBa hba hbx hlx ⊢
   refine (hMB _).mono ?_
   rintro e w2 ⟨rfl,hb2⟩
   have hB2:=bld_below hBa hb2
   have hbx2:=(hb2.block _ hlx).trans hbx
   have hbel2:=hba.trans (hb2.mono hba.size)
   clear hBa hbx hba hb2 hlx hMB
   generalize tokOk tk (strI ts)=B at *
   cases B
   ·have HF:Hid (wOk l=false):=EN.out rfl
    have HO:Hid (strOfNums (wOut l)=⟨#[]⟩∧wErr l=2):=by
     have:=HF.out
     show _∧_
     unfold wOut wErr;rw [this];exact⟨rfl,rfl⟩
    clear hB2 hbx2
    go_wp2_with fail
    go_ret2
    exact⟨by rw [HO.out.1,HO.out.2];rfl,hbel2⟩
   ·have HR:Hid (∀ j,j<k+1→tokOk (nthT l j).1 (strI (nthT l j).2.1)=true):=EA.out rfl
    clear EA EN
    by_cases hk0:k=0
    ·have HE:=E0.out hk0
     subst hk0
     have x0:w2.cell? ⟨wr.heap.size,0,none⟩=some (.int .u8 tk):=by rw [Lib.cell_of_heap hbx2];rfl
     have x1:w2.cell? ⟨wr.heap.size,1,none⟩=some (.string ts):=by rw [Lib.cell_of_heap hbx2];rfl
     have x2:w2.cell? ⟨wr.heap.size,2,none⟩=some (.int .i64 ta):=by rw [Lib.cell_of_heap hbx2];rfl
     have HEH:Hid ((wAll (l.take (0+1))).drop 1=zs++tokS tk (strI ts)):=HE
     clear hbx2 E0 E1 HE
     go_wp2_with fail
     refine (hWR _).mono ?_
     rintro e w3 ⟨rfl,hb3⟩
     have hbel3:=hbel2.trans (hb3.mono hbel2.size)
     have hW2:=writeString_any w.heap.size w.heap.size zs (strOfNums (tokS tk (strI ts))) w3 (bld_below hB2 hb3) (by have h1:=HLEN.out (0+1) (by omega);rw [HEH.out,List.length_append] at h1;rw [strOfNums_size];have:=HU.out;omega) hbel3.size
     rw [HSW.out] at hW2
     clear hB2 x0 x1 x2 hWR hb3 hbel2
     go_wp2_with fail
     refine hW2.mono ?_
     rintro e w4 ⟨rfl,hB4,hb4,_⟩
     clear hW2
     go_wp2_with fail
     go_roundw
     case rel=>exact⟨0+1,by omega,by go_num,by rw [HEH.out];exact hB4,hbel3.trans hb4,HR.out⟩
     case measure=>simp [intOf];omega
    ·have HEH:Hid ((wAll (l.take (k+1))).drop 1=(zs++[32])++tokS tk (strI ts)):=E1.out (by omega)
     have hkp:(0:Int)<(k:Int):=by omega
     have hW1:=writeByte_any w.heap.size w.heap.size zs 32 w2 hB2 (by have:=HU.out;omega) hbel2.size
     clear E0 E1 hB2
     go_wp2_with fail
     refine hW1.mono ?_
     rintro e w3 ⟨rfl,hB3,hb3,hk3⟩
     have hbx3:=hk3 _ _ hbx2 (by simp;omega) (fun c fz=>by simp)
     have hbel3:=hbel2.trans hb3
     have x0:w3.cell? ⟨wr.heap.size,0,none⟩=some (.int .u8 tk):=by rw [Lib.cell_of_heap hbx3];rfl
     have x1:w3.cell? ⟨wr.heap.size,1,none⟩=some (.string ts):=by rw [Lib.cell_of_heap hbx3];rfl
     have x2:w3.cell? ⟨wr.heap.size,2,none⟩=some (.int .i64 ta):=by rw [Lib.cell_of_heap hbx3];rfl
     clear hbx2 hbx3 hk3 hb3 hW1 hbel2
     go_wp2_with fail
     refine (hWR _).mono ?_
     rintro e w4 ⟨rfl,hb4⟩
     have hbel4:=hbel3.trans (hb4.mono hbel3.size)
     have hW2:=writeString_any w.heap.size w.heap.size (zs++[32]) (strOfNums (tokS tk (strI ts))) w4 (bld_below hB3 hb4) (by have h1:=HLEN.out (k+1) (by omega);rw [HEH.out,List.length_append] at h1;rw [strOfNums_size];have:=HU.out;omega) hbel4.size
     rw [HSW.out] at hW2
     clear hB3 x0 x1 x2 hWR hb4 hbel3
     go_wp2_with fail
     refine hW2.mono ?_
     rintro e w5 ⟨rfl,hB5,hb5,_⟩
     clear hW2
     go_wp2_with fail
     go_roundw
     case rel=>exact⟨k+1,by omega,by go_num,by rw [HEH.out];exact hB5,hbel4.trans hb5,HR.out⟩
     case measure=>simp [intOf];omega
  ·obtain rfl:k=n:=by omega
   have HT:Hid (wOk l=true):=HA.out hall
   have HO:Hid ((wAll (l.take k)).drop 1=wOut l∧wErr l=0):=by
    have:=HT.out
    show _∧_
    unfold wOut wErr
    rw [this,List.take_of_length_le (by rw [HL.out];omega)];exact⟨rfl,rfl⟩
   rw [HO.out.1] at hB
   have hW2:=buildString_any w.heap.size w.heap.size _ wr hB (by rw [← HO.out.1];exact within_dropX (wAll_within _) 1) hsz
   clear hall hB hlen
   go_wp2_with fail
   refine hW2.mono ?_
   rintro e w2 ⟨rfl,h2,b2,_⟩
   clear hW2 h2
   go_wp2_with fail
   go_ret2
   exact⟨by rw [HO.out.2];rfl,hbel.trans b2⟩

def RowAt (w:World) (B:Nat) (a:Option Addr) (n c k:Nat) (len:Int) (rest:Array Value) (T:Nat):Prop:=w.heap[B]?=some (.cells (#[.slice a n c,.int .i64 (k:Int),.int .i64 len]++rest) T (0,0))
theorem RowAt.lt {w:World} {B:Nat} {a:Option Addr} {n c k:Nat} {len:Int} {rest:Array Value} {T:Nat} (h:RowAt w B a n c k len rest T):B<w.heap.size:=(Array.getElem?_eq_some_iff.1 h).1
theorem RowAt.cells {w:World} {B:Nat} {a:Option Addr} {n c k:Nat} {len:Int} {rest:Array Value} {T:Nat} (h:RowAt w B a n c k len rest T) :
  w.cell? ⟨B,0,none⟩=some (.slice a n c)∧w.cell? ⟨B,1,none⟩=some (.int .i64 (k:Int))∧w.cell? ⟨B,2,none⟩=some (.int .i64 len)∧∀ i,w.frozen? ⟨B,i,none⟩=false:=by
 unfold RowAt at h
 refine⟨?_,?_,?_,fun i=>?_⟩
 ·simp only [World.cell?,h];rw [Array.getElem?_append_left (by simp)];rfl
 ·simp only [World.cell?,h];rw [Array.getElem?_append_left (by simp)];rfl
 ·simp only [World.cell?,h];rw [Array.getElem?_append_left (by simp)];rfl
 ·simp [World.frozen?,h]







end Go.Proofs.YtonhnflilfjkbaaGreatDoor
namespace Go.Proofs.YtonhnflilfjkbaaGreatDoor
open Go.RowKit Go.Shelf
set_option maxRecDepth 10000
attribute [local go_sem] Oper.semAt_some
set_option linter.unusedVariables false
set_option linter.unusedSimpArgs false
end Go.Proofs.YtonhnflilfjkbaaGreatDoor
namespace Go.Proofs.YtonhnflilfjkbaaGreatDoor
open Go.RowKit
set_option linter.unusedVariables false
set_option linter.unusedSimpArgs false
set_option maxRecDepth 10000





end Go.Proofs.YtonhnflilfjkbaaGreatDoor
namespace Go.Proofs.YtonhnflilfjkbaaGreatDoor
open Go
def jumps (J:Nat→Act→World→Prop) (Q:Exit→Act→World→Prop):Exit→Act→World→Prop
 | .goto l,a,w=>J l a w
 | e,a,w=>Q e a w
section
variable {Q : Exit → Act → World → Prop} {J : Nat → Act → World → Prop} {a : Act} {w : World}
theorem jumps_normal:jumps J Q .normal a w=Q .normal a w:=rfl
theorem jumps_exit (id:Nat):jumps J Q (.exit id) a w=Q (.exit id) a w:=rfl
theorem jumps_ret:jumps J Q .ret a w=Q .ret a w:=rfl
theorem jumps_panic (ch:List PanicEntry):jumps J Q (.panic ch) a w=Q (.panic ch) a w:=rfl
theorem jumps_goto (l:Nat):jumps J Q (.goto l) a w=J l a w:=rfl
end

def behind:Option Code→Code
 | some (.seq .skip x)=>x
 | _=>.skip
end Go.Proofs.YtonhnflilfjkbaaGreatDoor
namespace Go.Proofs.YtonhnflilfjkbaaGreatDoor
open Go.RowKit
set_option linter.unusedVariables false
set_option linter.unusedSimpArgs false
set_option maxRecDepth 10000
attribute [local go_sem] jumps_normal jumps_exit jumps_ret jumps_panic jumps_goto onNormal_normal

structure ReaS (w : World) (B : Nat) (w' : World) : Prop where
  res : w'.heap[w.heap.size]? = some (.cells #[.int .i64 0, .int .i64 0] 28 (0, 0))
  box : ∃ x0 x1 x2, w'.heap[w.heap.size + 1]? = some (.cells #[x0, x1, x2] 61 (0, 0))
  spot : ∃ y0 y1, w'.heap[w.heap.size + 2]? = some (.cells #[y0, y1] 28 (0, 0))
  grown : w.grownBy w' (some B)
theorem ReaS.size {w w':World} {B:Nat} (h:ReaS w B w'):w.heap.size+2<w'.heap.size:=by
 obtain⟨_,_,h⟩:=h.spot
 exact (Array.getElem?_eq_some_iff.1 h).1
attribute [local go_sem] jumps_normal jumps_exit jumps_ret jumps_panic jumps_goto onNormal_normal
attribute [local go_sem] jumps_normal jumps_exit jumps_ret jumps_panic jumps_goto onNormal_normal
attribute [local go_sem] jumps_normal jumps_exit jumps_ret jumps_panic jumps_goto onNormal_normal

structure HeadS (w : World) (B : Nat) (a : Option Addr) (n c : Nat) (len : Int) (rest : Array Value) (T : Nat) (l : List TokT) (k : Nat) (W : World) : Prop where
  row : RowAt W B a n c k len rest T
  toks : ToksV W a l
  grown : w.grownBy W (some B)
  head : W.heap[w.heap.size]? = some (.cells #[.int .u32 0, .int .u32 0] 106 (0, 0))
  spot : W.heap[w.heap.size + 1]? = some (.cells #[.int .i64 0, .int .i64 0] 28 (0, 0))
  lt : B < w.heap.size
  far : ∀ b off, a = some ⟨b, off, none⟩ → b ≠ B ∧ b < w.heap.size
section
variable {w : World} {B : Nat} {a : Option Addr} {n c k k' : Nat} {len : Int} {rest : Array Value} {T : Nat} {l : List TokT} {W W' : World}
theorem HeadS.size (h:HeadS w B a n c len rest T l k W):w.heap.size+1<W.heap.size:=(Array.getElem?_eq_some_iff.1 h.spot).1
end

attribute [local go_sem] jumps_normal jumps_exit jumps_ret jumps_panic jumps_goto
end Go.Proofs.YtonhnflilfjkbaaGreatDoor
namespace Go.Proofs.YtonhnflilfjkbaaGreatDoor
open Go.RowKit Go.Shelf
set_option maxRecDepth 10000

end Go.Proofs.YtonhnflilfjkbaaGreatDoor
namespace Go.Proofs.YtonhnflilfjkbaaGreatDoor
open Go.RowKit
set_option maxRecDepth 100000
set_option linter.unusedVariables false
set_option linter.unusedSimpArgs false
attribute [local go_sem] jumps_normal jumps_exit jumps_ret jumps_panic jumps_goto onNormal_normal
end Go.Proofs.YtonhnflilfjkbaaGreatDoor
