/-
  Texts laid together in one: MathN, WordsByteAt, WordsTextEnd, WordsJoin, WordsText, WordsText2, SlicesClone, Ref01Byte, Ref01Text, WordsTextSame, WordsReader, WordsReaderCalls.
-/
import Derived.Test.YtddkapkkjhomkaaGreatDoorM05
import Derived.Test.YtddkapkkjhomkaaGreatDoorM01
import Derived.Test.YtddkapkkjhomkaaGreatDoorM04
import Derived.Test.YtddkapkkjhomkaaGreatDoorProg
import Derived.WalkSpells
import Derived.WalkMore
import Derived.Deep.QuietTactic
import Derived.BigQuiet
set_option linter.unusedVariables false
set_option linter.unusedSimpArgs false
set_option maxRecDepth 10000
/-
  The instruction that words say, as a function of the words.
-/
namespace Go.Proofs.YtddkapkkjhomkaaGreatDoor
open Go.RowKit

def argI (c : Int) (zs : List Int) (b : Int) : ArgT × Int × Int :=
  if c = 0 ∨ zs.length = 0 then (noArg, 0, 42)
  else if kindI c = 3 then ((3, 0, (textI zs).1), (textI zs).2.1, (textI zs).2.2)
  else if kindI c = 1 ∧ noneB (nth zs 0) b = true then (noArg, 0, 43)
  else if kindI c = 4 ∧ enumB c (nth zs 0) = false then (noArg, 0, 31)
  else ((kindI c, nth zs 0, ⟨#[]⟩), 1, 0)
def argsI (f : Frm) (b : Int) : Nat → List Int → List ArgT → List ArgT × Int
  | 0, _, _ => ([], 42)
  | k + 1, zs, acc =>
    if zs.length = 0 then (if wholeN f acc.length = true then (acc, 0) else ([], 42))
    else if (argI (letterI f acc.length) zs b).2.2 ≠ 0 then ([], (argI (letterI f acc.length) zs b).2.2)
    else argsI f b k (zs.drop (argI (letterI f acc.length) zs b).2.1.toNat) (acc ++ [(argI (letterI f acc.length) zs b).1])
def headRes (re : Bool) (zs : List Int) (b : Int) (p : Nat) : Int × Int := if re then (if zs.length ≤ p then (0, 41) else (nth zs p, if noneB (nth zs p) b then 43 else 0)) else (0, 0)
def headTy (ty : Bool) (zs : List Int) (b : Int) : Int × Int := if ty then (if zs.length ≤ 0 then (0, 40) else (nth zs 0, if noneB (nth zs 0) b then 43 else 0)) else (0, 0)
def instF (f : Frm) (op : Int) (zs : List Int) (b : Int) : InstT × Int :=
  if (headTy f.2.1 zs b).2 ≠ 0 then (noInst, (headTy f.2.1 zs b).2)
  else if (headRes f.2.2.1 zs b f.2.1.toNat).2 ≠ 0 then (noInst, (headRes f.2.2.1 zs b f.2.1.toNat).2)
  else if (argsI f b (zs.length + 1) (zs.drop (f.2.1.toNat + f.2.2.1.toNat)) []).2 ≠ 0 then (noInst, (argsI f b (zs.length + 1) (zs.drop (f.2.1.toNat + f.2.2.1.toNat)) []).2)
  else ((op, (headTy f.2.1 zs b).1, (headRes f.2.2.1 zs b f.2.1.toNat).1, (argsI f b (zs.length + 1) (zs.drop (f.2.1.toNat + f.2.2.1.toNat)) []).1), 0)
def instI (op : Int) (zs : List Int) (b : Int) : InstT × Int :=
  if 65535 ≤ zs.length then (noInst, 25) else if (lookF refT op).2 = false then (noInst, 30) else instF (lookF refT op).1 op zs b
theorem kindI_range (c:Int):kindI c=0 ∨ kindI c=1 ∨ kindI c=2 ∨ kindI c=3 ∨ kindI c=4:=by
 unfold kindI
 split
 ·exact .inr (.inl rfl)
 ·split
  ·exact .inr (.inr (.inl rfl))
  ·split
   ·exact .inr (.inr (.inr (.inl rfl)))
   ·split
    ·exact .inr (.inr (.inr (.inr rfl)))
    ·exact .inl rfl
def goodL (s : ByteArray) : Bool := s.data.toList.all fun x => kindI (x.toNat : Int) != 0
theorem refT_goodL:refT.all (fun p=>goodL p.2.2.2.2.1 && goodL p.2.2.2.2.2.1)=true:=by decide +kernel
theorem sgn_good {s:ByteArray} (h:goodL s=true) {k:Nat} (hk:k < s.size):kindI (sgn s k)≠0:=by
 have hl:k < s.data.toList.length:=by rw [size_list];exact hk
 have h1:=(List.all_eq_true.1 h) (s.data.toList[k]) (List.getElem_mem hl)
 unfold sgn
 rw [List.getD,List.getElem?_eq_getElem hl]
 simpa using h1
theorem letter_kind (n:Int) (k:Nat) (h:letterI (lookF refT n).1 (k:Int)≠0):kindI (letterI (lookF refT n).1 (k:Int))≠0:=by
 have hg:goodL (lookF refT n).1.2.2.2.1=true∧goodL (lookF refT n).1.2.2.2.2.1=true:=by
  by_cases h:(lookF refT n).2=true
  ·have:=(List.all_eq_true.1 refT_goodL) _ (lookF_true h)
   simpa using this
  ·rw [(lookF_false (by simpa using h)).1];exact ⟨rfl,rfl⟩
 generalize (lookF refT n).1=f at *
 unfold letterI at h ⊢
 rw [if_neg (by omega)] at h ⊢
 by_cases h1:(k:Int) < f.2.2.2.1.size
 ·rw [if_pos h1] at h ⊢
  exact sgn_good hg.1 (by omega)
 ·rw [if_neg h1] at h ⊢
  split at h
  ·rename_i hm
   rw [if_pos hm]
   refine sgn_good hg.2 ?_
   unfold mayB at hm
   by_cases h0:f.2.2.2.2.1.size=0
   ·rw [if_pos h0] at hm;cases hm
   ·have:=Int.emod_lt_of_pos ((k:Int) - f.2.2.2.1.size) (show (0:Int) < f.2.2.2.2.1.size by omega)
    have:=Int.emod_nonneg ((k:Int) - f.2.2.2.1.size) (show (f.2.2.2.2.1.size:Int)≠0 by omega)
    omega
  ·exact absurd rfl h
end Go.Proofs.YtddkapkkjhomkaaGreatDoor
/-
  What byteAt of the words package returns, for every word and every place from 0 to 3.
-/
namespace Go.Proofs.YtddkapkkjhomkaaGreatDoor
open Go.RowKit

theorem byteAt_any (x p:Int) (w:World) (hx:0≤x) (hx2:x < 4294967296) (h0:0≤p) (h3:p < 4) :
  Calls Tryz.prog 96 #[.int .u32 x,.int .i64 p] w fun e w'=>e=.returned (.int .u8 (byt x p.toNat))∧w=w':=by
 rcases (show p=0 ∨ p=1 ∨ p=2 ∨ p=3 by omega) with rfl | rfl | rfl | rfl
 ·go_enter Tryz.func96,Tryz.ntmps96
  go_wp2
  go_ret
  exact ⟨ret_int (by simp [byt]),rfl⟩
 ·go_enter Tryz.func96,Tryz.ntmps96
  go_wp2
  go_ret
  exact ⟨ret_int (by simp [byt]),rfl⟩
 ·go_enter Tryz.func96,Tryz.ntmps96
  go_wp2
  go_ret
  exact ⟨ret_int (by simp [byt]),rfl⟩
 ·go_enter Tryz.func96,Tryz.ntmps96
  go_wp2
  go_ret
  exact ⟨ret_int (by simp [byt];omega),rfl⟩
end Go.Proofs.YtddkapkkjhomkaaGreatDoor
/-
  What textEnd of the words package returns: where the first byte 0 lies, or that there is none.
-/
namespace Go.Proofs.YtddkapkkjhomkaaGreatDoor
open Go.RowKit

set_option maxHeartbeats 1000000 in
theorem textEnd_none (a:Option Addr) (n cap:Nat) (zs:List Int) (w:World) (ha:View .u32 w a zs) (hl:zs.length=n) (hw:Within 4294967296 zs) (hn:4 * n≤281474976710656) (h:∀ i,i < 4 * n→nth (joinL zs) i≠0) :
  Calls Tryz.prog 233 #[.slice a n cap] w fun e w'=>e=.returned (.tuple #[.int .i64 0,.int .i64 0,.bool false])∧w=w':=by
 have HL:Hid (zs.length=n):=hl
 clear hl
 have HB:Hid (∀ k p:Nat,k < n→p < 4→byt (nth zs k) p≠0):=fun k p hk hp=>by
  have:=h (4 * k+p) (by omega)
  rw [joinL_getD _ _ (by rw [HL.out];omega),show (4 * k+p) / 4=k by omega,show (4 * k+p) % 4=p by omega] at this
  exact this
 clear h
 go_enter Tryz.func233,Tryz.ntmps233
 go_wp2
 go_step3
 go_wp2
 go_step3
 go_wp2
 go_loop [2,3,4,10] (fun r s f i=>∃ k:Nat,k≤n∧i=.int .i64 k∧r=.int .i64 0∧s=.int .i64 0∧f=.bool false) (fun _ _ _ i=>n - (intOf i).toNat)
 case atStart=>exact ⟨0,Nat.zero_le _,rfl,rfl,rfl,rfl⟩
 case round =>
  obtain ⟨k,hk,rfl,rfl,rfl,rfl⟩:=hrel
  by_cases hlt:k < n
  ·obtain ⟨b,off,rfl,_,hc⟩:=ha k (by rw [HL.out];exact hlt)
   have hx:=hw.at (k:=k) (by rw [HL.out];exact hlt)
   have HX:Hid (∀ p:Nat,p < 4→byt (nth zs k) p≠0):=fun p hp=>HB.out k p hlt hp
   generalize nth zs k=x at hc hx HX
   have hx0:=hx.1
   have hx1:=hx.2
   clear hx ha
   go_wp2
   go_loop [2,3,4,15] (fun r s f i=>∃ p:Nat,p≤4∧i=.int .i64 p∧r=.int .i64 0∧s=.int .i64 0∧f=.bool false) (fun _ _ _ i=>4 - (intOf i).toNat)
   case atStart=>exact ⟨0,Nat.zero_le _,rfl,rfl,rfl,rfl⟩
   case round =>
    obtain ⟨p,hp,rfl,rfl,rfl,rfl⟩:=hrel
    by_cases hplt:p < 4
    ·have hne:(byt x p == 0)=false:=by simp;exact HX.out p hplt
     have hA:=fun wx=>byteAt_any x (p:Int) wx hx0 hx1 (by omega) (by omega)
     rw [Int.toNat_natCast] at hA
     generalize byt x p=y at hne hA
     go_wp2_with (go_at_call 96;refine (hA _).mono ?_;rintro e w' ⟨rfl,rfl⟩)
     go_round
     case rel=>exact ⟨p+1,by omega,by go_num,rfl,rfl,rfl⟩
     case measure=>simp [intOf];omega
    ·go_wp2
     go_round
     case rel=>exact ⟨k+1,by omega,by go_num,rfl,rfl,rfl⟩
     case measure=>simp [intOf];omega
  ·go_wp2
   try rw [Exit.noGoto_ret]
   go_ret3
   exact ⟨rfl,rfl⟩
set_option maxHeartbeats 1000000 in
theorem textEnd_at (a:Option Addr) (n cap:Nat) (zs:List Int) (w:World) (L P:Nat) (ha:View .u32 w a zs) (hl:zs.length=n) (hw:Within 4294967296 zs) (hn:4 * n≤281474976710656)
  (hL:L < n) (hP:P < 4) (h:∀ i,i < 4 * L+P→nth (joinL zs) i≠0) (h0:nth (joinL zs) (4 * L+P)=0) :
  Calls Tryz.prog 233 #[.slice a n cap] w fun e w'=>e=.returned (.tuple #[.int .i64 L,.int .i64 P,.bool true])∧w=w':=by
 have HL:Hid (zs.length=n):=hl
 clear hl
 have HB:Hid (∀ k p:Nat,4 * k+p < 4 * L+P→p < 4→byt (nth zs k) p≠0):=fun k p hk hp=>by
  have:=h (4 * k+p) hk
  rw [joinL_getD _ _ (by rw [HL.out];omega),show (4 * k+p) / 4=k by omega,show (4 * k+p) % 4=p by omega] at this
  exact this
 have H0:Hid (byt (nth zs L) P=0):=by
  rw [joinL_getD _ _ (by rw [HL.out];omega),show (4 * L+P) / 4=L by omega,show (4 * L+P) % 4=P by omega] at h0
  exact h0
 clear h h0
 go_enter Tryz.func233,Tryz.ntmps233
 go_wp2
 go_step3
 go_wp2
 go_step3
 go_wp2
 go_loop [2,3,4,10] (fun r s f i=>∃ k:Nat,k≤L∧i=.int .i64 k∧r=.int .i64 0∧s=.int .i64 0∧f=.bool false) (fun _ _ _ i=>n - (intOf i).toNat)
 case atStart=>exact ⟨0,Nat.zero_le _,rfl,rfl,rfl,rfl⟩
 case round =>
  obtain ⟨k,hk,rfl,rfl,rfl,rfl⟩:=hrel
  have hlt:k < n:=by omega
  obtain ⟨b,off,rfl,_,hc⟩:=ha k (by rw [HL.out];exact hlt)
  have hx:=hw.at (k:=k) (by rw [HL.out];exact hlt)
  have HX:Hid (∀ p:Nat,4 * k+p < 4 * L+P→p < 4→byt (nth zs k) p≠0):=fun p hp h4=>HB.out k p hp h4
  have HX0:Hid (k=L→byt (nth zs k) P=0):=fun e=>by rw [e];exact H0.out
  generalize nth zs k=x at hc hx HX HX0
  have hx0:=hx.1
  have hx1:=hx.2
  clear hx ha
  go_wp2
  go_loop [2,3,4,15] (fun r s f i=>∃ p:Nat,p≤4∧4 * k+p≤4 * L+P∧i=.int .i64 p∧r=.int .i64 0∧s=.int .i64 0∧f=.bool false) (fun _ _ _ i=>4 - (intOf i).toNat)
  case atStart=>exact ⟨0,Nat.zero_le _,by omega,rfl,rfl,rfl,rfl⟩
  case round =>
   obtain ⟨p,hp,hpN,rfl,rfl,rfl,rfl⟩:=hrel
   by_cases hplt:p < 4
   ·by_cases hlast:4 * k+p < 4 * L+P
    ·have hne:(byt x p == 0)=false:=by simp;exact HX.out p hlast hplt
     have hA:=fun wx=>byteAt_any x (p:Int) wx hx0 hx1 (by omega) (by omega)
     rw [Int.toNat_natCast] at hA
     generalize byt x p=y at hne hA
     go_wp2_with (go_at_call 96;refine (hA _).mono ?_;rintro e w' ⟨rfl,rfl⟩)
     go_round
     case rel=>exact ⟨p+1,by omega,by omega,by go_num,rfl,rfl,rfl⟩
     case measure=>simp [intOf];omega
    ·obtain rfl:k=L:=by omega
     obtain rfl:p=P:=by omega
     have hA:=fun wx=>byteAt_any x (p:Int) wx hx0 hx1 (by omega) (by omega)
     rw [Int.toNat_natCast,HX0.out rfl] at hA
     go_wp2_with (go_at_call 96;refine (hA _).mono ?_;rintro e w' ⟨rfl,rfl⟩)
     try rw [Exit.noGoto_ret]
     go_ret3
     exact ⟨rfl,rfl⟩
   ·go_wp2
    go_round
    case rel=>exact ⟨k+1,by omega,by go_num,rfl,rfl,rfl⟩
    case measure=>simp [intOf];omega
end Go.Proofs.YtddkapkkjhomkaaGreatDoor
/-
  What Join of the words package returns, for every list of words whose bytes take at most 2^47 - 4096: their bytes, in new memory.
-/
namespace Go.Proofs.YtddkapkkjhomkaaGreatDoor
open Go.RowKit

theorem Join.info_u8:(Tryz.prog.info? 5).map (fun i=>(i.zero,i.size,i.bytes))=some (some (.int .u8 0),1,1):=by kernel_rfl
set_option maxHeartbeats 400000 in
theorem join_any (a:Option Addr) (n cap:Nat) (zs:List Int) (w:World) (hv:View .u32 w a zs) (hl:zs.length=n) (hn:4 * n≤140737488351232) (hw:Within 4294967296 zs) :
  Calls Tryz.prog 48 #[.slice a n cap] w fun e w'=>e=.returned (.slice (some ⟨w.heap.size,0,none⟩) (4 * n) (4 * n)) ∧
   w'.ownsRow w.heap.size 5 1 (.slice (some ⟨w.heap.size,0,none⟩) (4 * n) (4 * n)) (4 * n) ((joinL zs).map (Value.int .u8))∧Below w.heap.size w w':=by
 obtain ⟨i0,hi,hz0,hz1,hz2⟩:=info_parts Join.info_u8
 have HL:Hid (zs.length=n):=hl
 clear hl
 go_enter Tryz.func48,Tryz.ntmps48
 go_wp2_with (at_make;refine wpList_make_own _ rfl _ _ 44 rfl w.heap.size 5 i0 (.int .u8 0) 1 Tryz.underlying44 hi hz0 hz1 _ _ _ (4 * n) rfl rfl (by omega) (by rw [hz2];omega) (by unfold maxLen;omega) (Nat.le_refl _) ?_)
 intro w1 hown1 hgrow1
 have hb1:Below w.heap.size w w1:=(Below.refl _ w).grown hgrow1 (Nat.le_refl _) (by simp)
 go_wp2
 go_loopw [3,13] (fun v i wr=>∃ k:Nat,k≤n∧i=.int .i64 k∧v=.slice (some ⟨w.heap.size,0,none⟩) (4 * k) (4 * n) ∧
   wr.ownsRow w.heap.size 5 1 (.slice (some ⟨w.heap.size,0,none⟩) (4 * k) (4 * n)) (4 * k) ((joinL (zs.take k)).map (Value.int .u8))∧Below w.heap.size w wr)
  (fun _ i _=>n - (intOf i).toNat)
 case atStart=>exact ⟨0,Nat.zero_le _,rfl,rfl,hown1,hb1⟩
 case round =>
  obtain ⟨k,hk,rfl,rfl,hown,hnx⟩:=hrel
  by_cases hlt:k < n
  ·obtain ⟨b,off,rfl,hbs,hc⟩:=hv k (by rw [HL.out];exact hlt)
   have hx:=hw.at (k:=k) (by rw [HL.out];exact hlt)
   have hJ:=joinL_snoc zs k (by rw [HL.out];exact hlt)
   obtain ⟨x,hxe⟩:∃ x,x=nth zs k:=⟨_,rfl⟩
   rw [← hxe] at hc hx hJ
   have HJ:Hid (joinL (zs.take (k+1))=joinL (zs.take k) ++ four x):=hJ
   have hcr:wr.cell? ⟨b,off+k,none⟩=some (.int .u32 x):=(hnx.cell (p:=⟨b,off+k,none⟩) hbs).trans hc
   have hx0:=hx.1
   have hx1:=hx.2
   clear hx hxe hJ hc hw hv hown1 hgrow1 hb1
   go_wp2
   go_loopw [3,17] (fun v i wq=>∃ p:Nat,p≤4∧i=.int .i64 p∧v=.slice (some ⟨w.heap.size,0,none⟩) (4 * k+p) (4 * n) ∧
     wq.ownsRow w.heap.size 5 1 (.slice (some ⟨w.heap.size,0,none⟩) (4 * k+p) (4 * n)) (4 * k+p) ((joinL (zs.take k) ++ (four x).take p).map (Value.int .u8))∧Below w.heap.size w wq)
    (fun _ i _=>4 - (intOf i).toNat)
   case atStart=>exact ⟨0,by omega,rfl,rfl,by simpa using hown,hnx⟩
   case round =>
    obtain ⟨p,hp,rfl,rfl,hownp,hnp⟩:=hrel
    clear hcr hown hnx
    by_cases hplt:p < 4
    ·go_wp2_with (first | (go_at_call 96;refine (byteAt_any _ _ _ hx0 hx1 (by omega) (by omega)).mono ?_;rintro e w' ⟨rfl,rfl⟩) | (at_builtin;refine wpList_append_fits _ rfl (.tmp 20) (.tmp 24) 44 rfl w.heap.size 5 i0 1 Tryz.underlying44 hi hz1 w.heap.size (4 * k+p) (4 * n) _ rfl (hownp.alloc _) ⟨wr.heap.size,0,none⟩ 1 1 [.int .u8 (byt x p)] rfl rfl (cell_one_new _ _ _) (ints_oneCell .u8 [byt x p]) (by omega) ?_;intro w4 hown4 hgrow4))
     go_roundw
     case rel =>
      refine ⟨p+1,by omega,by go_num,rfl,?_,?_⟩
      ·rw [four_snoc x p hplt,← List.append_assoc,List.map_append];exact hown4
      ·exact (hnp.alloc hnp.size _).grown hgrow4 (by have:=hnp.size;simp;omega) (fun j hj=>by cases hj;exact Nat.le_refl _)
     case measure=>simp [intOf];omega
    ·go_wp2
     go_roundw
     case rel =>
      obtain rfl:p=4:=by omega
      refine ⟨k+1,by omega,by go_num,rfl,?_,hnp⟩
      rw [HJ.out];exact hownp
     case measure=>simp [intOf];omega
  ·go_wp2
   go_ret
   obtain rfl:k=n:=by omega
   rw [List.take_of_length_le (by rw [HL.out];exact Nat.le_refl _)] at hown
   exact ⟨rfl,hown,hnx⟩
end Go.Proofs.YtddkapkkjhomkaaGreatDoor
/-
  What Text of the words package returns, for every list of words: its error, or the text at their front and how many words it takes.
-/
namespace Go.Proofs.YtddkapkkjhomkaaGreatDoor
open Go.RowKit

theorem text_none (a:Option Addr) (n cap:Nat) (zs:List Int) (w:World) (ha:View .u32 w a zs) (hl:zs.length=n) (hw:Within 4294967296 zs) (hn:4 * n≤281474976710656) (h:∀ i,i < 4 * n→nth (joinL zs) i≠0) :
  Calls Tryz.prog 228 #[.slice a n cap] w fun e w'=>e=.returned (.tuple #[.string ⟨#[]⟩,.int .i64 0,.int .i64 11])∧w=w':=by
 have hT:=textEnd_none a n cap zs w ha hl hw hn h
 clear ha hl hw h
 go_enter Tryz.func228,Tryz.ntmps228
 go_wp2_with fail
 refine hT.mono ?_
 rintro e w' ⟨rfl,rfl⟩
 go_wp2
 go_ret3
 exact ⟨rfl,rfl⟩
set_option maxHeartbeats 1000000 in
theorem text_pad (a:Option Addr) (n cap:Nat) (zs:List Int) (w:World) (L P:Nat) (ha:View .u32 w a zs) (hl:zs.length=n) (hw:Within 4294967296 zs) (hn:4 * n≤281474976710656)
  (hL:L < n) (hP:P < 4) (h:∀ i,i < 4 * L+P→nth (joinL zs) i≠0) (h0:nth (joinL zs) (4 * L+P)=0) (hpad:nth zs L / 256 ^ P≠0) :
  Calls Tryz.prog 228 #[.slice a n cap] w fun e w'=>e=.returned (.tuple #[.string ⟨#[]⟩,.int .i64 0,.int .i64 12])∧w=w':=by
 have hT:=textEnd_at a n cap zs w L P ha hl hw hn hL hP h h0
 obtain ⟨b,off,rfl,_,hc⟩:=ha L (by omega)
 have hx:=hw.at (k:=L) (by omega)
 clear ha hl hw h h0
 generalize nth zs L=x at hc hx hpad
 have hx0:=hx.1
 have hx1:=hx.2
 have hLi:(L:Int) < (n:Int):=by omega
 rcases (show P=0 ∨ P=1 ∨ P=2 ∨ P=3 by omega) with rfl | rfl | rfl | rfl
 ·have hne:(x == 0)=false:=by simpa using hpad
  clear hx hpad
  go_enter Tryz.func228,Tryz.ntmps228
  go_wp2_with fail
  refine hT.mono ?_
  rintro e w' ⟨rfl,rfl⟩
  go_wp2
  go_ret3
  exact ⟨rfl,rfl⟩
 ·have hne:(x / 256 == 0)=false:=by simpa using hpad
  clear hx hpad
  go_enter Tryz.func228,Tryz.ntmps228
  go_wp2_with fail
  refine hT.mono ?_
  rintro e w' ⟨rfl,rfl⟩
  go_wp2
  go_ret3
  exact ⟨rfl,rfl⟩
 ·have hne:(x / 65536 == 0)=false:=by simpa using hpad
  clear hx hpad
  go_enter Tryz.func228,Tryz.ntmps228
  go_wp2_with fail
  refine hT.mono ?_
  rintro e w' ⟨rfl,rfl⟩
  go_wp2
  go_ret3
  exact ⟨rfl,rfl⟩
 ·have hne:(x / 16777216 == 0)=false:=by simpa using hpad
  clear hx hpad
  go_enter Tryz.func228,Tryz.ntmps228
  go_wp2_with fail
  refine hT.mono ?_
  rintro e w' ⟨rfl,rfl⟩
  go_wp2
  go_ret3
  exact ⟨rfl,rfl⟩
set_option maxHeartbeats 1000000 in
theorem text_ok (a:Option Addr) (n cap:Nat) (zs:List Int) (w:World) (L P:Nat) (ha:View .u32 w a zs) (hl:zs.length=n) (hw:Within 4294967296 zs) (hn:4 * n≤281474976710656) (hLb:4 * (L+1)≤140737488351232) (hcap:n≤cap)
  (hL:L < n) (hP:P < 4) (h:∀ i,i < 4 * L+P→nth (joinL zs) i≠0) (h0:nth (joinL zs) (4 * L+P)=0) (hpad:nth zs L / 256 ^ P=0) :
  Calls Tryz.prog 228 #[.slice a n cap] w fun e w'=>e=.returned (.tuple #[.string (strOfNums ((joinL zs).take (4 * L+P))),.int .i64 ((L:Int)+1),.int .i64 0])∧Below w.heap.size w w':=by
 have hT:=textEnd_at a n cap zs w L P ha hl hw hn hL hP h h0
 have hJ:=join_any a (L+1) cap (zs.take (L+1)) w (ha.take _) (by rw [List.length_take];omega) hLb (within_of_take hw)
 obtain ⟨b,off,rfl,_,hc⟩:=ha L (by omega)
 have hx:=hw.at (k:=L) (by omega)
 have e1:joinL (zs.take (L+1))=(joinL zs).take (4 * (L+1)):=joinL_take zs (L+1)
 have hlen:(joinL zs).length=4 * n:=by rw [joinL_len,hl]
 rw [e1] at hJ
 clear ha hl hw h h0 e1
 generalize nth zs L=x at hc hx hpad
 generalize joinL zs=js at *
 have hx0:=hx.1
 have hx1:=hx.2
 have hLi:(L:Int) < (n:Int):=by omega
 have HJL:Hid (js.length=4 * n):=hlen
 have HC:Hid (∀ (w':World),w'.ownsRow w.heap.size 5 1 (.slice (some ⟨w.heap.size,0,none⟩) (4 * (L+1)) (4 * (L+1))) (4 * (L+1)) ((js.take (4 * (L+1))).map (Value.int .u8)) →
   (convert 44 9 (.slice (some ⟨w.heap.size,0,none⟩) (4 * L+P) (4 * (L+1)))).run Tryz.prog w'=.ok (.string (strOfNums (js.take (4 * L+P)))) w'):=fun w' hown=>by
  refine run_convert_bytes_arg w' _ _ Tryz.underlying44 Tryz.underlying5 w.heap.size 0 (4 * L+P) (4 * (L+1)) (js.take (4 * L+P)) (by rw [List.length_take,HJL.out];omega) (fun i hi=>?_) _ Tryz.underlying9
  obtain ⟨b',off',e,_,hcell⟩:=View.ofRow hown (by rw [List.length_take,HJL.out];omega) i (by rw [List.length_take,HJL.out];omega)
  simp at e
  obtain ⟨rfl,rfl⟩:=e
  rw [hcell,nth_take _ _ _ (by omega)]
  have:=nth_take js i (4 * L+P) hi
  rw [← this];rfl
 clear hlen
 rcases (show P=0 ∨ P=1 ∨ P=2 ∨ P=3 by omega) with rfl | rfl | rfl | rfl
 ·have hne:x=0:=by simpa using hpad
  have hne':(x == 0)=true:=by simpa using hne
  clear hx hpad hne
  go_enter Tryz.func228,Tryz.ntmps228
  go_wp2_with fail
  refine hT.mono ?_
  rintro e w' ⟨rfl,rfl⟩
  go_wp2_with fail
  refine hJ.mono ?_
  rintro e w1 ⟨rfl,hown,hb⟩
  have hcv:=HC.out w1 hown
  rw [Nat.add_zero] at hcv
  rw [Nat.add_zero]
  clear hown HC hT hJ
  go_wp2
  go_ret3
  exact ⟨rfl,hb⟩
 ·have hne:x / 256=0:=by simpa using hpad
  have hne':(x / 256 == 0)=true:=by simpa using hne
  clear hx hpad hne
  go_enter Tryz.func228,Tryz.ntmps228
  go_wp2_with fail
  refine hT.mono ?_
  rintro e w' ⟨rfl,rfl⟩
  go_wp2_with fail
  refine hJ.mono ?_
  rintro e w1 ⟨rfl,hown,hb⟩
  have hcv:=HC.out w1 hown
  clear hown HC hT hJ
  go_wp2
  go_ret3
  exact ⟨rfl,hb⟩
 ·have hne:x / 65536=0:=by simpa using hpad
  have hne':(x / 65536 == 0)=true:=by simpa using hne
  clear hx hpad hne
  go_enter Tryz.func228,Tryz.ntmps228
  go_wp2_with fail
  refine hT.mono ?_
  rintro e w' ⟨rfl,rfl⟩
  go_wp2_with fail
  refine hJ.mono ?_
  rintro e w1 ⟨rfl,hown,hb⟩
  have hcv:=HC.out w1 hown
  clear hown HC hT hJ
  go_wp2
  go_ret3
  exact ⟨rfl,hb⟩
 ·have hne:x / 16777216=0:=by simpa using hpad
  have hne':(x / 16777216 == 0)=true:=by simpa using hne
  clear hx hpad hne
  go_enter Tryz.func228,Tryz.ntmps228
  go_wp2_with fail
  refine hT.mono ?_
  rintro e w' ⟨rfl,rfl⟩
  go_wp2_with fail
  refine hJ.mono ?_
  rintro e w1 ⟨rfl,hown,hb⟩
  have hcv:=HC.out w1 hown
  clear hown HC hT hJ
  go_wp2
  go_ret3
  exact ⟨rfl,hb⟩
end Go.Proofs.YtddkapkkjhomkaaGreatDoor
/-
  What Text of the words package returns, as one function of the words.
-/
namespace Go.Proofs.YtddkapkkjhomkaaGreatDoor
open Go.RowKit

theorem text_any (a:Option Addr) (n cap:Nat) (zs:List Int) (w:World) (ha:View .u32 w a zs) (hl:zs.length=n) (hw:Within 4294967296 zs) (hn:4 * n≤140737488351232) (hcap:n≤cap) :
  Calls Tryz.prog 228 #[.slice a n cap] w fun e w'=>e=.returned (.tuple #[.string (textI zs).1,.int .i64 (textI zs).2.1,.int .i64 (textI zs).2.2])∧Below w.heap.size w w':=by
 have hj:(joinL zs).length=4 * n:=by rw [joinL_len,hl]
 by_cases h:(joinL zs).length≤zeroAt (joinL zs)
 ·refine (text_none a n cap zs w ha hl hw (by omega) fun i hi=>zeroAt_before _ _ (by omega) (by omega)).mono ?_
  rintro e w' ⟨rfl,rfl⟩
  refine ⟨?_,Below.refl _ _⟩
  rw [textI,if_pos h]
 ·have hz:zeroAt (joinL zs) < (joinL zs).length:=by omega
  obtain ⟨L,P,hP,hN⟩:∃ L P,P < 4∧zeroAt (joinL zs)=4 * L+P:=⟨zeroAt (joinL zs) / 4,zeroAt (joinL zs) % 4,by omega,by omega⟩
  have hL:L < n:=by omega
  have hx:=hw.at (k:=L) (by omega)
  have hrest:=rest_zero (nth zs L) P hP hx.1 hx.2
  have h0:nth (joinL zs) (4 * L+P)=0:=by rw [← hN];exact zeroAt_at _ hz
  have hbyte:∀ q,q < 4→nth (joinL zs) (4 * L+q)=byt (nth zs L) q:=fun q hq=>by
   rw [joinL_getD _ _ (by rw [hl];omega),show (4 * L+q) / 4=L by omega,show (4 * L+q) % 4=q by omega]
  have hbef:∀ i,i < 4 * L+P→nth (joinL zs) i≠0:=fun i hi=>zeroAt_before _ _ (by omega) (by omega)
  have hpi:=padBad_iff hN hP (by omega)
  by_cases hpad:nth zs L / 256 ^ P=0
  ·have hp:¬ padBad (joinL zs)=true:=fun h=>by
    obtain ⟨q,h1,h2,h3⟩:=hpi.1 h
    rw [hbyte q h2] at h3
    exact h3 (hrest.1 hpad q (by omega) (by omega))
   refine (text_ok a n cap zs w L P ha hl hw (by omega) (by omega) hcap hL hP hbef h0 hpad).mono ?_
   rintro e w' ⟨rfl,hb⟩
   refine ⟨?_,hb⟩
   rw [textI,if_neg h,if_neg hp,hN,show (4 * L+P) / 4=L by omega]
  ·have hp:padBad (joinL zs)=true:=by
    apply Classical.byContradiction
    intro hno
    apply hpad
    apply hrest.2
    intro q hq1 hq2
    by_cases e:q=P
    ·subst e;rw [← hbyte q hq2];exact h0
    ·apply Classical.byContradiction
     intro hne
     exact hno (hpi.2 ⟨q,by omega,hq2,by rw [hbyte q hq2];exact hne⟩)
   refine (text_pad a n cap zs w L P ha hl hw (by omega) hL hP hbef h0 hpad).mono ?_
   rintro e w' ⟨rfl,rfl⟩
   refine ⟨?_,Below.refl _ _⟩
   rw [textI,if_neg h,if_pos hp]
end Go.Proofs.YtddkapkkjhomkaaGreatDoor
/-
  What slices.Clone of words returns: the words in new memory; nothing that was there has turned.
-/
namespace Go.Proofs.YtddkapkkjhomkaaGreatDoor
open Go.RowKit

theorem Clone.info:(Tryz.prog.info? 22).map (fun i=>(i.zero,i.size,i.bytes))=some (some (.int .u32 0),1,4):=by kernel_rfl
set_option maxHeartbeats 400000 in
theorem clone_some (x:Addr) (n cap:Nat) (zs:List Int) (w:World) (hv:View .u32 w (some x) zs) (hl:zs.length=n) (hn:4 * n≤140737488351232) :
  Calls Tryz.prog 89 #[.slice (some x) n cap] w fun e w'=>∃ g cx,e=.returned (.slice (some ⟨g,0,none⟩) n cx) ∧
   w'.ownsRow w.heap.size 22 1 (.slice (some ⟨g,0,none⟩) n cx) n (zs.map (Value.int .u32))∧Below w.heap.size w w':=by
 obtain ⟨i0,hi,hz0,hz1,hz2⟩:=info_parts Clone.info
 have hnn:=fun w=>Lib.run_eql_slice_nil (P:=Tryz.prog) w 58 22 (some x) n cap 0 0 Tryz.underlying58
 simp only [Option.isNone_some] at hnn
 have hbs:∀ w,(Instr.buildSlice 58 0 #[]).run Tryz.prog w=.ok (.slice (some ⟨w.heap.size,0,none⟩) 0 0) (w.alloc (.cells #[] 22)):=fun w=>by kernel_rfl
 have hown0:(w.alloc (.cells #[] 22)).ownsRow w.heap.size 22 1 (.slice (some ⟨w.heap.size,0,none⟩) 0 0) 0 []:=World.ownsRow_lit w #[] 0 (Nat.le_refl _) (by unfold maxLen;omega) rfl
 have hnews:∀ j u,(zs.map (Value.int .u32))[j]?=some u→(w.alloc (.cells #[] 22)).cell? (x.add j)=some u:=by
  intro j u hj
  rw [List.getElem?_map] at hj
  have hjl:j < zs.length:=by
   rcases Nat.lt_or_ge j zs.length with h | h
   ·exact h
   ·rw [List.getElem?_eq_none h] at hj;simp at hj
  obtain ⟨b,off,e,hb,hc⟩:=hv j hjl
  simp at e
  subst e
  rw [Addr.add_lit,World.cell?_alloc_past _ _ _ hb,hc,← hj,List.getElem?_eq_getElem hjl]
  simp [nth,List.getD,hjl]
 have HL:Hid (zs.length=n):=hl
 clear hl hv
 go_enter Tryz.func89,Tryz.ntmps89
 go_wp2_with (at_builtin;refine wpList_append_own _ rfl (.tmp 5) (.tmp 6) 58 rfl w.heap.size 22 i0 (.int .u32 0) 1 4 Tryz.underlying58 hi hz0 hz1 hz2 rfl (by decide) _ _ _ rfl hown0 x n cap (zs.map (Value.int .u32)) rfl (by rw [List.length_map,HL.out];omega) hnews (ints_oneCell .u32 zs) (by unfold maxLen;omega) (by omega) (by simp) ?_)
 intro v' w1 hown1 hgrow1 hnil1
 have hb1:Below w.heap.size w w1:=((Below.refl _ w).alloc (Nat.le_refl _) _).grown hgrow1 (by simp) (fun k hk=>by simp [Value.ownBlock] at hk;omega)
 have hex:∃ g cx,v'=.slice (some ⟨g,0,none⟩) n cx:=by
  rcases hown1.2 with ⟨h1,_⟩ | ⟨g,cx,cur,h1,_⟩
  ·exact absurd h1 hnil1
  ·exact ⟨g,cx,h1⟩
 obtain ⟨g,cx,hv'⟩:=hex
 rw [hv'] at hown1 ⊢
 clear hnil1 hgrow1 hnews hown0
 go_wp2
 go_ret
 exact ⟨g,cx,rfl,hown1,hb1⟩
end Go.Proofs.YtddkapkkjhomkaaGreatDoor
/-
  What Byte of the document's answer returns: the k-th byte of words, for every k of theirs.
-/
namespace Go.Proofs.YtddkapkkjhomkaaGreatDoor
open Go.RowKit

end Go.Proofs.YtddkapkkjhomkaaGreatDoor
/-
  What Text of the document's answer returns, for every list of words: its error, or the text at their front and how many words it takes.
-/
namespace Go.Proofs.YtddkapkkjhomkaaGreatDoor
open Go.RowKit

end Go.Proofs.YtddkapkkjhomkaaGreatDoor
/-
  Text of the words package and of the document's answer are the same, whatever the words.
-/
namespace Go.Proofs.YtddkapkkjhomkaaGreatDoor
open Go.RowKit

end Go.Proofs.YtddkapkkjhomkaaGreatDoor
/-
  What a reader's calls At, Left and take do: what they answer, and where the reader stands then.
-/
namespace Go.Proofs.YtddkapkkjhomkaaGreatDoor
open Go.RowKit

structure Rdr (W0 w : World) (gr ga n cw p : Nat) (zs : List Int) : Prop where
  rd : Rd 202 W0 w gr (.slice (some ⟨ga, 0, none⟩) n cw) p
  view : View .u32 W0 (some ⟨ga, 0, none⟩) zs
  apart : ga ≠ gr
  len : zs.length = n
  le : p ≤ n
  room : n ≤ cw
  small : 4 * n ≤ 140737488351232
  within : Within 4294967296 zs
theorem Rdr.words {W0 w:World} {gr ga n cw p:Nat} {zs:List Int} (h:Rdr W0 w gr ga n cw p zs):View .u32 w (some ⟨ga,0,none⟩) zs :=
 h.rd.view h.view (fun b off s e=>by simp at e;have:=h.apart;omega)
theorem Rdr.below {W0 w w':World} {gr ga n cw p:Nat} {zs:List Int} (h:Rdr W0 w gr ga n cw p zs) (hb:Below w.heap.size w w'):Rdr W0 w' gr ga n cw p zs :=
 ⟨h.rd.below hb,h.view,h.apart,h.len,h.le,h.room,h.small,h.within⟩
theorem Rdr.set {W0 w:World} {gr ga n cw p:Nat} {zs:List Int} (h:Rdr W0 w gr ga n cw p zs) (q:Nat) (u:Int) (hu:u=(q:Int)) (hq:q≤n):Rdr W0 (w.setCell ⟨gr,1,none⟩ (.int .i64 u)) gr ga n cw q zs :=
 ⟨h.rd.set q u hu,h.view,h.apart,h.len,hq,h.room,h.small,h.within⟩
theorem Rdr.drew {W0 w:World} {gr ga n cw p:Nat} {zs:List Int} (h:Rdr W0 w gr ga n cw p zs) (q:Nat):Rdr W0 (w.drewN q) gr ga n cw p zs:=h.below (bel_drewN (Below.refl _ _) q)
theorem left_any {W0 w:World} {gr ga n cw p:Nat} {zs:List Int} (h:Rdr W0 w gr ga n cw p zs) :
  Calls Tryz.prog 181 #[.pointer (some ⟨gr,0,none⟩)] w fun e w'=>e=.returned (.int .i64 ((n:Int) - p))∧∃ q,w'=w.drewN q:=by
 obtain ⟨c0,c1,f1⟩:=cell_of_two h.rd.box
 have hle:=h.le
 have hsm:=h.small
 clear h
 go_enter Tryz.func181,Tryz.ntmps181
 go_wp2
 go_quiet (fail)
 go_wp2
 go_ret
 exact ⟨rfl,_,rfl⟩
set_option maxHeartbeats 1000000 in
/-- A word is taken. -/
theorem take_word {W0 w:World} {gr ga n cw p:Nat} {zs:List Int} (m:Int) (h:Rdr W0 w gr ga n cw p zs) (hp:p < n) :
  Calls Tryz.prog 211 #[.pointer (some ⟨gr,0,none⟩),.int .i64 0,.int .i64 m] w fun e w'=>∃ c,e=.returned (.tuple #[.slice (some ⟨ga,p,none⟩) 1 c,.string ⟨#[]⟩,.int .i64 0])∧Rdr W0 w' gr ga n cw (p+1) zs:=by
 obtain ⟨c0,c1,f1⟩:=cell_of_two h.rd.box
 have hle:=h.le
 have hsm:=h.small
 have hrm:=h.room
 have hne:¬ cw=p:=by omega
 have hp1:(1:Int)≤(n:Int) - (p:Int):=by omega
 have hp2:¬ ((n:Int) - (p:Int) < 1):=by omega
 have hcap:(1:Int)≤((cw - p:Nat):Int):=by omega
 have hpn:(p:Int)≤(n:Int):=by omega
 have H:Hid (Rdr W0 w gr ga n cw p zs):=h
 clear h
 go_enter Tryz.func211,Tryz.ntmps211
 go_wp2
 go_quiet (fail)
 go_wp2
 go_ret3
 exact ⟨_,rfl,(H.out.drew _).set (p+1) _ (by omega) hp⟩
set_option maxHeartbeats 1000000 in
/-- No word is left. -/
theorem take_end {W0 w:World} {gr ga n cw:Nat} {zs:List Int} (m:Int) (h:Rdr W0 w gr ga n cw n zs) :
  Calls Tryz.prog 211 #[.pointer (some ⟨gr,0,none⟩),.int .i64 0,.int .i64 m] w fun e w'=>e=.returned (.tuple #[.slice none 0 0,.string ⟨#[]⟩,.int .i64 14])∧∃ q,w'=w.drewN q:=by
 obtain ⟨c0,c1,f1⟩:=cell_of_two h.rd.box
 have hsm:=h.small
 have hrm:=h.room
 obtain ⟨sa,hsa⟩:∃ sa,(if cw=n then some (⟨ga,0,none⟩:Addr) else some ⟨ga,n,none⟩)=sa:=⟨_,rfl⟩
 have hnn:n - n=0:=Nat.sub_self n
 clear h
 go_enter Tryz.func211,Tryz.ntmps211
 go_wp2
 go_quiet (fail)
 go_wp2
 go_ret3
 exact ⟨rfl,_,rfl⟩
end Go.Proofs.YtddkapkkjhomkaaGreatDoor
/-
  What a reader's calls Word, Text and Take answer, and where the reader stands then.
-/
namespace Go.Proofs.YtddkapkkjhomkaaGreatDoor
open Go.RowKit

set_option maxHeartbeats 1000000 in
/-- A text is asked for, and there is an error. -/
theorem take_text_no {W0 w:World} {gr ga n cw p:Nat} {zs:List Int} (m:Int) (h:Rdr W0 w gr ga n cw p zs) (s:ByteArray) (k er:Int) (her:er≠0)
  (hT:∀ b cb w2,n - p≤cb→View .u32 w2 b (zs.drop p)→Calls Tryz.prog 228 #[.slice b (n - p:Nat) cb] w2 fun e w'=>e=.returned (.tuple #[.string s,.int .i64 k,.int .i64 er])∧Below w2.heap.size w2 w') :
  Calls Tryz.prog 211 #[.pointer (some ⟨gr,0,none⟩),.int .i64 1,.int .i64 m] w fun e w'=>e=.returned (.tuple #[.slice none 0 0,.string ⟨#[]⟩,.int .i64 er])∧Below w.heap.size w w':=by
 obtain ⟨c0,c1,f1⟩:=cell_of_two h.rd.box
 have hle:=h.le
 have hsm:=h.small
 have hrm:=h.room
 have HLZ:Hid (zs.length=n):=h.len
 obtain ⟨sa,hsa,hsav⟩:∃ sa,(if cw=p then some (⟨ga,0,none⟩:Addr) else some ⟨ga,p,none⟩)=some sa∧Hid (∀ wx,View .u32 wx (some ⟨ga,0,none⟩) zs→View .u32 wx (some sa) (zs.drop p)):=by
  by_cases e:cw=p
  ·refine ⟨⟨ga,0,none⟩,by rw [if_pos e],fun wx _=>?_⟩
   rw [List.drop_of_length_le (by rw [HLZ.out];omega)]
   exact view_nil
  ·refine ⟨⟨ga,p,none⟩,by rw [if_neg e],fun wx hv=>?_⟩
   have:=View.drop hv p
   rw [Nat.zero_add] at this
   exact this
 have hpn:(p:Int)≤(n:Int):=by omega
 have he:(er == 0)=false:=by simpa using her
 have H:Hid (Rdr W0 w gr ga n cw p zs):=h
 clear h her
 go_enter Tryz.func211,Tryz.ntmps211
 go_wp2
 go_quiet (fail)
 go_wp2_with fail
 refine (hT (some sa) (cw - p) (w.drewN nq) (by omega) (hsav.out _ (H.out.drew nq).words)).mono ?_
 rintro e w1 ⟨rfl,hb1⟩
 go_wp2
 go_ret3
 exact ⟨rfl,(bel_drewN (Below.refl _ w) nq).trans hb1⟩
set_option maxHeartbeats 1000000 in
/-- A text is taken. -/
theorem take_text_yes {W0 w:World} {gr ga n cw p:Nat} {zs:List Int} (m:Int) (h:Rdr W0 w gr ga n cw p zs) (s:ByteArray) (k:Nat) (hk:p+k≤n)
  (hT:∀ b cb w2,n - p≤cb→View .u32 w2 b (zs.drop p)→Calls Tryz.prog 228 #[.slice b (n - p:Nat) cb] w2 fun e w'=>e=.returned (.tuple #[.string s,.int .i64 k,.int .i64 0])∧Below w2.heap.size w2 w') :
  Calls Tryz.prog 211 #[.pointer (some ⟨gr,0,none⟩),.int .i64 1,.int .i64 m] w fun e w'=>∃ v,e=.returned (.tuple #[v,.string s,.int .i64 0])∧Rdr W0 w' gr ga n cw (p+k) zs∧w.grownBy w' (some gr):=by
 obtain ⟨c0,c1,f1⟩:=cell_of_two h.rd.box
 have hle:=h.le
 have hsm:=h.small
 have hrm:=h.room
 have HLZ:Hid (zs.length=n):=h.len
 obtain ⟨sa,hsa,hsav⟩:∃ sa,(if cw=p then some (⟨ga,0,none⟩:Addr) else some ⟨ga,p,none⟩)=some sa∧Hid (∀ wx,View .u32 wx (some ⟨ga,0,none⟩) zs→View .u32 wx (some sa) (zs.drop p)):=by
  by_cases e:cw=p
  ·refine ⟨⟨ga,0,none⟩,by rw [if_pos e],fun wx _=>?_⟩
   rw [List.drop_of_length_le (by rw [HLZ.out];omega)]
   exact view_nil
  ·refine ⟨⟨ga,p,none⟩,by rw [if_neg e],fun wx hv=>?_⟩
   have:=View.drop hv p
   rw [Nat.zero_add] at this
   exact this
 have hpn:(p:Int)≤(n:Int):=by omega
 have hm':¬ ((n - p:Nat):Int) < (k:Int):=by omega
 have hmc:(k:Int)≤((cw - p:Nat):Int):=by omega
 have H:Hid (Rdr W0 w gr ga n cw p zs):=h
 clear h
 go_enter Tryz.func211,Tryz.ntmps211
 go_wp2
 go_quiet (fail)
 go_wp2_with fail
 refine (hT (some sa) (cw - p) (w.drewN nq) (by omega) (hsav.out _ (H.out.drew nq).words)).mono ?_
 rintro e w1 ⟨rfl,hb1⟩
 have HR1:Hid (Rdr W0 w1 gr ga n cw p zs):=(H.out.drew nq).below hb1
 obtain ⟨d0,d1,g1⟩:=cell_of_two HR1.out.rd.box
 have HB:Hid (Below w.heap.size w w1):=(bel_drewN (Below.refl _ w) nq).trans hb1
 clear hb1 hT
 go_wp2
 go_ret3
 refine ⟨_,rfl,HR1.out.set (p+k) _ (by omega) hk,?_⟩
 have hb:=HB.out
 exact World.grownBy.trans ⟨hb.os,hb.tape,hb.output,hb.size,fun i hi _=>hb.block i hi⟩ (grown_setCell w1 gr 1 _)
theorem word_some {W0 w:World} {gr ga n cw p:Nat} {zs:List Int} (h:Rdr W0 w gr ga n cw p zs) (hp:p < n) :
  Calls Tryz.prog 179 #[.pointer (some ⟨gr,0,none⟩)] w fun e w'=>e=.returned (.tuple #[.int .u32 (nth zs p),.int .i64 0])∧Rdr W0 w' gr ga n cw (p+1) zs:=by
 have hT:=take_word (m:=0) h hp
 have hlen:=h.len
 clear h
 go_enter Tryz.func179,Tryz.ntmps179
 go_wp2_with fail
 refine hT.mono ?_
 rintro e w1 ⟨c,rfl,hR⟩
 obtain ⟨b,off,e1,_,hc⟩:=hR.words p (by rw [hlen];exact hp)
 simp at e1
 obtain ⟨rfl,rfl⟩:=e1
 rw [Nat.zero_add] at hc
 clear hlen
 go_wp2
 go_ret2
 exact ⟨rfl,hR⟩
theorem word_none {W0 w:World} {gr ga n cw:Nat} {zs:List Int} (h:Rdr W0 w gr ga n cw n zs) :
  Calls Tryz.prog 179 #[.pointer (some ⟨gr,0,none⟩)] w fun e w'=>e=.returned (.tuple #[.int .u32 0,.int .i64 14])∧Rdr W0 w' gr ga n cw n zs:=by
 have hT:=take_end (m:=0) h
 go_enter Tryz.func179,Tryz.ntmps179
 go_wp2_with fail
 refine hT.mono ?_
 rintro e w1 ⟨rfl,q,rfl⟩
 go_wp2
 go_ret2
 exact ⟨rfl,h.drew q⟩
theorem rtext_any {W0 w:World} {gr ga n cw p:Nat} {zs:List Int} (h:Rdr W0 w gr ga n cw p zs) (s:ByteArray) (k er:Int) (hk0:0≤k) (hk:k≤(n - p:Nat)) (hz:er≠0→s=⟨#[]⟩∧k=0)
  (hT:∀ b cb w2,n - p≤cb→View .u32 w2 b (zs.drop p)→Calls Tryz.prog 228 #[.slice b (n - p:Nat) cb] w2 fun e w'=>e=.returned (.tuple #[.string s,.int .i64 k,.int .i64 er])∧Below w2.heap.size w2 w') :
  Calls Tryz.prog 212 #[.pointer (some ⟨gr,0,none⟩)] w fun e w'=>e=.returned (.tuple #[.string s,.int .i64 er])∧Rdr W0 w' gr ga n cw (p+k.toNat) zs:=by
 have hle:=h.le
 by_cases her:er=0
 ·subst her
  obtain ⟨kk,rfl⟩:=Int.eq_ofNat_of_zero_le hk0
  have hA:=take_text_yes (m:=0) h s kk (by omega) hT
  rw [Int.toNat_natCast]
  clear hz hT h
  go_enter Tryz.func212,Tryz.ntmps212
  go_wp2_with fail
  refine hA.mono ?_
  rintro e w1 ⟨v,rfl,hR,_⟩
  go_wp2
  go_ret2
  exact ⟨rfl,hR⟩
 ·obtain ⟨rfl,rfl⟩:=hz her
  have hA:=take_text_no (m:=0) h ⟨#[]⟩ 0 er her hT
  have H:Hid (Rdr W0 w gr ga n cw p zs):=h
  clear hz hT h her
  go_enter Tryz.func212,Tryz.ntmps212
  go_wp2_with fail
  refine hA.mono ?_
  rintro e w1 ⟨rfl,hb⟩
  go_wp2
  go_ret2
  exact ⟨rfl,H.out.below hb⟩
end Go.Proofs.YtddkapkkjhomkaaGreatDoor
