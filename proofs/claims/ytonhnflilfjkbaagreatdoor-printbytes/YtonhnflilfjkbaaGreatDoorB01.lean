/-
  Texts in one: Math, Math3, Args, KitInst, KitModule, MathF, KitCopyInst, KitCopyModule, Draw, DrawE, DrawAppend, Rdr, Raws.
-/
import Derived.WalkKit
import Derived.Laws.BitsAllLaws
import Derived.WalkSmall
import Derived.OpenShut
import Derived.ProofKit
import Derived.Laws.BytesArg
import Derived.WideShapes
import Derived.WalkSpells
import Derived.Deep.QuietTactic
import Derived.BigQuiet
import Derived.Test.YtonhnflilfjkbaaGreatDoorProg
import Derived.BigRegion
import Derived.Deep.RegionWith
import Derived.Deep.DrawnRows
import Derived.OrdersIn
import Derived.RangeFuncNested
import Derived.Deep.AppendLies
import Derived.Maps.AppendAt
import Derived.Maps.Range
import Derived.OneCell
namespace Go.Proofs.YtonhnflilfjkbaaGreatDoor
open Go.RowKit
theorem ret_int {k:IntKind} {a b:Int} (h:a=b):Ending.returned (.int k a)=.returned (.int k b):=by rw [h]
def nth (zs:List Int) (k:Nat):Int:=zs.getD k 0
def byt (x:Int) (p:Nat):Int:=x / 256 ^ p % 256
theorem byt_lo (x:Int) (p:Nat):0≤byt x p:=Int.emod_nonneg _ (by decide)
theorem byt_hi (x:Int) (p:Nat):byt x p<256:=Int.emod_lt_of_pos _ (by decide)
def plc (c:Int) (p:Nat):Int:=c * 256 ^ p
theorem or_u32 (a b s:Nat) (hb:b<2 ^ s) (h:a * 2 ^ s+b<4294967296):bits .or .u32 ((a * 2 ^ s:Nat):Int) (b:Int)=((a * 2 ^ s+b:Nat):Int):=by
 rw [u32_or_nat _ _ (by omega) (by omega),← Nat.shiftLeft_eq,Nat.shiftLeft_add_eq_or_of_lt hb]
theorem or_u32' (a b s:Nat) (hb:b<2 ^ s) (h:a * 2 ^ s+b<4294967296):bits .or .u32 (b:Int) ((a * 2 ^ s:Nat):Int)=((a * 2 ^ s+b:Nat):Int):=by
 rw [u32_or_nat _ _ (by omega) (by omega),Nat.or_comm,← Nat.shiftLeft_eq,Nat.shiftLeft_add_eq_or_of_lt hb]
theorem or_high (a b : Int) (s : Nat) (ha : 0 ≤ a) (hb0 : 0 ≤ b) (hb : b < 2 ^ s) (h : a * 2 ^ s + b < 4294967296) : bits .or .u32 (a * 2 ^ s) b = a * 2 ^ s + b := by
  obtain ⟨m, rfl⟩ := Int.eq_ofNat_of_zero_le ha
  obtain ⟨n, rfl⟩ := Int.eq_ofNat_of_zero_le hb0
  have e : ((m : Int) * 2 ^ s) = ((m * 2 ^ s : Nat) : Int) := by simp
  rw [e] at h ⊢
  rw [or_u32 m n s (by have : ((n : Nat) : Int) < ((2 ^ s : Nat) : Int) := by simpa using hb
                       omega) (by omega)]
  simp
theorem or_low (a b : Int) (s : Nat) (ha : 0 ≤ a) (hb0 : 0 ≤ b) (hb : b < 2 ^ s) (h : a * 2 ^ s + b < 4294967296) : bits .or .u32 b (a * 2 ^ s) = b + a * 2 ^ s := by
  obtain ⟨m, rfl⟩ := Int.eq_ofNat_of_zero_le ha
  obtain ⟨n, rfl⟩ := Int.eq_ofNat_of_zero_le hb0
  have e : ((m : Int) * 2 ^ s) = ((m * 2 ^ s : Nat) : Int) := by simp
  rw [e] at h ⊢
  rw [or_u32' m n s (by have : ((n : Nat) : Int) < ((2 ^ s : Nat) : Int) := by simpa using hb
                        omega) (by omega)]
  simp; omega
theorem or_zero (b:Int) (hb0:0≤b) (hb:b<4294967296):bits .or .u32 0 b=b:=by
 have:=or_high 0 b 32 (by omega) hb0 (by omega) (by omega)
 simpa using this
def turnI (x:Int):Int:=byt x 0 * 16777216+byt x 1 * 65536+byt x 2 * 256+byt x 3
theorem byt0 (x:Int):byt x 0=x % 256:=by simp [byt]
theorem byt1 (x:Int):byt x 1=x / 256 % 256:=by simp [byt]
theorem byt2 (x:Int):byt x 2=x / 65536 % 256:=by simp [byt]
theorem byt3 (x:Int):byt x 3=x / 16777216 % 256:=by simp [byt]
theorem of_byt (x:Int) (h0:0≤x) (h1:x<4294967296):byt x 0+byt x 1 * 256+byt x 2 * 65536+byt x 3 * 16777216=x:=by
 rw [byt0,byt1,byt2,byt3];omega
theorem plc0 (c:Int):plc c 0=c:=by simp [plc]
theorem plc1 (c:Int):plc c 1=c * 256:=by simp [plc]
theorem plc2 (c:Int):plc c 2=c * 65536:=by simp [plc]
theorem plc3 (c:Int):plc c 3=c * 16777216:=by simp [plc]
theorem or_four_high (a b c d:Int) (a0:0≤a) (a1:a<256) (b0:0≤b) (b1:b<256) (c0:0≤c) (c1:c<256) (d0:0≤d) (d1:d<256) :
  bits .or .u32 (bits .or .u32 (bits .or .u32 (bits .or .u32 0 (plc a 3)) (plc b 2)) (plc c 1)) (plc d 0)=a * 16777216+b * 65536+c * 256+d:=by
 rw [plc0,plc1,plc2,plc3,or_zero _ (by omega) (by omega)]
 have e1:=or_high a (b * 65536) 24 a0 (by omega) (by omega) (by omega)
 have e2:=or_high (a * 256+b) (c * 256) 16 (by omega) (by omega) (by omega) (by omega)
 have e3:=or_high (a * 65536+b * 256+c) d 8 (by omega) (by omega) (by omega) (by omega)
 rw [show (a * 2 ^ 24:Int)=a * 16777216 by omega] at e1
 rw [show ((a * 256+b) * 2 ^ 16:Int)=a * 16777216+b * 65536 by omega] at e2
 rw [show ((a * 65536+b * 256+c) * 2 ^ 8:Int)=a * 16777216+b * 65536+c * 256 by omega] at e3
 rw [e1,e2,e3]
/-! ### lists of words and bytes -/

def four (x:Int):List Int:=[byt x 0,byt x 1,byt x 2,byt x 3]
def joinL (zs:List Int):List Int:=zs.flatMap four
theorem four_len (x:Int):(four x).length=4:=rfl
theorem joinL_len (zs:List Int):(joinL zs).length=4 * zs.length:=by
 induction zs with
 | nil=>rfl
 | cons z zs ih=>simp only [joinL,List.flatMap_cons,List.length_append,four_len,List.length_cons] at ih ⊢;omega
theorem take_snoc (zs:List Int) (k:Nat) (h:k<zs.length):zs.take (k+1)=zs.take k++[nth zs k]:=by
 rw [List.take_succ_eq_append_getElem h];simp [nth,List.getD,h]
theorem joinL_snoc (zs:List Int) (k:Nat) (h:k<zs.length):joinL (zs.take (k+1))=joinL (zs.take k)++four (nth zs k):=by
 rw [take_snoc zs k h];simp [joinL]
theorem four_snoc (x:Int) (p:Nat) (h:p<4):(four x).take (p+1)=(four x).take p++[byt x p]:=by
 match p,h with
 | 0,_=>rfl
 | 1,_=>rfl
 | 2,_=>rfl
 | 3,_=>rfl
def View (k:IntKind) (w:World) (a:Option Addr) (zs:List Int):Prop :=
 ∀ j,j<zs.length→∃ b off,a=some ⟨b,off,none⟩∧b<w.heap.size∧w.cell? ⟨b,off+j,none⟩=some (.int k (nth zs j))
def Within (m:Int) (zs:List Int):Prop:=∀ z∈zs,0≤z∧z<m
theorem Within.at {m:Int} {zs:List Int} (h:Within m zs) {k:Nat} (hk:k<zs.length):0≤nth zs k∧nth zs k<m:=by
 have e:nth zs k=zs[k]:=by simp [nth,List.getD,hk]
 rw [e];exact h _ (List.getElem_mem hk)
theorem View.below {k:IntKind} {w w':World} {a:Option Addr} {zs:List Int} (h:View k w a zs) (hb:Below w.heap.size w w'):View k w' a zs:=by
 intro j hj
 obtain⟨b,off,e,hlt,hc⟩:=h j hj
 exact⟨b,off,e,Nat.lt_of_lt_of_le hlt hb.size,(hb.cell (p:=⟨b,off+j,none⟩) hlt).trans hc⟩
theorem bel_drewN {B:Nat} {a w:World} (h:Below B a w) (n:Nat):Below B a (w.drewN n):=h.trans ⟨rfl,rfl,rfl,Nat.le_refl _,fun _ _=>rfl⟩
theorem View.ofRow {k:IntKind} {w:World} {B e g n cap:Nat} {zs:List Int} (h:w.ownsRow B e 1 (.slice (some ⟨g,0,none⟩) n cap) n (zs.map (Value.int k))) (hl:zs.length=n):View k w (some ⟨g,0,none⟩) zs:=by
 intro j hj
 have hc:=h.cellAt j (by omega)
 have e:(zs.map (Value.int k))[j]?=some (.int k (nth zs j)):=by simp [nth,List.getD,hj]
 rw [e] at hc
 exact⟨g,0,rfl,World.block_lt_of_cell? _ _ hc,by rw [Nat.zero_add];exact hc⟩
theorem own_below {w w':World} {B e size n:Nat} {v:Value} {xs:List Value} (h:w.ownsRow B e size v n xs) (hb:Below w.heap.size w w'):w'.ownsRow B e size v n xs:=by
 refine⟨h.1,?_⟩
 rcases h.2 with hn | ⟨g,cap,cur,rfl,hg,hgg,rest⟩
 ·exact .inl hn
 ·exact .inr ⟨g,cap,cur,rfl,hg,by rw [hb.block g (Array.getElem?_eq_some_iff.1 hgg).1];exact hgg,rest⟩
theorem view_nil {k:IntKind} {w:World} {a:Option Addr}:View k w a []:=fun j hj=>by simp at hj
theorem within_nil {m:Int}:Within m []:=fun z hz=>by simp at hz
theorem within_take {m:Int} {zs:List Int} {n:Nat} (h:∀ z∈zs,0≤z∧z<m):Within m (zs.take n):=fun z hz=>h z (List.mem_of_mem_take hz)
theorem view_take {k:IntKind} {w:World} {x:Addr} {zs:List Int} {n:Nat} (hcell:∀ i,i<zs.length→w.cell? (x.add i)=some (.int k (nth zs i))) (hn:n≤zs.length):View k w (some x) (zs.take n):=by
 intro j hj
 rw [List.length_take] at hj
 have hc0:=hcell 0 (by omega)
 have hc:=hcell j (by omega)
 obtain⟨b,off,spot⟩:=x
 have hs:spot=none:=by simpa [Addr.add] using World.cell?_spot hc0
 subst hs
 have hc':w.cell? ⟨b,off+j,none⟩=some (.int k (nth zs j)):=by rw [← Addr.add_lit];exact hc
 refine⟨b,off,rfl,World.block_lt_of_cell? _ _ hc',?_⟩
 rw [hc']
 simp [nth,List.getD,show j<n by omega]
/-! ### a row that is filled from its head on -/

def filled (zs:List Int) (k n:Nat):List Int:=zs.take k++List.replicate (n - k) 0
theorem filled_len (zs:List Int) (k n:Nat) (hk:k≤n) (hz:k≤zs.length):(filled zs k n).length=n:=by
 simp only [filled,List.length_append,List.length_take,List.length_replicate];omega
theorem filled_whole (zs:List Int) (n:Nat) (hz:zs.length=n):filled zs n n=zs:=by
 subst hz;simp [filled]
theorem filled_zero (zs:List Int) (n:Nat):filled zs 0 n=List.replicate n 0:=by simp [filled]
theorem filled_at (zs:List Int) (k n:Nat) (hk:k<n) (hz:k≤zs.length):(filled zs k n)[k]?=some 0:=by
 have e:(zs.take k).length=k:=by rw [List.length_take];omega
 rw [filled,List.getElem?_append_right (by omega),e,Nat.sub_self]
 simp [show 0<n - k by omega]
theorem filled_set (zs:List Int) (k n:Nat) (hk:k<n) (hz:k<zs.length):(filled zs k n).set k (nth zs k)=filled zs (k+1) n:=by
 have e:(zs.take k).length=k:=by rw [List.length_take];omega
 rw [filled,filled,List.set_append_right _ _ (by omega),e,Nat.sub_self,take_snoc zs k hz,List.append_assoc]
 congr 1
 rw [show n - k=(n - (k+1))+1 by omega,List.replicate_succ]
 simp
theorem made_row {w:World} {B e:Nat} {v:Value} {n:Nat} {k:IntKind} (zs:List Int) (h:w.ownsRow B e 1 v n (madeCells #[Value.int k 0] n).toList):w.ownsRow B e 1 v n ((filled zs 0 n).map (Value.int k)):=by
 have e1:(madeCells #[Value.int k 0] n).toList=(filled zs 0 n).map (Value.int k):=by
  rw [filled_zero,List.map_replicate]
  exact toList_madeCells_one (.int k 0) n
 rw [← e1];exact h
theorem fill_step {w:World} {B e g n:Nat} {k:IntKind} {zs:List Int} {i:Nat} (h:w.ownsRow B e 1 (.slice (some ⟨g,0,none⟩) n n) n ((filled zs i n).map (Value.int k))) (hi:i<n) (hz:i<zs.length) :
  w.cell? ⟨g,i,none⟩=some (.int k 0)∧w.frozen? ⟨g,i,none⟩=false∧(w.setCell ⟨g,i,none⟩ (.int k (nth zs i))).ownsRow B e 1 (.slice (some ⟨g,0,none⟩) n n) n ((filled zs (i+1) n).map (Value.int k)):=by
 refine⟨?_,h.frozenAt i,?_⟩
 ·rw [h.cellAt i (by omega),List.getElem?_map,filled_at zs i n hi (by omega)];rfl
 ·have:=h.stored i (.int k (nth zs i))
  rw [← List.map_set,filled_set zs i n hi hz] at this
  exact this.1
theorem getD_left (xs ys:List Int) (k:Nat) (h:k<xs.length):nth (xs++ys) k=nth xs k:=by
 simp [nth,List.getD,List.getElem?_append_left h]
theorem getD_right (xs ys:List Int) (k:Nat) (h:xs.length≤k):nth (xs++ys) k=nth ys (k - xs.length):=by
 simp [nth,List.getD,List.getElem?_append_right h]
theorem joinL_getD (zs:List Int) (k:Nat) (h:k<4 * zs.length):nth (joinL zs) k=byt (nth zs (k / 4)) (k % 4):=by
 induction zs generalizing k with
 | nil=>simp at h
 | cons z zs ih =>
  simp only [List.length_cons] at h
  have e:joinL (z :: zs)=four z++joinL zs:=rfl
  by_cases hk:k<4
  ·have e2:k / 4=0:=by omega
   have e3:k % 4=k:=by omega
   rw [e,e2,e3,getD_left _ _ _ (by rw [four_len];exact hk)]
   match k,hk with
   | 0,_=>rfl
   | 1,_=>rfl
   | 2,_=>rfl
   | 3,_=>rfl
  ·have e2:k / 4=(k - 4) / 4+1:=by omega
   have e3:k % 4=(k - 4) % 4:=by omega
   rw [e,e2,e3,getD_right _ _ _ (by rw [four_len];omega),four_len,ih (k - 4) (by omega)]
   rfl
theorem div_pow_lo (X:Int) (j:Nat) (h0:0≤X):0≤X / 256 ^ j:=Int.ediv_nonneg h0 (Int.le_of_lt (Int.pow_pos (by decide)))
theorem div_pow_hi (X:Int) (j:Nat) (m:Int) (h0:0≤X) (h:X<m):X / 256 ^ j<m:=by
 have:=Int.ediv_le_self (256 ^ j) h0
 omega
theorem div_pow_succ (X:Int) (j:Nat):X / 256 ^ j / 256=X / 256 ^ (j+1):=by
 rw [Int.pow_succ,Int.ediv_ediv_of_nonneg (Int.le_of_lt (Int.pow_pos (by decide)))]
theorem within_one {m x:Int} (h0:0≤x) (h1:x<m):Within m [x]:=by
 intro z hz;simp at hz;subst hz;exact⟨h0,h1⟩
/-! ### bytes to words -/

def wordAt (zs:List Int) (k:Nat):Int:=nth zs (4 * k)+nth zs (4 * k+1) * 256+nth zs (4 * k+2) * 65536+nth zs (4 * k+3) * 16777216
def splitL (zs:List Int):List Int:=(List.range (zs.length / 4)).map (wordAt zs)
def splitErr (zs:List Int):Int:=if 4194304<zs.length then 4 else if zs.length % 4=0 then 0 else 10
def splitOut (zs:List Int):List Int:=if splitErr zs=0 then splitL zs else []
theorem nth_range (f:Nat→Int) (n k:Nat) (h:k<n):nth ((List.range n).map f) k=f k:=by
 simp [nth,List.getD,h]
theorem splitL_len (zs:List Int):(splitL zs).length=zs.length / 4:=by simp [splitL]
theorem nth_splitL (zs:List Int) (k:Nat) (h:k<zs.length / 4):nth (splitL zs) k=wordAt zs k:=nth_range _ _ _ h
theorem splitErr_large (zs:List Int) (h:4194304<zs.length):splitErr zs=4:=by simp [splitErr,h]
theorem splitErr_odd (zs:List Int) (h:¬ 4194304<zs.length) (h2:¬ zs.length % 4=0):splitErr zs=10:=by simp [splitErr,h,h2]
theorem splitErr_ok (zs:List Int) (h:¬ 4194304<zs.length) (h2:zs.length % 4=0):splitErr zs=0:=by simp [splitErr,h,h2]
theorem splitOut_large (zs:List Int) (h:4194304<zs.length):splitOut zs=[]:=by rw [splitOut,splitErr_large zs h];rfl
theorem splitOut_odd (zs:List Int) (h:¬ 4194304<zs.length) (h2:¬ zs.length % 4=0):splitOut zs=[]:=by rw [splitOut,splitErr_odd zs h h2];rfl
theorem splitOut_ok (zs:List Int) (h:¬ 4194304<zs.length) (h2:zs.length % 4=0):splitOut zs=splitL zs:=by rw [splitOut,splitErr_ok zs h h2];rfl
def partW (zs:List Int) (i k:Nat):Int :=
 (if 4 * k<i then nth zs (4 * k) else 0)+(if 4 * k+1<i then nth zs (4 * k+1) * 256 else 0)+(if 4 * k+2<i then nth zs (4 * k+2) * 65536 else 0)+(if 4 * k+3<i then nth zs (4 * k+3) * 16777216 else 0)
def partL (zs:List Int) (i n:Nat):List Int:=(List.range n).map (partW zs i)
theorem partL_zero (zs ys:List Int) (n:Nat):partL zs 0 n=filled ys 0 n:=by
 rw [filled_zero]
 apply List.ext_getElem? 
 intro k
 by_cases hk:k<n
 ·simp [partL,partW,hk]
 ·simp [partL,hk]
theorem partL_whole (zs:List Int) (h:zs.length % 4=0):partL zs zs.length (zs.length / 4)=splitL zs:=by
 unfold partL splitL
 apply List.map_congr_left
 intro k hk
 have hk':k<zs.length / 4:=List.mem_range.1 hk
 unfold partW wordAt
 rw [if_pos (by omega),if_pos (by omega),if_pos (by omega),if_pos (by omega)]
theorem partW_other (zs:List Int) (i k:Nat) (h:k≠i / 4):partW zs (i+1) k=partW zs i k:=by
 unfold partW
 have h0:(4 * k<i+1)=(4 * k<i):=by apply propext;omega
 have h1:(4 * k+1<i+1)=(4 * k+1<i):=by apply propext;omega
 have h2:(4 * k+2<i+1)=(4 * k+2<i):=by apply propext;omega
 have h3:(4 * k+3<i+1)=(4 * k+3<i):=by apply propext;omega
 simp only [h0,h1,h2,h3]
theorem partL_set (zs:List Int) (i n:Nat):(partL zs i n).set (i / 4) (partW zs (i+1) (i / 4))=partL zs (i+1) n:=by
 apply List.ext_getElem?
 intro k
 rw [List.getElem?_set]
 by_cases hk:k<n
 ·by_cases e:i / 4=k
  ·subst e;simp [partL,hk]
  ·simp [partL,hk,e,partW_other zs i k (fun h=>e h.symm)]
 ·by_cases e:i / 4=k
  ·subst e;simp [partL,hk]
  ·simp [partL,hk,e]
theorem partW_step (zs:List Int) (i:Nat) (hw:Within 256 zs) (hi:i<zs.length) :
  bits .or .u32 (partW zs i (i / 4)) (plc (nth zs i) (i % 4))=partW zs (i+1) (i / 4):=by
 have hc:=hw.at hi
 rcases (show i % 4=0∨i % 4=1∨i % 4=2∨i % 4=3 by omega) with e | e | e | e
 ·have e0:4 * (i / 4)=i:=by omega
  rw [e,plc0];unfold partW
  rw [if_neg (by omega),if_neg (by omega),if_neg (by omega),if_neg (by omega),if_pos (by omega),if_neg (by omega),if_neg (by omega),if_neg (by omega),e0]
  have:=or_zero (nth zs i) hc.1 (by omega)
  simpa using this
 ·have e0:4 * (i / 4)+1=i:=by omega
  have b0:=hw.at (k:=4 * (i / 4)) (by omega)
  rw [e,plc1];unfold partW
  rw [if_pos (by omega),if_neg (by omega),if_neg (by omega),if_neg (by omega),if_pos (by omega),if_pos (by omega),if_neg (by omega),if_neg (by omega),e0]
  have:=or_low (nth zs i) (nth zs (4 * (i / 4))) 8 hc.1 b0.1 (by omega) (by omega)
  rw [show ((nth zs i) * 2 ^ 8:Int)=nth zs i * 256 by omega] at this
  simpa using this
 ·have e0:4 * (i / 4)+2=i:=by omega
  have b0:=hw.at (k:=4 * (i / 4)) (by omega)
  have b1:=hw.at (k:=4 * (i / 4)+1) (by omega)
  rw [e,plc2];unfold partW
  rw [if_pos (by omega),if_pos (by omega),if_neg (by omega),if_neg (by omega),if_pos (by omega),if_pos (by omega),if_pos (by omega),if_neg (by omega),e0]
  have:=or_low (nth zs i) (nth zs (4 * (i / 4))+nth zs (4 * (i / 4)+1) * 256) 16 hc.1 (by omega) (by omega) (by omega)
  rw [show ((nth zs i) * 2 ^ 16:Int)=nth zs i * 65536 by omega] at this
  simpa using this
 ·have e0:4 * (i / 4)+3=i:=by omega
  have b0:=hw.at (k:=4 * (i / 4)) (by omega)
  have b1:=hw.at (k:=4 * (i / 4)+1) (by omega)
  have b2:=hw.at (k:=4 * (i / 4)+2) (by omega)
  rw [e,plc3];unfold partW
  rw [if_pos (by omega),if_pos (by omega),if_pos (by omega),if_neg (by omega),if_pos (by omega),if_pos (by omega),if_pos (by omega),if_pos (by omega),e0]
  have:=or_low (nth zs i) (nth zs (4 * (i / 4))+nth zs (4 * (i / 4)+1) * 256+nth zs (4 * (i / 4)+2) * 65536) 24 hc.1 (by omega) (by omega) (by omega)
  rw [show ((nth zs i) * 2 ^ 24:Int)=nth zs i * 16777216 by omega] at this
  simpa using this
theorem partW_bounds (zs:List Int) (i k:Nat) (hw:Within 256 zs) (h:4 * k+4≤zs.length):0≤partW zs i k∧partW zs i k<4294967296:=by
 have b0:=hw.at (k:=4 * k) (by omega)
 have b1:=hw.at (k:=4 * k+1) (by omega)
 have b2:=hw.at (k:=4 * k+2) (by omega)
 have b3:=hw.at (k:=4 * k+3) (by omega)
 unfold partW
 split <;> split <;> split <;> split <;> omega
theorem wordAt_bounds (zs:List Int) (k:Nat) (hw:Within 256 zs) (h:4 * k+4≤zs.length):0≤wordAt zs k∧wordAt zs k<4294967296:=by
 have b0:=hw.at (k:=4 * k) (by omega)
 have b1:=hw.at (k:=4 * k+1) (by omega)
 have b2:=hw.at (k:=4 * k+2) (by omega)
 have b3:=hw.at (k:=4 * k+3) (by omega)
 unfold wordAt;omega
def NewAt (B:Nat) (a:Option Addr):Prop:=∀ b off s,a=some ⟨b,off,s⟩→B≤b
theorem newAt_none {B:Nat}:NewAt B none:=fun b off s h=>by simp at h
theorem newAt_mk {B b off:Nat} (h:B≤b):NewAt B (some ⟨b,off,none⟩):=fun b' off' s e=>by simp at e;omega
theorem View.setCell {k:IntKind} {w:World} {a:Option Addr} {zs:List Int} (h:View k w a zs) {B g j:Nat} (hn:NewAt B a) (hg:g<B) (u:Value):View k (w.setCell ⟨g,j,none⟩ u) a zs:=by
 intro i hi
 obtain⟨b,off,rfl,hb,hc⟩:=h i hi
 have:=hn b off none rfl
 refine⟨b,off,rfl,by simpa [World.setCell] using hb,?_⟩
 rw [← hc]
 exact World.cell?_of_block (w:=w) (Below.heap_setCell w ⟨g,j,none⟩ u b (by simp;omega))
theorem cell_far {w:World} {g b:Nat} (h:b≠g) (j o:Nat) (u:Value):(w.setCell ⟨g,j,none⟩ u).cell? ⟨b,o,none⟩=w.cell? ⟨b,o,none⟩ :=
 World.cell?_of_block (w:=w) (Below.heap_setCell w ⟨g,j,none⟩ u b (by simpa using h))
theorem rest_zero (X:Int) (P:Nat) (hP:P<4) (h0:0≤X) (h1:X<4294967296):X / 256 ^ P=0↔∀ q,P≤q→q<4→byt X q=0:=by
 rcases (show P=0∨P=1∨P=2∨P=3 by omega) with rfl | rfl | rfl | rfl
 ·constructor
  ·intro h q _ hq
   have h':X=0:=by simpa using h
   subst h';simp [byt]
  ·intro h
   have a:=h 0 (by omega) (by omega);have b:=h 1 (by omega) (by omega);have c:=h 2 (by omega) (by omega);have d:=h 3 (by omega) (by omega)
   rw [byt0] at a;rw [byt1] at b;rw [byt2] at c;rw [byt3] at d
   simp;omega
 ·constructor
  ·intro h q hq hq4
   have h':X / 256=0:=by simpa using h
   rcases (show q=1∨q=2∨q=3 by omega) with rfl | rfl | rfl
   ·rw [byt1];omega
   ·rw [byt2];omega
   ·rw [byt3];omega
  ·intro h
   have b:=h 1 (by omega) (by omega);have c:=h 2 (by omega) (by omega);have d:=h 3 (by omega) (by omega)
   rw [byt1] at b;rw [byt2] at c;rw [byt3] at d
   simp;omega
 ·constructor
  ·intro h q hq hq4
   have h':X / 65536=0:=by simpa using h
   rcases (show q=2∨q=3 by omega) with rfl | rfl
   ·rw [byt2];omega
   ·rw [byt3];omega
  ·intro h
   have c:=h 2 (by omega) (by omega);have d:=h 3 (by omega) (by omega)
   rw [byt2] at c;rw [byt3] at d
   simp;omega
 ·constructor
  ·intro h q hq hq4
   have h':X / 16777216=0:=by simpa using h
   obtain rfl:q=3:=by omega
   rw [byt3];omega
  ·intro h
   have d:=h 3 (by omega) (by omega)
   rw [byt3] at d
   simp;omega
theorem joinL_take (zs:List Int) (k:Nat):joinL (zs.take k)=(joinL zs).take (4 * k):=by
 induction zs generalizing k with
 | nil=>simp [joinL]
 | cons z zs ih =>
  cases k with
  | zero=>rfl
  | succ k =>
   have e1:joinL ((z :: zs).take (k+1))=four z++joinL (zs.take k):=rfl
   have e2:joinL (z :: zs)=four z++joinL zs:=rfl
   rw [e1,e2,ih,show 4 * (k+1)=4 * k+4 by omega]
   rfl
theorem nth_take (zs:List Int) (k n:Nat) (h:k<n):nth (zs.take n) k=nth zs k:=by
 simp [nth,List.getD,h]
theorem View.take {k:IntKind} {w:World} {a:Option Addr} {zs:List Int} (h:View k w a zs) (n:Nat):View k w a (zs.take n):=by
 intro j hj
 rw [List.length_take] at hj
 obtain⟨b,off,e,hb,hc⟩:=h j (by omega)
 exact⟨b,off,e,hb,by rw [hc,nth_take _ _ _ (by omega)]⟩
theorem within_of_take {m:Int} {zs:List Int} {n:Nat} (h:Within m zs):Within m (zs.take n):=fun z hz=>h z (List.mem_of_mem_take hz)
abbrev ArgT:=Int×Int×ByteArray
def argV (x:ArgT):Value:=.agg #[.int .u8 x.1,.int .u32 x.2.1,.string x.2.2]
def noArg:ArgT:=(0,0,⟨#[]⟩)
def argC (x:ArgT):List Value:=[.int .u8 x.1,.int .u32 x.2.1,.string x.2.2]
def nthA (l:List ArgT) (j:Nat):ArgT:=l.getD j noArg
def ArgsV (w:World) (a:Option Addr) (l:List ArgT):Prop :=
 ∀ j,j<l.length→∃ b off,a=some ⟨b,off,none⟩∧b<w.heap.size∧w.cell? ⟨b,off+j * 3,none⟩=some (.int .u8 (nthA l j).1)∧w.cell? ⟨b,off+j * 3+1,none⟩=some (.int .u32 (nthA l j).2.1)∧w.cell? ⟨b,off+j * 3+2,none⟩=some (.string (nthA l j).2.2)
def ArgOk (x:ArgT):Prop:=0≤x.1∧x.1<256∧0≤x.2.1∧x.2.1<4294967296∧x.2.2.size≤140737488351232
def ArgsOk (l:List ArgT):Prop:=∀ j,j<l.length→ArgOk (nthA l j)
theorem argsV_nil {w:World} {a:Option Addr}:ArgsV w a []:=fun j hj=>by simp at hj
theorem argsOk_nil:ArgsOk []:=fun j hj=>by simp at hj
theorem ArgsV.below {w w':World} {a:Option Addr} {l:List ArgT} (h:ArgsV w a l) (hb:Below w.heap.size w w'):ArgsV w' a l:=by
 intro j hj
 obtain⟨b,off,e,hlt,h1,h2,h3⟩:=h j hj
 exact⟨b,off,e,Nat.lt_of_lt_of_le hlt hb.size,(hb.cell (p:=⟨b,off+j * 3,none⟩) hlt).trans h1,(hb.cell (p:=⟨b,off+j * 3+1,none⟩) hlt).trans h2,(hb.cell (p:=⟨b,off+j * 3+2,none⟩) hlt).trans h3⟩
theorem ArgsV.setCell {w:World} {a:Option Addr} {l:List ArgT} (h:ArgsV w a l) {g i:Nat} (hg:∀ b off,a=some ⟨b,off,none⟩→b≠g) (v:Value):ArgsV (w.setCell ⟨g,i,none⟩ v) a l:=by
 intro j hj
 obtain⟨b,off,e,hlt,h1,h2,h3⟩:=h j hj
 have hne:=hg b off e
 have hx:(w.setCell ⟨g,i,none⟩ v).heap[b]?=w.heap[b]?:=Below.heap_setCell _ _ _ _ (by simpa using hne)
 refine⟨b,off,e,by simpa using hlt,?_,?_,?_⟩
 ·simp only [World.cell?,hx] at h1 ⊢;exact h1
 ·simp only [World.cell?,hx] at h2 ⊢;exact h2
 ·simp only [World.cell?,hx] at h3 ⊢;exact h3
abbrev InstT:=Int×Int×Int×List ArgT
def instV (x:InstT) (a:Option Addr) (n c:Nat):Value:=.agg #[.int .u16 x.1,.int .u32 x.2.1,.int .u32 x.2.2.1,.slice a n c]
def noInst:InstT:=(0,0,0,[])
def nthI (l:List InstT) (j:Nat):InstT:=l.getD j noInst
def InstOk (x:InstT):Prop:=0≤x.1∧x.1<65536∧0≤x.2.1∧x.2.1<4294967296∧0≤x.2.2.1∧x.2.2.1<4294967296∧ArgsOk x.2.2.2∧24 * x.2.2.2.length≤140737488351232
def InstsOk (l:List InstT):Prop:=∀ j,j<l.length→InstOk (nthI l j)
def InstsV (w:World) (a:Option Addr) (l:List InstT):Prop :=
 ∀ j,j<l.length→∃ b off aj cj nj,a=some ⟨b,off,none⟩∧b<w.heap.size∧w.cell? ⟨b,off+j * 4,none⟩=some (.int .u16 (nthI l j).1)∧w.cell? ⟨b,off+j * 4+1,none⟩=some (.int .u32 (nthI l j).2.1)∧w.cell? ⟨b,off+j * 4+2,none⟩=some (.int .u32 (nthI l j).2.2.1) ∧
  w.cell? ⟨b,off+j * 4+3,none⟩=some (.slice aj nj cj)∧(nthI l j).2.2.2.length=nj∧ArgsV w aj (nthI l j).2.2.2∧nj≤cj
theorem instsV_nil {w:World} {a:Option Addr}:InstsV w a []:=fun j hj=>by simp at hj
theorem instsOk_nil:InstsOk []:=fun j hj=>by simp at hj
theorem InstsV.below {w w':World} {a:Option Addr} {l:List InstT} (h:InstsV w a l) (hb:Below w.heap.size w w'):InstsV w' a l:=by
 intro j hj
 obtain⟨b,off,aj,cj,nj,e,hlt,h1,h2,h3,h4,h5,h6,h7⟩:=h j hj
 exact⟨b,off,aj,cj,nj,e,Nat.lt_of_lt_of_le hlt hb.size,(hb.cell (p:=⟨b,off+j * 4,none⟩) hlt).trans h1,(hb.cell (p:=⟨b,off+j * 4+1,none⟩) hlt).trans h2,(hb.cell (p:=⟨b,off+j * 4+2,none⟩) hlt).trans h3,(hb.cell (p:=⟨b,off+j * 4+3,none⟩) hlt).trans h4,h5,h6.below hb,h7⟩
theorem nthA_lt (l:List ArgT) (j:Nat) (h:j<l.length):nthA l j=l[j]:=by simp [nthA,List.getD,h]
theorem nthI_lt (l:List InstT) (j:Nat) (h:j<l.length):nthI l j=l[j]:=by simp [nthI,List.getD,h]
theorem nthA_lo (l:List ArgT) (x:ArgT) (j:Nat) (h:j<l.length):nthA (l++[x]) j=nthA l j:=by simp [nthA,List.getD,List.getElem?_append_left h]
theorem nthA_hi (l:List ArgT) (x:ArgT):nthA (l++[x]) l.length=x:=by simp [nthA,List.getD]
theorem nthI_lo (l:List InstT) (x:InstT) (j:Nat) (h:j<l.length):nthI (l++[x]) j=nthI l j:=by simp [nthI,List.getD,List.getElem?_append_left h]
theorem nthI_hi (l:List InstT) (x:InstT):nthI (l++[x]) l.length=x:=by simp [nthI,List.getD]
theorem argsOk_push {l:List ArgT} {x:ArgT} (h:ArgsOk l) (hx:ArgOk x):ArgsOk (l++[x]):=by
 intro j hj
 rw [List.length_append,List.length_singleton] at hj
 by_cases hjl:j<l.length
 ·rw [nthA_lo _ _ _ hjl];exact h j hjl
 ·obtain rfl:j=l.length:=by omega
  rw [nthA_hi];exact hx
set_option maxRecDepth 10000
theorem two_boxes (w:World) (o p:Obj):Below w.heap.size w ((w.alloc o).alloc p):=((Below.refl _ w).alloc (Nat.le_refl _) _).alloc (by simp) _
def modV (g b:Int) (a:Option Addr) (n c:Nat):Value:=.agg #[.int .u32 g,.int .u32 b,.slice a n c]
def cntN (zs:List Int) (p:Nat):Nat:=(nth zs p).toNat / 65536
def opI (zs:List Int) (p:Nat):Int:=nth zs p % 65536
theorem cntN_int (zs:List Int) (p:Nat) (h:0≤nth zs p):nth zs p / 65536=(cntN zs p:Int):=by unfold cntN;omega
theorem opI_lo (zs:List Int) (p:Nat):0≤opI zs p:=Int.emod_nonneg _ (by decide)
theorem opI_hi (zs:List Int) (p:Nat):opI zs p<65536:=Int.emod_lt_of_pos _ (by decide)
def badB (zs:List Int) (p:Nat):Bool:=cntN zs p==0 || decide (zs.length<p+cntN zs p)
def restF (zs:List Int):Nat→Nat→List Nat
 | 0,_=>[]
 | f+1,p=>if p<zs.length then (if badB zs p then [] else p :: restF zs f (p+cntN zs p)) else []
def stopF (zs:List Int):Nat→Nat→Nat
 | 0,p=>p
 | f+1,p=>if p<zs.length then (if badB zs p then p else stopF zs f (p+cntN zs p)) else p
def rest (zs:List Int) (p:Nat):List Nat:=restF zs (zs.length - p) p
def stop (zs:List Int) (p:Nat):Nat:=stopF zs (zs.length - p) p
theorem restF_end (zs:List Int) (f p:Nat) (h:zs.length≤p):restF zs f p=[]:=by
 cases f with
 | zero=>rfl
 | succ f=>rw [restF,if_neg (by omega)]
theorem stopF_end (zs:List Int) (f p:Nat) (h:zs.length≤p):stopF zs f p=p:=by
 cases f with
 | zero=>rfl
 | succ f=>rw [stopF,if_neg (by omega)]
theorem cnt_pos {zs:List Int} {p:Nat} (h:badB zs p=false):0<cntN zs p:=by
 unfold badB at h;simp at h;omega
theorem cnt_fits {zs:List Int} {p:Nat} (h:badB zs p=false):p+cntN zs p≤zs.length:=by
 unfold badB at h;simp at h;omega
theorem restF_fuel (zs:List Int):∀ (f g p:Nat),zs.length - p≤f→zs.length - p≤g→restF zs f p=restF zs g p
 | 0,g,p,h,_=>by rw [restF_end zs 0 p (by omega),restF_end zs g p (by omega)]
 | f+1,0,p,_,h=>by rw [restF_end zs 0 p (by omega),restF_end zs (f+1) p (by omega)]
 | f+1,g+1,p,h1,h2=>by
  rw [restF,restF]
  by_cases hp:p<zs.length
  ·rw [if_pos hp,if_pos hp]
   cases hb:badB zs p with
   | true=>rfl
   | false =>
    have:=cnt_pos hb
    simp only [Bool.false_eq_true,if_false]
    rw [restF_fuel zs f g (p+cntN zs p) (by omega) (by omega)]
  ·rw [if_neg hp,if_neg hp]
theorem stopF_fuel (zs:List Int):∀ (f g p:Nat),zs.length - p≤f→zs.length - p≤g→stopF zs f p=stopF zs g p
 | 0,g,p,h,_=>by rw [stopF_end zs 0 p (by omega),stopF_end zs g p (by omega)]
 | f+1,0,p,_,h=>by rw [stopF_end zs 0 p (by omega),stopF_end zs (f+1) p (by omega)]
 | f+1,g+1,p,h1,h2=>by
  rw [stopF,stopF]
  by_cases hp:p<zs.length
  ·rw [if_pos hp,if_pos hp]
   cases hb:badB zs p with
   | true=>rfl
   | false =>
    have:=cnt_pos hb
    simp only [Bool.false_eq_true,if_false]
    rw [stopF_fuel zs f g (p+cntN zs p) (by omega) (by omega)]
  ·rw [if_neg hp,if_neg hp]
theorem rest_end (zs:List Int) (p:Nat) (h:zs.length≤p):rest zs p=[]:=restF_end zs _ p h
theorem stop_end (zs:List Int) (p:Nat) (h:zs.length≤p):stop zs p=p:=stopF_end zs _ p h
theorem rest_bad (zs:List Int) (p:Nat) (hp:p<zs.length) (h:badB zs p=true):rest zs p=[]:=by
 obtain⟨f,hf⟩:∃ f,zs.length - p=f+1:=⟨zs.length - p - 1,by omega⟩
 rw [rest,hf,restF,if_pos hp,h];rfl
theorem stop_bad (zs:List Int) (p:Nat) (hp:p<zs.length) (h:badB zs p=true):stop zs p=p:=by
 obtain⟨f,hf⟩:∃ f,zs.length - p=f+1:=⟨zs.length - p - 1,by omega⟩
 rw [stop,hf,stopF,if_pos hp,h];rfl
theorem rest_go (zs:List Int) (p:Nat) (hp:p<zs.length) (h:badB zs p=false):rest zs p=p :: rest zs (p+cntN zs p):=by
 obtain⟨f,hf⟩:∃ f,zs.length - p=f+1:=⟨zs.length - p - 1,by omega⟩
 have:=cnt_pos h
 rw [rest,hf,restF,if_pos hp,h]
 simp only [Bool.false_eq_true,if_false]
 rw [restF_fuel zs f (zs.length - (p+cntN zs p)) (p+cntN zs p) (by omega) (by omega)]
 rfl
theorem stop_go (zs:List Int) (p:Nat) (hp:p<zs.length) (h:badB zs p=false):stop zs p=stop zs (p+cntN zs p):=by
 obtain⟨f,hf⟩:∃ f,zs.length - p=f+1:=⟨zs.length - p - 1,by omega⟩
 have:=cnt_pos h
 rw [stop,hf,stopF,if_pos hp,h]
 simp only [Bool.false_eq_true,if_false]
 rw [stopF_fuel zs f (zs.length - (p+cntN zs p)) (p+cntN zs p) (by omega) (by omega)]
 rfl
theorem restF_len (zs:List Int):∀ (f p:Nat),(restF zs f p).length≤f
 | 0,_=>Nat.le_refl _
 | f+1,p=>by
  rw [restF]
  split
  ·split
   ·simp
   ·have:=restF_len zs f (p+cntN zs p)
    simp only [List.length_cons];omega
  ·simp
theorem rest_len (zs:List Int) (p:Nat):(rest zs p).length≤zs.length - p:=restF_len zs _ p
theorem restF_mem (zs:List Int):∀ (f p q:Nat),q∈restF zs f p→p≤q∧q<zs.length∧badB zs q=false
 | 0,_,_,h=>by simp [restF] at h
 | f+1,p,q,h=>by
  rw [restF] at h
  by_cases hp:p<zs.length
  ·rw [if_pos hp] at h
   cases hb:badB zs p with
   | true=>rw [hb] at h;simp at h
   | false =>
    rw [hb] at h
    simp only [Bool.false_eq_true,if_false,List.mem_cons] at h
    rcases h with rfl | h
    ·exact⟨Nat.le_refl _,hp,hb⟩
    ·have:=restF_mem zs f (p+cntN zs p) q h
     exact⟨by omega,this.2⟩
  ·rw [if_neg hp] at h;simp at h
theorem rest_mem (zs:List Int) (p q:Nat) (h:q∈rest zs p):p≤q∧q<zs.length∧badB zs q=false:=restF_mem zs _ p q h
theorem args_far {w:World} {b off g:Nat} {l:List ArgT} (h:ArgsV w (some ⟨b,off,none⟩) l) (hg:g≠b) (i:Nat) (v:Value):ArgsV (w.setCell ⟨g,i,none⟩ v) (some ⟨b,off,none⟩) l :=
 h.setCell (fun b' off' e=>by cases e;exact fun h=>hg h.symm) v
theorem CopyModule.info:(Tryz.prog.info? 38).map (fun i=>(i.zero,i.size,i.bytes))=some (some (.agg #[.int .u16 0,.int .u32 0,.int .u32 0,.slice none 0 0]),4,40):=by kernel_rfl
structure PartI (w : World) (g n k : Nat) (l : List InstT) : Prop where
  row : ∃ cs : Array Value, w.heap[g]? = some (.cells cs 38 (0, 0)) ∧ cs.size = n * 4
  each : ∀ j, j < k → ∃ gj nj, w.cell? ⟨g, j * 4, none⟩ = some (.int .u16 (nthI l j).1) ∧ w.cell? ⟨g, j * 4 + 1, none⟩ = some (.int .u32 (nthI l j).2.1) ∧ w.cell? ⟨g, j * 4 + 2, none⟩ = some (.int .u32 (nthI l j).2.2.1) ∧ w.cell? ⟨g, j * 4 + 3, none⟩ = some (.slice (some ⟨gj, 0, none⟩) nj nj) ∧
    (nthI l j).2.2.2.length = nj ∧ ArgsV w (some ⟨gj, 0, none⟩) (nthI l j).2.2.2 ∧ g < gj
theorem PartI.far {w:World} {g n k:Nat} {l:List InstT} (h:PartI w g n k l) {b:Nat} (hb:b<g) (i:Nat) (v:Value):PartI (w.setCell ⟨b,i,none⟩ v) g n k l:=by
 obtain⟨⟨cs,h1,h2⟩,h3⟩:=h
 have hx:(w.setCell ⟨b,i,none⟩ v).heap[g]?=w.heap[g]?:=Below.heap_setCell _ _ _ _ (by simp;omega)
 have hc:∀ j,(w.setCell ⟨b,i,none⟩ v).cell? ⟨g,j,none⟩=w.cell? ⟨g,j,none⟩:=fun j=>by simp only [World.cell?,hx]
 refine⟨⟨cs,by rw [hx];exact h1,h2⟩,fun j hj=>?_⟩
 obtain⟨gj,nj,c1,c2,c3,c4,c5,c6,c7⟩:=h3 j hj
 exact⟨gj,nj,by rw [hc];exact c1,by rw [hc];exact c2,by rw [hc];exact c3,by rw [hc];exact c4,c5,args_far c6 (by omega) _ _,c7⟩
theorem three_set3 {w:World} {B T:Nat} {z0 z1 z2:Value} (h:w.heap[B]?=some (.cells #[z0,z1,z2] T (0,0))) (u0 u1 u2:Value) :
  (((w.setCell ⟨B,0,none⟩ u0).setCell ⟨B,1,none⟩ u1).setCell ⟨B,2,none⟩ u2).heap[B]?=some (.cells #[u0,u1,u2] T (0,0)):=by
 simp only [World.setCell,Array.getElem?_modify,h];simp
theorem three_below3 (w:World) (B:Nat) (u0 u1 u2:Value):Below B w (((w.setCell ⟨B,0,none⟩ u0).setCell ⟨B,1,none⟩ u1).setCell ⟨B,2,none⟩ u2) :=
 (((Below.refl B w).setCell (Nat.le_refl _) _).setCell (Nat.le_refl _) _).setCell (Nat.le_refl _) _
set_option linter.unusedVariables false
section
variable {F : Fence} {n : Nat} {P : Program} {md : Region.Mode} {ops : Array Oper} {C : World → Prop} {Q : Exit → Act → World → Prop}

def wpAnyC (F:Fence) (n:Nat) (P:Program) (md:Region.Mode) (ops:Array Oper) (C:World→Prop) (Q:Exit→Act→World→Prop):Nat→Array Bool→Act→World→Prop
 | 0,listed,a,w=>Region.ready md ops listed=[]∧Q .normal a w
 | fuel+1,listed,a,w=>(Region.ready md ops listed=[]→Q .normal a w)∧∀ i∈Region.ready md ops listed,wpOpIn F n P ops Q i (fun a' w'=>C w'∧wpAnyC F n P md ops C Q fuel (listed.setIfInBounds i true) a' w') a w
theorem wpAnyC_sound:∀ (fuel:Nat) (listed:Array Bool) (a:Act) (w:World),wpAnyC F n P md ops C Q fuel listed a w→wpAnyIn F n P md ops Q fuel listed a w
 | 0,_,_,_,h=>h
 | fuel+1,listed,a,w,h=>⟨h.1,fun i hi=>wpOpIn_mono (fun a' w' h'=>wpAnyC_sound fuel _ a' w' h'.2) (h.2 i hi)⟩
theorem wpAnyC_done {listed:Array Bool} {a:Act} {w:World} (hr:Region.ready md ops listed=[]) (h:Q .normal a w):∀ fuel,wpAnyC F n P md ops C Q fuel listed a w
 | 0=>⟨hr,h⟩
 | _+1=>⟨fun _=>h,by rw [hr];simp⟩
def YieldsC (P:Program) (ops:Array Oper) (C:World→Prop) (o:Oper) (v:Value) (a:Act):Prop :=
 (Region.wanted o (yielded ops a.tmps)=true∧∀ w,C w→(execOp a.eval o).run P w=.ok (.value v) w)∨(Region.wanted o (yielded ops a.tmps)=false∧v=undef)
theorem YieldsC.op {i:Nat} {o:Oper} {v:Value} {a:Act} (hF:∀ f,F.fn f) (hnd:∀ c,o.op≠.defer c) (hi:ops[i]?=some o) (hy:YieldsC P ops C o v a) {K:Act→World→Prop} {w:World} (hC:C w) (h:K (a.put o.dst v) w):wpOpIn F n P ops Q i K a w:=by
 unfold wpOpIn
 simp only [hi]
 rcases hy with ⟨hw,hv⟩ | ⟨hw,rfl⟩
 ·rw [if_pos hw]
  exact⟨fun f _=>hF f,by rw [Oper.semAt_eq _ _ _ hnd,hv w hC];exact h⟩
 ·rw [if_neg (by rw [hw];simp)]
  exact⟨fun f _=>hF f,h⟩
theorem opIn_put {j:Nat} {oi oj:Oper} {v:Value} (hF:∀ f,F.fn f) (hnd:∀ c,oj.op≠.defer c) (hj:ops[j]?=some oj) (hap:oi.apart ops oj=true) (hsj:∀ cs b,oj.op≠.select cs b)
  (hQ:∀ c a w,Q (.panic c) (a.put oi.dst v) w→Q (.panic c) a w) {K:Act→World→Prop} {a:Act} {w:World} (h:wpOpIn F n P ops Q j K (a.put oi.dst v) w) :
  wpOpIn F n P ops Q j (fun a' w'=>(∃ ds u,a'=({ a with defers:=ds }:Act).put oj.dst u)∧K (a'.put oi.dst v) w') a w:=by
 obtain⟨h1,h2,_⟩:=Oper.apart_spec hap
 unfold wpOpIn at *
 simp only [hj] at *
 rw [wanted_put oj a oi.dst v h1] at h
 have here:∀ u w',K ((a.put oi.dst v).put oj.dst u) w'→(∃ ds u',a.put oj.dst u=({ a with defers:=ds }:Act).put oj.dst u')∧K ((a.put oj.dst u).put oi.dst v) w':=fun u w' hk=>⟨⟨a.defers,u,rfl⟩,by rw [← Act.put_comm a v u h2];exact hk⟩
 by_cases hw:Region.wanted oj (yielded ops a.tmps)=true
 ·rw [if_pos hw] at h ⊢
  obtain⟨_,h⟩:=h
  refine⟨fun f _=>hF f,?_⟩
  rw [Oper.semAt_eq _ _ _ hnd,execOp_put oj hsj a oi.dst v h1] at h
  rw [Oper.semAt_eq _ _ _ hnd]
  generalize (execOp a.eval oj).run P w=r at *
  cases r with
  | ok x w' =>
   cases x <;> simp only [Oper.uponIn] at h ⊢
   case value u=>exact here u _ h
   case skip=>exact here _ _ h
   case defer d =>
    refine⟨⟨d :: a.defers,undef,rfl⟩,?_⟩
    rw [← Act.put_comm _ v undef h2,← Act.put_defers]
    exact h
   case enter f args =>
    refine⟨h.1,CallsIn.mono h.2 fun e w'' he=>?_⟩
    cases e with
    | returned u=>exact here u _ he
    | panicked c=>exact hQ _ _ _ he
    | outgrown=>exact he
   case row row args=>exact⟨h.1,RowsIn.mono h.2 fun u w'' he=>here u _ he⟩
   case round l f tmps assign body =>
    refine⟨h.1,RoundIn.mono h.2 fun e w'' he=>?_⟩
    cases e with
    | returned u=>exact here u _ he
    | panicked c=>exact hQ _ _ _ he
    | outgrown=>exact he
  | halt x w' =>
   cases x <;> simp only [Oper.uponIn] at h ⊢
   case panic u=>exact hQ _ _ _ h
 ·rw [if_neg hw] at h ⊢
  exact⟨fun f _=>hF f,here _ _ h.2⟩
theorem YieldsC.put {oi oj:Oper} {v u:Value} {a:Act} {ds:List Deferred} (hy:YieldsC P ops C oi v a) (hap:oi.apart ops oj=true) (hsi:∀ cs b,oi.op≠.select cs b):YieldsC P ops C oi v (({ a with defers:=ds }:Act).put oj.dst u):=by
 obtain⟨_,_,h3⟩:=Oper.apart_spec hap
 have e1:execOp (({ a with defers:=ds }:Act).put oj.dst u).eval oi=execOp a.eval oi:=(execOp_put oi hsi { a with defers:=ds } oj.dst u h3).trans rfl
 have e2:Region.wanted oi (yielded ops (({ a with defers:=ds }:Act).put oj.dst u).tmps)=Region.wanted oi (yielded ops a.tmps):=(wanted_put oi { a with defers:=ds } oj.dst u h3).trans rfl
 unfold YieldsC
 rw [e1,e2]
 exact hy
theorem wpAnyC_first {i:Nat} {oi:Oper} {v:Value} (hF:∀ f,F.fn f) (hnd:∀ (j:Nat) (o:Oper),ops[j]?=some o→∀ c,o.op≠.defer c) (hi:ops[i]?=some oi) (hsel:∀ (j:Nat) (o:Oper) cs b,ops[j]?=some o→o.op≠.select cs b)
  (hQ:∀ c a w,Q (.panic c) (a.put oi.dst v) w→Q (.panic c) a w):∀ (fuel:Nat) (listed:Array Bool) (a:Act) (w:World),
   (∀ j oj,ops[j]?=some oj→j≠i→listed.getD j true=false→(∀ e∈oj.after,Region.binds md e=true→e.on≠i)→oi.apart ops oj=true) →
   i∈Region.ready md ops listed→YieldsC P ops C oi v a→C w→wpAnyC F n P md ops C Q fuel (listed.setIfInBounds i true) (a.put oi.dst v) w→wpAnyC F n P md ops C Q (fuel+1) listed a w:=by
 intro fuel
 induction fuel with
 | zero =>
  intro listed a w _ hr hy hC H
  refine⟨fun h=>(by rw [h] at hr;cases hr),fun j hj=>?_⟩
  by_cases hji:j=i
  ·subst hji;exact hy.op hF (hnd j oi hi) hi hC ⟨hC,H⟩
  ·have:=ready_mono hj hji
   rw [H.1] at this
   cases this
 | succ fuel ih =>
  intro listed a w hfree hr hy hC H
  refine⟨fun h=>(by rw [h] at hr;cases hr),fun j hj=>?_⟩
  by_cases hji:j=i
  ·subst hji;exact hy.op hF (hnd j oi hi) hi hC ⟨hC,H⟩
  ·obtain⟨hjun,oj,hoj,hall⟩:=mem_ready.1 hj
   have hnot:∀ e∈oj.after,Region.binds md e=true→e.on≠i:=fun e he hb heq=>by
    have h1:=hall e he hb
    have h0:=(mem_ready.1 hr).1
    rw [heq] at h1
    rcases Nat.lt_or_ge i listed.size with h' | h'
    ·simp [h'] at h0 h1;rw [h0] at h1;cases h1
    ·simp [Array.getElem?_eq_none h'] at h1
   have hap:=hfree j oj hoj hji hjun hnot
   have h2:=opIn_put hF (hnd j oj hoj) hoj hap (fun cs b=>hsel j oj cs b hoj) hQ (H.2 j (ready_mono hj hji))
   refine wpOpIn_mono (fun a' w' h3=>?_) h2
   obtain⟨⟨ds,u,rfl⟩,hC',h4⟩:=h3
   refine⟨hC',ih (listed.setIfInBounds j true) _ w' (fun k ok hk hki hun hno=>hfree k ok hk hki ?_ hno) (ready_mono hr (Ne.symm hji)) (hy.put hap (fun cs b=>hsel i oi cs b hi)) hC' ?_⟩
   ·by_cases hjk:j=k
    ·subst hjk;exact hjun
    ·rw [getD_set_ne true hjk] at hun;exact hun
   ·rw [Array.setIfInBounds_comm _ _ hji]
    exact h4
def noDefer (ops:Array Oper):Bool:=ops.all fun o=>match o.op with | .defer _=>false | _=>true
theorem noDefer_spec (h:noDefer ops=true) (j:Nat) (o:Oper) (hj:ops[j]?=some o) (c:Call):o.op≠.defer c:=fun e=>by
 obtain⟨hlt,hk⟩:=Array.getElem?_eq_some_iff.1 hj
 have:=(Array.all_eq_true.1 h) j hlt
 rw [hk,e] at this
 cases this
theorem wpAnyC_take {i:Nat} {oi:Oper} {v:Value} {fuel:Nat} {listed:Array Bool} {a:Act} {w:World} (hF:∀ f,F.fn f) (hnd:noDefer ops=true) (hi:ops[i]?=some oi) (hs:Region.noSelect ops=true) (hf:Region.free md ops listed i=true) (hr:(Region.ready md ops listed).contains i=true)
  (hQ:∀ c a w,Q (.panic c) (a.put oi.dst v) w→Q (.panic c) a w) (hC:C w) (hy:YieldsC P ops C oi v a) (h:wpAnyC F n P md ops C Q fuel (listed.setIfInBounds i true) (a.put oi.dst v) w):wpAnyC F n P md ops C Q (fuel+1) listed a w :=
 wpAnyC_first hF (noDefer_spec hnd) hi (Region.noSelect_spec hs) hQ fuel listed a w (Region.free_spec hi hf) (by simpa using hr) hy hC h
theorem wpAnyC_takeD {i:Nat} {oi:Oper} (d:Option Tmp) {v:Value} {fuel:Nat} {listed:Array Bool} {a:Act} {w:World} (hF:∀ f,F.fn f) (hnd:noDefer ops=true) (hi:ops[i]?=some oi) (hd:oi.dst=d) (hs:Region.noSelect ops=true) (hf:Region.free md ops listed i=true) (hr:(Region.ready md ops listed).contains i=true)
  (hQ:∀ c a w,Q (.panic c) (a.put d v) w→Q (.panic c) a w) (hC:C w) (hy:YieldsC P ops C oi v a) (h:wpAnyC F n P md ops C Q fuel (listed.setIfInBounds i true) (a.put d v) w):wpAnyC F n P md ops C Q (fuel+1) listed a w:=by
 subst hd
 exact wpAnyC_take hF hnd hi hs hf hr hQ hC hy h
def AllC (F:Fence) (n:Nat) (P:Program) (md:Region.Mode) (ops:Array Oper) (C:World→Prop) (Q:Exit→Act→World→Prop) (fuel:Nat) (listed:Array Bool) (a:Act) (w:World) (rs:List Nat):Prop :=
 ∀ i∈rs,wpOpIn F n P ops Q i (fun a' w'=>C w'∧wpAnyC F n P md ops C Q fuel (listed.setIfInBounds i true) a' w') a w
theorem AllC.nil {fuel:Nat} {listed:Array Bool} {a:Act} {w:World}:AllC F n P md ops C Q fuel listed a w []:=fun _ h=>by cases h
theorem AllC.cons {fuel:Nat} {listed:Array Bool} {a:Act} {w:World} {i:Nat} {o:Oper} {rs:List Nat} (ho:ops[i]?=some o)
  (h:∀ K':Act→World→Prop,(∀ a w,C w→wpAnyC F n P md ops C Q fuel (listed.setIfInBounds i true) a w→K' a w)→if Region.wanted o (yielded ops a.tmps)=true then Oper.wpIn F n P o a w K' Q else (∀ f,o.about P w a.eval=some f→F.fn f)∧K' (a.put o.dst undef) w)
  (hs:AllC F n P md ops C Q fuel listed a w rs):AllC F n P md ops C Q fuel listed a w (i :: rs):=fun j hj=>by
 rcases List.mem_cons.1 hj with rfl | hj
 ·exact wpOpIn_step ho (fun K' hK=>h K' (fun a w hC hw=>hK a w ⟨hC,hw⟩))
 ·exact hs j hj
theorem wpAnyC_ready {rs:List Nat} {fuel:Nat} {listed:Array Bool} {a:Act} {w:World} (hr:Region.ready md ops listed=rs) (hne:rs≠[]) (h:AllC F n P md ops C Q fuel listed a w rs):wpAnyC F n P md ops C Q (fuel+1) listed a w :=
 ⟨fun h0=>absurd (hr ▸ h0) hne,hr ▸ h⟩
end

theorem ap1 {α:Type _} (l:List α) (i:Nat) (a:α):l.toArray.setIfInBounds i a=(l.set i a).toArray:=by simp
theorem ap2 {α:Type _} (x a:α) (l:List α) (n:Nat):(x::l).set (n+1) a=x::l.set n a:=rfl
theorem ap3 {α:Type _} (x a:α) (l:List α):(x::l).set 0 a=a::l:=rfl
section
variable {F : Fence} {n : Nat} {P : Program} {md : Region.Mode} {ops : Array Oper} {C : World → Prop} {E : Nat → Bool} {Q : Exit → Act → World → Prop}

def wpAnyE (F:Fence) (n:Nat) (P:Program) (md:Region.Mode) (ops:Array Oper) (C:World→Prop) (E:Nat→Bool) (Q:Exit→Act→World→Prop):Nat→Array Bool→Act→World→Prop
 | 0,listed,a,w=>Region.ready md ops listed=[]∧Q .normal a w
 | fuel+1,listed,a,w=>(Region.ready md ops listed=[]→Q .normal a w)∧∀ i∈Region.ready md ops listed,wpOpIn F n P ops Q i (fun a' w'=>(E i=true∨C w')∧wpAnyE F n P md ops C E Q fuel (listed.setIfInBounds i true) a' w') a w
theorem wpAnyE_sound:∀ (fuel:Nat) (listed:Array Bool) (a:Act) (w:World),wpAnyE F n P md ops C E Q fuel listed a w→wpAnyIn F n P md ops Q fuel listed a w
 | 0,_,_,_,h=>h
 | fuel+1,listed,a,w,h=>⟨h.1,fun i hi=>wpOpIn_mono (fun a' w' h'=>wpAnyE_sound fuel _ a' w' h'.2) (h.2 i hi)⟩
theorem wpAnyE_done {listed:Array Bool} {a:Act} {w:World} (hr:Region.ready md ops listed=[]) (h:Q .normal a w):∀ fuel,wpAnyE F n P md ops C E Q fuel listed a w
 | 0=>⟨hr,h⟩
 | _+1=>⟨fun _=>h,by rw [hr];simp⟩
def waits (md:Region.Mode) (ops:Array Oper) (E:Nat→Bool) (i:Nat):Bool:=(List.range ops.size).all fun j=>!E j || j==i || (match ops[j]? with | some o=>o.after.any fun e=>Region.binds md e && e.on==i | none=>true)
theorem waits_spec {i:Nat} (h:waits md ops E i=true) {j:Nat} {oj:Oper} (hj:ops[j]?=some oj) (hE:E j=true) (hji:j≠i):∃ e∈oj.after,Region.binds md e=true∧e.on=i:=by
 have hlt:=(Array.getElem?_eq_some_iff.1 hj).1
 have:=List.all_eq_true.1 h j (List.mem_range.2 hlt)
 simp only [hE,Bool.not_true,Bool.false_or,hj,Bool.or_eq_true,beq_iff_eq,hji,false_or] at this
 obtain⟨e,he,h2⟩:=Array.any_eq_true'.1 this
 simp only [Bool.and_eq_true,beq_iff_eq] at h2
 exact⟨e,he,h2.1,h2.2⟩
theorem wpAnyE_first {i:Nat} {oi:Oper} {v:Value} (hF:∀ f,F.fn f) (hnd:∀ (j:Nat) (o:Oper),ops[j]?=some o→∀ c,o.op≠.defer c) (hi:ops[i]?=some oi) (hsel:∀ (j:Nat) (o:Oper) cs b,ops[j]?=some o→o.op≠.select cs b)
  (hQ:∀ c a w,Q (.panic c) (a.put oi.dst v) w→Q (.panic c) a w) (hE:waits md ops E i=true):∀ (fuel:Nat) (listed:Array Bool) (a:Act) (w:World),
   (∀ j oj,ops[j]?=some oj→j≠i→listed.getD j true=false→(∀ e∈oj.after,Region.binds md e=true→e.on≠i)→oi.apart ops oj=true) →
   i∈Region.ready md ops listed→YieldsC P ops C oi v a→C w→wpAnyE F n P md ops C E Q fuel (listed.setIfInBounds i true) (a.put oi.dst v) w→wpAnyE F n P md ops C E Q (fuel+1) listed a w:=by
 intro fuel
 induction fuel with
 | zero =>
  intro listed a w _ hr hy hC H
  refine⟨fun h=>(by rw [h] at hr;cases hr),fun j hj=>?_⟩
  by_cases hji:j=i
  ·subst hji;exact hy.op hF (hnd j oi hi) hi hC ⟨.inr hC,H⟩
  ·have:=ready_mono hj hji
   rw [H.1] at this
   cases this
 | succ fuel ih =>
  intro listed a w hfree hr hy hC H
  refine⟨fun h=>(by rw [h] at hr;cases hr),fun j hj=>?_⟩
  by_cases hji:j=i
  ·subst hji;exact hy.op hF (hnd j oi hi) hi hC ⟨.inr hC,H⟩
  ·obtain⟨hjun,oj,hoj,hall⟩:=mem_ready.1 hj
   have hnot:∀ e∈oj.after,Region.binds md e=true→e.on≠i:=fun e he hb heq=>by
    have h1:=hall e he hb
    have h0:=(mem_ready.1 hr).1
    rw [heq] at h1
    rcases Nat.lt_or_ge i listed.size with h' | h'
    ·simp [h'] at h0 h1;rw [h0] at h1;cases h1
    ·simp [Array.getElem?_eq_none h'] at h1
   have hap:=hfree j oj hoj hji hjun hnot
   have h2:=opIn_put hF (hnd j oj hoj) hoj hap (fun cs b=>hsel j oj cs b hoj) hQ (H.2 j (ready_mono hj hji))
   refine wpOpIn_mono (fun a' w' h3=>?_) h2
   obtain⟨⟨ds,u,rfl⟩,hC0,h4⟩:=h3
   have hC':C w':=by
    rcases hC0 with hEj | hC'
    ·obtain⟨e,he,hb,hon⟩:=waits_spec hE hoj hEj hji
     exact absurd hon (hnot e he hb)
    ·exact hC'
   refine⟨.inr hC',ih (listed.setIfInBounds j true) _ w' (fun k ok hk hki hun hno=>hfree k ok hk hki ?_ hno) (ready_mono hr (Ne.symm hji)) (hy.put hap (fun cs b=>hsel i oi cs b hi)) hC' ?_⟩
   ·by_cases hjk:j=k
    ·subst hjk;exact hjun
    ·rw [getD_set_ne true hjk] at hun;exact hun
   ·rw [Array.setIfInBounds_comm _ _ hji]
    exact h4
theorem wpAnyE_take {i:Nat} {oi:Oper} {v:Value} {fuel:Nat} {listed:Array Bool} {a:Act} {w:World} (hF:∀ f,F.fn f) (hnd:noDefer ops=true) (hi:ops[i]?=some oi) (hs:Region.noSelect ops=true) (hf:Region.free md ops listed i=true) (hr:(Region.ready md ops listed).contains i=true)
  (hE:waits md ops E i=true) (hQ:∀ c a w,Q (.panic c) (a.put oi.dst v) w→Q (.panic c) a w) (hC:C w) (hy:YieldsC P ops C oi v a) (h:wpAnyE F n P md ops C E Q fuel (listed.setIfInBounds i true) (a.put oi.dst v) w):wpAnyE F n P md ops C E Q (fuel+1) listed a w :=
 wpAnyE_first hF (noDefer_spec hnd) hi (Region.noSelect_spec hs) hQ hE fuel listed a w (Region.free_spec hi hf) (by simpa using hr) hy hC h
theorem wpAnyE_takeD {i:Nat} {oi:Oper} (d:Option Tmp) {v:Value} {fuel:Nat} {listed:Array Bool} {a:Act} {w:World} (hF:∀ f,F.fn f) (hnd:noDefer ops=true) (hi:ops[i]?=some oi) (hd:oi.dst=d) (hs:Region.noSelect ops=true) (hf:Region.free md ops listed i=true) (hr:(Region.ready md ops listed).contains i=true)
  (hE:waits md ops E i=true) (hQ:∀ c a w,Q (.panic c) (a.put d v) w→Q (.panic c) a w) (hC:C w) (hy:YieldsC P ops C oi v a) (h:wpAnyE F n P md ops C E Q fuel (listed.setIfInBounds i true) (a.put d v) w):wpAnyE F n P md ops C E Q (fuel+1) listed a w:=by
 subst hd
 exact wpAnyE_take hF hnd hi hs hf hr hE hQ hC hy h
def AllE (F:Fence) (n:Nat) (P:Program) (md:Region.Mode) (ops:Array Oper) (C:World→Prop) (E:Nat→Bool) (Q:Exit→Act→World→Prop) (fuel:Nat) (listed:Array Bool) (a:Act) (w:World) (rs:List Nat):Prop :=
 ∀ i∈rs,wpOpIn F n P ops Q i (fun a' w'=>(E i=true∨C w')∧wpAnyE F n P md ops C E Q fuel (listed.setIfInBounds i true) a' w') a w
theorem AllE.nil {fuel:Nat} {listed:Array Bool} {a:Act} {w:World}:AllE F n P md ops C E Q fuel listed a w []:=fun _ h=>by cases h
theorem AllE.cons {fuel:Nat} {listed:Array Bool} {a:Act} {w:World} {i:Nat} {o:Oper} {rs:List Nat} (ho:ops[i]?=some o)
  (h:∀ K':Act→World→Prop,(∀ a w,(E i=true∨C w)→wpAnyE F n P md ops C E Q fuel (listed.setIfInBounds i true) a w→K' a w)→if Region.wanted o (yielded ops a.tmps)=true then Oper.wpIn F n P o a w K' Q else (∀ f,o.about P w a.eval=some f→F.fn f)∧K' (a.put o.dst undef) w)
  (hs:AllE F n P md ops C E Q fuel listed a w rs):AllE F n P md ops C E Q fuel listed a w (i :: rs):=fun j hj=>by
 rcases List.mem_cons.1 hj with rfl | hj
 ·exact wpOpIn_step ho (fun K' hK=>h K' (fun a w hC hw=>hK a w ⟨hC,hw⟩))
 ·exact hs j hj
theorem wpAnyE_ready {rs:List Nat} {fuel:Nat} {listed:Array Bool} {a:Act} {w:World} (hr:Region.ready md ops listed=rs) (hne:rs≠[]) (h:AllE F n P md ops C E Q fuel listed a w rs):wpAnyE F n P md ops C E Q (fuel+1) listed a w :=
 ⟨fun h0=>absurd (hr ▸ h0) hne,hr ▸ h⟩
end
theorem wpIn_normal {F:Fence} {n:Nat} {P:Program} {c:Code} {Q:Exit→Act→World→Prop} {a:Act} {w:World} (h:c.wpIn F n P (fun e a w=>e=.normal∧Q .normal a w) a w):c.wpIn F n P Q a w :=
 Code.wpIn_mono (fun e a w h=>by obtain⟨rfl,h⟩:=h;exact h) h
theorem stepAny_append {P:Program} (w:World) {F:Fence} (hF:∀ f,F.fn f) {o:Oper} {ops:Array Oper} {a:Act} {K:Act→World→Prop} {Q:Exit→Act→World→Prop} (hgd:o.guard=none) (s x:Operand) (t:TypeId)
  (ho:o.op=.call { callee:=.builtin .append,args:=#[s,x],argTypes:=#[t,t] }) (base:Nat) (e:TypeId) (i:TypeInfo) (z:Value) (size bytes:Nat) (ht:P.underlying t=some (.slice e)) (hi:P.info? e=some i) (hz:i.zero=some z)
  (hsize:i.size=size) (hby:i.bytes=bytes) (hzs:z.cells.size=size) (hsz:0<size) (v:Value) (n:Nat) (xs:List Value) (hs:a.eval s=v) (hown:w.ownsRow base e size v n xs)
  (ad:Addr) (m c:Nat) (news:List Value) (hx:a.eval x=.slice (some ad) m c) (hl:news.length=m * size) (hnews:∀ j u,news[j]?=some u→w.cell? (ad.add j)=some u) (h1:∀ u∈news,u.oneCell'=true)
  (hm:0<m) (h63:n+m≤maxLen) (hbytes:(n+m) * bytes≤140737488355328) (hbase:base≤w.heap.size)
  (h:∀ g cap w',w'.ownsRow base e size (.slice (some ⟨g,0,none⟩) (n+m) cap) (n+m) (xs++news)→w.grownBy w' v.ownBlock→K (a.put o.dst (.slice (some ⟨g,0,none⟩) (n+m) cap)) w') :
  if Region.wanted o (yielded ops a.tmps)=true then Oper.wpIn F 0 P o a w K Q else (∀ f,o.about P w a.eval=some f→F.fn f)∧K (a.put o.dst undef) w:=by
 obtain⟨v',w',hr,h2,h3,_⟩:=run_append_own (P:=P) w base t o.type e i z size bytes ht hi hz hsize hby hzs hsz v n xs hown ad m c news hl hnews h1 h63 hbytes hbase
 obtain⟨g,cap',rfl⟩:∃ g cap',v'=.slice (some ⟨g,0,none⟩) (n+m) cap':=by
  rcases h2.2 with ⟨_,h0⟩ | ⟨g,cap',cur,e',_⟩
  ·omega
  ·exact⟨g,cap',e'⟩
 rw [if_pos (by simp [Region.wanted,hgd])]
 refine⟨fun f _=>hF f,?_⟩
 rw [Oper.semAt_eq _ _ _ (fun c hc=>by rw [ho] at hc;cases hc)]
 unfold execOp
 simp only [ho,resolve,invoke,builtin,Sem.run_bind,Sem.run_pure,Result.andThen_ok,List.map_toArray,List.map_cons,List.map_nil,hs,hx,hr]
 exact h g cap' w' h2 h3
structure Rd (T : TypeId) (W0 wr : World) (gr : Nat) (v : Value) (p : Nat) : Prop where
  grown : W0.grownBy wr (some gr)
  box : wr.heap[gr]? = some (.cells #[v, .int .i64 (p : Int)] T (0, 0))
theorem cell_of_two {w:World} {g:Nat} {a b:Value} {T:TypeId} (h:w.heap[g]?=some (.cells #[a,b] T (0,0))):w.cell? ⟨g,0,none⟩=some a∧w.cell? ⟨g,1,none⟩=some b∧w.frozen? ⟨g,1,none⟩=false:=by
 refine⟨?_,?_,?_⟩ <;> simp [World.cell?,World.frozen?,h]
theorem two_setCell {w:World} {g:Nat} {a b:Value} {T:TypeId} (h:w.heap[g]?=some (.cells #[a,b] T (0,0))) (u:Value):(w.setCell ⟨g,1,none⟩ u).heap[g]?=some (.cells #[a,u] T (0,0)):=by
 simp [World.setCell,Array.getElem?_modify,h]
theorem grown_setCell (w:World) (g j:Nat) (u:Value):w.grownBy (w.setCell ⟨g,j,none⟩ u) (some g) :=
 ⟨rfl,rfl,rfl,by simp [World.setCell],fun k _ hne=>Below.heap_setCell _ _ _ _ (fun e=>hne (by rw [e]))⟩
theorem Rd.set {T:TypeId} {W0 wr:World} {gr:Nat} {v:Value} {p:Nat} (h:Rd T W0 wr gr v p) (q:Nat) (u:Int) (hu:u=(q:Int)):Rd T W0 (wr.setCell ⟨gr,1,none⟩ (.int .i64 u)) gr v q:=by
 subst hu
 exact⟨h.grown.trans (grown_setCell wr gr 1 _),two_setCell h.box _⟩
theorem Rd.lt {T:TypeId} {W0 wr:World} {gr:Nat} {v:Value} {p:Nat} (h:Rd T W0 wr gr v p):gr<wr.heap.size:=(Array.getElem?_eq_some_iff.1 h.box).1
theorem Rd.below {T:TypeId} {W0 wr w':World} {gr:Nat} {v:Value} {p:Nat} (h:Rd T W0 wr gr v p) (hb:Below wr.heap.size wr w'):Rd T W0 w' gr v p:=by
 refine⟨⟨hb.os.trans h.grown.os,hb.tape.trans h.grown.tape,hb.output.trans h.grown.output,Nat.le_trans h.grown.size hb.size,fun k hk hne=>?_⟩,by rw [hb.block gr h.lt];exact h.box⟩
 rw [hb.block k (Nat.lt_of_lt_of_le hk h.grown.size)]
 exact h.grown.block k hk hne
theorem Rd.far {T:TypeId} {W0 w' w'':World} {gr g:Nat} {v:Value} {p:Nat} (h:Rd T W0 w' gr v p) (h0:W0.heap.size≤g) (hg:gr<g) (hgr:w'.grownBy w'' (some g)):Rd T W0 w'' gr v p:=by
 refine⟨h.grown.andThen hgr (fun j hj=>by cases hj;exact .inl h0),?_⟩
 rw [hgr.block gr h.lt (fun e=>by cases e;omega)]
 exact h.box
theorem Rd.view {T:TypeId} {W0 wr:World} {gr:Nat} {v:Value} {p:Nat} (h:Rd T W0 wr gr v p) {a:Option Addr} {zs:List Int} (hv:View .u32 W0 a zs) (hne:∀ b off s,a=some ⟨b,off,s⟩→b≠gr):View .u32 wr a zs:=by
 intro j hj
 obtain⟨b,off,e,hlt,hc⟩:=hv j hj
 refine⟨b,off,e,Nat.lt_of_lt_of_le hlt h.grown.size,?_⟩
 rw [← hc]
 exact World.cell?_of_block (w:=W0) (h.grown.block b hlt (fun e'=>hne b off none e (by cases e';rfl)))
theorem View.drop {k:IntKind} {w:World} {b off:Nat} {zs:List Int} (h:View k w (some ⟨b,off,none⟩) zs) (p:Nat):View k w (some ⟨b,off+p,none⟩) (zs.drop p):=by
 intro j hj
 rw [List.length_drop] at hj
 obtain⟨b',off',e,hb,hc⟩:=h (p+j) (by omega)
 simp at e
 obtain⟨rfl,rfl⟩:=e
 refine⟨b,off+p,rfl,hb,?_⟩
 rw [Nat.add_assoc,hc]
 simp [nth,List.getD]
theorem nth_drop (zs:List Int) (p j:Nat):nth (zs.drop p) j=nth zs (p+j):=by simp [nth,List.getD]
theorem View.ofOwn {k:IntKind} {w:World} {B e n cap:Nat} {a:Option Addr} {zs:List Int} (h:w.ownsRow B e 1 (.slice a n cap) n (zs.map (Value.int k))) (hl:zs.length=n):View k w a zs:=by
 rcases h.2 with ⟨_,hn⟩ | ⟨g,cap',cur,hv,_⟩
 ·have:zs=[]:=List.eq_nil_of_length_eq_zero (by rw [hl];simpa using hn)
  subst this;exact view_nil
 ·cases hv;exact View.ofRow h hl
def nthR (rs:List (Int×List Int)) (j:Nat):Int×List Int:=rs.getD j (0,[])
def RawsV (w:World) (a:Option Addr) (rs:List (Int×List Int)):Prop :=
 ∀ j,j<rs.length→∃ b off aj cj nj,a=some ⟨b,off,none⟩∧b<w.heap.size∧w.cell? ⟨b,off+j * 2,none⟩=some (.int .u16 (nthR rs j).1)∧w.cell? ⟨b,off+j * 2+1,none⟩=some (.slice aj nj cj)∧(nthR rs j).2.length=nj∧View .u32 w aj (nthR rs j).2∧nj≤cj
def RawsOk (rs:List (Int×List Int)):Prop:=∀ j,j<rs.length→0≤(nthR rs j).1∧(nthR rs j).1<65536∧Within 4294967296 (nthR rs j).2∧4 * (nthR rs j).2.length≤140737488351232
theorem RawsV.below {w w':World} {a:Option Addr} {rs:List (Int×List Int)} (h:RawsV w a rs) (hb:Below w.heap.size w w'):RawsV w' a rs:=by
 intro j hj
 obtain⟨b,off,aj,cj,nj,e,hlt,h1,h2,h3,h4,h5⟩:=h j hj
 exact⟨b,off,aj,cj,nj,e,Nat.lt_of_lt_of_le hlt hb.size,(hb.cell (p:=⟨b,off+j * 2,none⟩) hlt).trans h1,(hb.cell (p:=⟨b,off+j * 2+1,none⟩) hlt).trans h2,h3,h4.below hb,h5⟩
theorem rawsV_nil {w:World} {a:Option Addr}:RawsV w a []:=fun j hj=>by simp at hj
end Go.Proofs.YtonhnflilfjkbaaGreatDoor
