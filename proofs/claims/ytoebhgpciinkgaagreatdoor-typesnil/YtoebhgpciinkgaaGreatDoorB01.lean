/-
  Texts in one: Math, Math3, Args, KitInst, KitModule, MathF, Draw, DrawE, DrawAppend, Rdr, Raws, Ref02Wrong, Ref02Ends, Ref02At, Ref02Fault, Ref02Size, Ref02Places, MathRead, Ref02Read, Ref02Write, Ref02Find, KitWords, Law02Raws, KitSpoilWords, Law02Apart, Frame.
-/
import Derived.WalkKit
import Derived.Laws.BitsAllLaws
import Derived.WalkSmall
import Derived.OpenShut
import Derived.ProofKit
import Derived.Laws.BytesArg
import Derived.WideShapes
import Derived.WalkSpells
import Derived.Deep.QuietTactic
import Derived.BigQuiet
import Derived.Test.YtoebhgpciinkgaaGreatDoorProg
import Derived.BigRegion
import Derived.Deep.RegionWith
import Derived.Deep.DrawnRows
import Derived.OrdersIn
import Derived.RangeFuncNested
import Derived.Deep.AppendLies
import Derived.Maps.AppendAt
import Derived.Maps.Range
import Derived.OneCell
import Derived.Deep.RegionLaw
namespace Go.Proofs.YtoebhgpciinkgaaGreatDoor
open Go.RowKit
theorem ret_int {k:IntKind} {a b:Int} (h:a=b):Ending.returned (.int k a)=.returned (.int k b):=by rw [h]
def nth (zs:List Int) (k:Nat):Int:=zs.getD k 0
def byt (x:Int) (p:Nat):Int:=x / 256 ^ p % 256
def plc (c:Int) (p:Nat):Int:=c * 256 ^ p
theorem or_u32 (a b s:Nat) (hb:b<2 ^ s) (h:a * 2 ^ s+b<4294967296):bits .or .u32 ((a * 2 ^ s:Nat):Int) (b:Int)=((a * 2 ^ s+b:Nat):Int):=by
 rw [u32_or_nat _ _ (by omega) (by omega),← Nat.shiftLeft_eq,Nat.shiftLeft_add_eq_or_of_lt hb]
theorem or_u32' (a b s:Nat) (hb:b<2 ^ s) (h:a * 2 ^ s+b<4294967296):bits .or .u32 (b:Int) ((a * 2 ^ s:Nat):Int)=((a * 2 ^ s+b:Nat):Int):=by
 rw [u32_or_nat _ _ (by omega) (by omega),Nat.or_comm,← Nat.shiftLeft_eq,Nat.shiftLeft_add_eq_or_of_lt hb]
theorem or_high (a b : Int) (s : Nat) (ha : 0 ≤ a) (hb0 : 0 ≤ b) (hb : b < 2 ^ s) (h : a * 2 ^ s + b < 4294967296) : bits .or .u32 (a * 2 ^ s) b = a * 2 ^ s + b := by
  obtain ⟨m, rfl⟩ := Int.eq_ofNat_of_zero_le ha
  obtain ⟨n, rfl⟩ := Int.eq_ofNat_of_zero_le hb0
  have e : ((m : Int) * 2 ^ s) = ((m * 2 ^ s : Nat) : Int) := by simp
  rw [e] at h ⊢
  rw [or_u32 m n s (by have : ((n : Nat) : Int) < ((2 ^ s : Nat) : Int) := by simpa using hb
                       omega) (by omega)]
  simp
theorem or_low (a b : Int) (s : Nat) (ha : 0 ≤ a) (hb0 : 0 ≤ b) (hb : b < 2 ^ s) (h : a * 2 ^ s + b < 4294967296) : bits .or .u32 b (a * 2 ^ s) = b + a * 2 ^ s := by
  obtain ⟨m, rfl⟩ := Int.eq_ofNat_of_zero_le ha
  obtain ⟨n, rfl⟩ := Int.eq_ofNat_of_zero_le hb0
  have e : ((m : Int) * 2 ^ s) = ((m * 2 ^ s : Nat) : Int) := by simp
  rw [e] at h ⊢
  rw [or_u32' m n s (by have : ((n : Nat) : Int) < ((2 ^ s : Nat) : Int) := by simpa using hb
                        omega) (by omega)]
  simp; omega
theorem or_zero (b:Int) (hb0:0≤b) (hb:b<4294967296):bits .or .u32 0 b=b:=by
 have:=or_high 0 b 32 (by omega) hb0 (by omega) (by omega)
 simpa using this
theorem plc0 (c:Int):plc c 0=c:=by simp [plc]
theorem plc1 (c:Int):plc c 1=c * 256:=by simp [plc]
theorem plc2 (c:Int):plc c 2=c * 65536:=by simp [plc]
theorem plc3 (c:Int):plc c 3=c * 16777216:=by simp [plc]
/-! ### lists of words and bytes -/

def four (x:Int):List Int:=[byt x 0,byt x 1,byt x 2,byt x 3]
theorem take_snoc (zs:List Int) (k:Nat) (h:k<zs.length):zs.take (k+1)=zs.take k++[nth zs k]:=by
 rw [List.take_succ_eq_append_getElem h];simp [nth,List.getD,h]
def View (k:IntKind) (w:World) (a:Option Addr) (zs:List Int):Prop :=
 ∀ j,j<zs.length→∃ b off,a=some ⟨b,off,none⟩∧b<w.heap.size∧w.cell? ⟨b,off+j,none⟩=some (.int k (nth zs j))
def Within (m:Int) (zs:List Int):Prop:=∀ z∈zs,0≤z∧z<m
theorem Within.at {m:Int} {zs:List Int} (h:Within m zs) {k:Nat} (hk:k<zs.length):0≤nth zs k∧nth zs k<m:=by
 have e:nth zs k=zs[k]:=by simp [nth,List.getD,hk]
 rw [e];exact h _ (List.getElem_mem hk)
theorem View.below {k:IntKind} {w w':World} {a:Option Addr} {zs:List Int} (h:View k w a zs) (hb:Below w.heap.size w w'):View k w' a zs:=by
 intro j hj
 obtain⟨b,off,e,hlt,hc⟩:=h j hj
 exact⟨b,off,e,Nat.lt_of_lt_of_le hlt hb.size,(hb.cell (p:=⟨b,off+j,none⟩) hlt).trans hc⟩
theorem bel_drewN {B:Nat} {a w:World} (h:Below B a w) (n:Nat):Below B a (w.drewN n):=h.trans ⟨rfl,rfl,rfl,Nat.le_refl _,fun _ _=>rfl⟩
theorem View.ofRow {k:IntKind} {w:World} {B e g n cap:Nat} {zs:List Int} (h:w.ownsRow B e 1 (.slice (some ⟨g,0,none⟩) n cap) n (zs.map (Value.int k))) (hl:zs.length=n):View k w (some ⟨g,0,none⟩) zs:=by
 intro j hj
 have hc:=h.cellAt j (by omega)
 have e:(zs.map (Value.int k))[j]?=some (.int k (nth zs j)):=by simp [nth,List.getD,hj]
 rw [e] at hc
 exact⟨g,0,rfl,World.block_lt_of_cell? _ _ hc,by rw [Nat.zero_add];exact hc⟩
theorem own_below {w w':World} {B e size n:Nat} {v:Value} {xs:List Value} (h:w.ownsRow B e size v n xs) (hb:Below w.heap.size w w'):w'.ownsRow B e size v n xs:=by
 refine⟨h.1,?_⟩
 rcases h.2 with hn | ⟨g,cap,cur,rfl,hg,hgg,rest⟩
 ·exact .inl hn
 ·exact .inr ⟨g,cap,cur,rfl,hg,by rw [hb.block g (Array.getElem?_eq_some_iff.1 hgg).1];exact hgg,rest⟩
theorem view_nil {k:IntKind} {w:World} {a:Option Addr}:View k w a []:=fun j hj=>by simp at hj
/-! ### a row that is filled from its head on -/

def filled (zs:List Int) (k n:Nat):List Int:=zs.take k++List.replicate (n - k) 0
theorem filled_len (zs:List Int) (k n:Nat) (hk:k≤n) (hz:k≤zs.length):(filled zs k n).length=n:=by
 simp only [filled,List.length_append,List.length_take,List.length_replicate];omega
theorem filled_whole (zs:List Int) (n:Nat) (hz:zs.length=n):filled zs n n=zs:=by
 subst hz;simp [filled]
theorem filled_zero (zs:List Int) (n:Nat):filled zs 0 n=List.replicate n 0:=by simp [filled]
theorem filled_at (zs:List Int) (k n:Nat) (hk:k<n) (hz:k≤zs.length):(filled zs k n)[k]?=some 0:=by
 have e:(zs.take k).length=k:=by rw [List.length_take];omega
 rw [filled,List.getElem?_append_right (by omega),e,Nat.sub_self]
 simp [show 0<n - k by omega]
theorem filled_set (zs:List Int) (k n:Nat) (hk:k<n) (hz:k<zs.length):(filled zs k n).set k (nth zs k)=filled zs (k+1) n:=by
 have e:(zs.take k).length=k:=by rw [List.length_take];omega
 rw [filled,filled,List.set_append_right _ _ (by omega),e,Nat.sub_self,take_snoc zs k hz,List.append_assoc]
 congr 1
 rw [show n - k=(n - (k+1))+1 by omega,List.replicate_succ]
 simp
theorem made_row {w:World} {B e:Nat} {v:Value} {n:Nat} {k:IntKind} (zs:List Int) (h:w.ownsRow B e 1 v n (madeCells #[Value.int k 0] n).toList):w.ownsRow B e 1 v n ((filled zs 0 n).map (Value.int k)):=by
 have e1:(madeCells #[Value.int k 0] n).toList=(filled zs 0 n).map (Value.int k):=by
  rw [filled_zero,List.map_replicate]
  exact toList_madeCells_one (.int k 0) n
 rw [← e1];exact h
theorem fill_step {w:World} {B e g n:Nat} {k:IntKind} {zs:List Int} {i:Nat} (h:w.ownsRow B e 1 (.slice (some ⟨g,0,none⟩) n n) n ((filled zs i n).map (Value.int k))) (hi:i<n) (hz:i<zs.length) :
  w.cell? ⟨g,i,none⟩=some (.int k 0)∧w.frozen? ⟨g,i,none⟩=false∧(w.setCell ⟨g,i,none⟩ (.int k (nth zs i))).ownsRow B e 1 (.slice (some ⟨g,0,none⟩) n n) n ((filled zs (i+1) n).map (Value.int k)):=by
 refine⟨?_,h.frozenAt i,?_⟩
 ·rw [h.cellAt i (by omega),List.getElem?_map,filled_at zs i n hi (by omega)];rfl
 ·have:=h.stored i (.int k (nth zs i))
  rw [← List.map_set,filled_set zs i n hi hz] at this
  exact this.1
theorem getD_left (xs ys:List Int) (k:Nat) (h:k<xs.length):nth (xs++ys) k=nth xs k:=by
 simp [nth,List.getD,List.getElem?_append_left h]
theorem getD_right (xs ys:List Int) (k:Nat) (h:xs.length≤k):nth (xs++ys) k=nth ys (k - xs.length):=by
 simp [nth,List.getD,List.getElem?_append_right h]
/-! ### bytes to words -/

def wordAt (zs:List Int) (k:Nat):Int:=nth zs (4 * k)+nth zs (4 * k+1) * 256+nth zs (4 * k+2) * 65536+nth zs (4 * k+3) * 16777216
def splitL (zs:List Int):List Int:=(List.range (zs.length / 4)).map (wordAt zs)
theorem splitL_len (zs:List Int):(splitL zs).length=zs.length / 4:=by simp [splitL]
def partW (zs:List Int) (i k:Nat):Int :=
 (if 4 * k<i then nth zs (4 * k) else 0)+(if 4 * k+1<i then nth zs (4 * k+1) * 256 else 0)+(if 4 * k+2<i then nth zs (4 * k+2) * 65536 else 0)+(if 4 * k+3<i then nth zs (4 * k+3) * 16777216 else 0)
def partL (zs:List Int) (i n:Nat):List Int:=(List.range n).map (partW zs i)
theorem partL_zero (zs ys:List Int) (n:Nat):partL zs 0 n=filled ys 0 n:=by
 rw [filled_zero]
 apply List.ext_getElem? 
 intro k
 by_cases hk:k<n
 ·simp [partL,partW,hk]
 ·simp [partL,hk]
theorem partL_whole (zs:List Int) (h:zs.length % 4=0):partL zs zs.length (zs.length / 4)=splitL zs:=by
 unfold partL splitL
 apply List.map_congr_left
 intro k hk
 have hk':k<zs.length / 4:=List.mem_range.1 hk
 unfold partW wordAt
 rw [if_pos (by omega),if_pos (by omega),if_pos (by omega),if_pos (by omega)]
theorem partW_other (zs:List Int) (i k:Nat) (h:k≠i / 4):partW zs (i+1) k=partW zs i k:=by
 unfold partW
 have h0:(4 * k<i+1)=(4 * k<i):=by apply propext;omega
 have h1:(4 * k+1<i+1)=(4 * k+1<i):=by apply propext;omega
 have h2:(4 * k+2<i+1)=(4 * k+2<i):=by apply propext;omega
 have h3:(4 * k+3<i+1)=(4 * k+3<i):=by apply propext;omega
 simp only [h0,h1,h2,h3]
theorem partL_set (zs:List Int) (i n:Nat):(partL zs i n).set (i / 4) (partW zs (i+1) (i / 4))=partL zs (i+1) n:=by
 apply List.ext_getElem?
 intro k
 rw [List.getElem?_set]
 by_cases hk:k<n
 ·by_cases e:i / 4=k
  ·subst e;simp [partL,hk]
  ·simp [partL,hk,e,partW_other zs i k (fun h=>e h.symm)]
 ·by_cases e:i / 4=k
  ·subst e;simp [partL,hk]
  ·simp [partL,hk,e]
theorem partW_step (zs:List Int) (i:Nat) (hw:Within 256 zs) (hi:i<zs.length) :
  bits .or .u32 (partW zs i (i / 4)) (plc (nth zs i) (i % 4))=partW zs (i+1) (i / 4):=by
 have hc:=hw.at hi
 rcases (show i % 4=0∨i % 4=1∨i % 4=2∨i % 4=3 by omega) with e | e | e | e
 ·have e0:4 * (i / 4)=i:=by omega
  rw [e,plc0];unfold partW
  rw [if_neg (by omega),if_neg (by omega),if_neg (by omega),if_neg (by omega),if_pos (by omega),if_neg (by omega),if_neg (by omega),if_neg (by omega),e0]
  have:=or_zero (nth zs i) hc.1 (by omega)
  simpa using this
 ·have e0:4 * (i / 4)+1=i:=by omega
  have b0:=hw.at (k:=4 * (i / 4)) (by omega)
  rw [e,plc1];unfold partW
  rw [if_pos (by omega),if_neg (by omega),if_neg (by omega),if_neg (by omega),if_pos (by omega),if_pos (by omega),if_neg (by omega),if_neg (by omega),e0]
  have:=or_low (nth zs i) (nth zs (4 * (i / 4))) 8 hc.1 b0.1 (by omega) (by omega)
  rw [show ((nth zs i) * 2 ^ 8:Int)=nth zs i * 256 by omega] at this
  simpa using this
 ·have e0:4 * (i / 4)+2=i:=by omega
  have b0:=hw.at (k:=4 * (i / 4)) (by omega)
  have b1:=hw.at (k:=4 * (i / 4)+1) (by omega)
  rw [e,plc2];unfold partW
  rw [if_pos (by omega),if_pos (by omega),if_neg (by omega),if_neg (by omega),if_pos (by omega),if_pos (by omega),if_pos (by omega),if_neg (by omega),e0]
  have:=or_low (nth zs i) (nth zs (4 * (i / 4))+nth zs (4 * (i / 4)+1) * 256) 16 hc.1 (by omega) (by omega) (by omega)
  rw [show ((nth zs i) * 2 ^ 16:Int)=nth zs i * 65536 by omega] at this
  simpa using this
 ·have e0:4 * (i / 4)+3=i:=by omega
  have b0:=hw.at (k:=4 * (i / 4)) (by omega)
  have b1:=hw.at (k:=4 * (i / 4)+1) (by omega)
  have b2:=hw.at (k:=4 * (i / 4)+2) (by omega)
  rw [e,plc3];unfold partW
  rw [if_pos (by omega),if_pos (by omega),if_pos (by omega),if_neg (by omega),if_pos (by omega),if_pos (by omega),if_pos (by omega),if_pos (by omega),e0]
  have:=or_low (nth zs i) (nth zs (4 * (i / 4))+nth zs (4 * (i / 4)+1) * 256+nth zs (4 * (i / 4)+2) * 65536) 24 hc.1 (by omega) (by omega) (by omega)
  rw [show ((nth zs i) * 2 ^ 24:Int)=nth zs i * 16777216 by omega] at this
  simpa using this
theorem partW_bounds (zs:List Int) (i k:Nat) (hw:Within 256 zs) (h:4 * k+4≤zs.length):0≤partW zs i k∧partW zs i k<4294967296:=by
 have b0:=hw.at (k:=4 * k) (by omega)
 have b1:=hw.at (k:=4 * k+1) (by omega)
 have b2:=hw.at (k:=4 * k+2) (by omega)
 have b3:=hw.at (k:=4 * k+3) (by omega)
 unfold partW
 split <;> split <;> split <;> split <;> omega
def NewAt (B:Nat) (a:Option Addr):Prop:=∀ b off s,a=some ⟨b,off,s⟩→B≤b
theorem newAt_mk {B b off:Nat} (h:B≤b):NewAt B (some ⟨b,off,none⟩):=fun b' off' s e=>by simp at e;omega
theorem View.setCell {k:IntKind} {w:World} {a:Option Addr} {zs:List Int} (h:View k w a zs) {B g j:Nat} (hn:NewAt B a) (hg:g<B) (u:Value):View k (w.setCell ⟨g,j,none⟩ u) a zs:=by
 intro i hi
 obtain⟨b,off,rfl,hb,hc⟩:=h i hi
 have:=hn b off none rfl
 refine⟨b,off,rfl,by simpa [World.setCell] using hb,?_⟩
 rw [← hc]
 exact World.cell?_of_block (w:=w) (Below.heap_setCell w ⟨g,j,none⟩ u b (by simp;omega))

abbrev ArgT:=Int×Int×ByteArray
def argV (x:ArgT):Value:=.agg #[.int .u8 x.1,.int .u32 x.2.1,.string x.2.2]
def noArg:ArgT:=(0,0,⟨#[]⟩)
def argC (x:ArgT):List Value:=[.int .u8 x.1,.int .u32 x.2.1,.string x.2.2]
def nthA (l:List ArgT) (j:Nat):ArgT:=l.getD j noArg
def ArgsV (w:World) (a:Option Addr) (l:List ArgT):Prop :=
 ∀ j,j<l.length→∃ b off,a=some ⟨b,off,none⟩∧b<w.heap.size∧w.cell? ⟨b,off+j * 3,none⟩=some (.int .u8 (nthA l j).1)∧w.cell? ⟨b,off+j * 3+1,none⟩=some (.int .u32 (nthA l j).2.1)∧w.cell? ⟨b,off+j * 3+2,none⟩=some (.string (nthA l j).2.2)
def ArgOk (x:ArgT):Prop:=0≤x.1∧x.1<256∧0≤x.2.1∧x.2.1<4294967296∧x.2.2.size≤140737488351232
def ArgsOk (l:List ArgT):Prop:=∀ j,j<l.length→ArgOk (nthA l j)
theorem ArgsV.below {w w':World} {a:Option Addr} {l:List ArgT} (h:ArgsV w a l) (hb:Below w.heap.size w w'):ArgsV w' a l:=by
 intro j hj
 obtain⟨b,off,e,hlt,h1,h2,h3⟩:=h j hj
 exact⟨b,off,e,Nat.lt_of_lt_of_le hlt hb.size,(hb.cell (p:=⟨b,off+j * 3,none⟩) hlt).trans h1,(hb.cell (p:=⟨b,off+j * 3+1,none⟩) hlt).trans h2,(hb.cell (p:=⟨b,off+j * 3+2,none⟩) hlt).trans h3⟩
theorem ArgsV.setCell {w:World} {a:Option Addr} {l:List ArgT} (h:ArgsV w a l) {g i:Nat} (hg:∀ b off,a=some ⟨b,off,none⟩→b≠g) (v:Value):ArgsV (w.setCell ⟨g,i,none⟩ v) a l:=by
 intro j hj
 obtain⟨b,off,e,hlt,h1,h2,h3⟩:=h j hj
 have hne:=hg b off e
 have hx:(w.setCell ⟨g,i,none⟩ v).heap[b]?=w.heap[b]?:=Below.heap_setCell _ _ _ _ (by simpa using hne)
 refine⟨b,off,e,by simpa using hlt,?_,?_,?_⟩
 ·simp only [World.cell?,hx] at h1 ⊢;exact h1
 ·simp only [World.cell?,hx] at h2 ⊢;exact h2
 ·simp only [World.cell?,hx] at h3 ⊢;exact h3
abbrev InstT:=Int×Int×Int×List ArgT
def instV (x:InstT) (a:Option Addr) (n c:Nat):Value:=.agg #[.int .u16 x.1,.int .u32 x.2.1,.int .u32 x.2.2.1,.slice a n c]
def noInst:InstT:=(0,0,0,[])
def nthI (l:List InstT) (j:Nat):InstT:=l.getD j noInst
def InstOk (x:InstT):Prop:=0≤x.1∧x.1<65536∧0≤x.2.1∧x.2.1<4294967296∧0≤x.2.2.1∧x.2.2.1<4294967296∧ArgsOk x.2.2.2∧24 * x.2.2.2.length≤140737488351232
def InstsOk (l:List InstT):Prop:=∀ j,j<l.length→InstOk (nthI l j)
def InstsV (w:World) (a:Option Addr) (l:List InstT):Prop :=
 ∀ j,j<l.length→∃ b off aj cj nj,a=some ⟨b,off,none⟩∧b<w.heap.size∧w.cell? ⟨b,off+j * 4,none⟩=some (.int .u16 (nthI l j).1)∧w.cell? ⟨b,off+j * 4+1,none⟩=some (.int .u32 (nthI l j).2.1)∧w.cell? ⟨b,off+j * 4+2,none⟩=some (.int .u32 (nthI l j).2.2.1) ∧
  w.cell? ⟨b,off+j * 4+3,none⟩=some (.slice aj nj cj)∧(nthI l j).2.2.2.length=nj∧ArgsV w aj (nthI l j).2.2.2∧nj≤cj
theorem InstsV.below {w w':World} {a:Option Addr} {l:List InstT} (h:InstsV w a l) (hb:Below w.heap.size w w'):InstsV w' a l:=by
 intro j hj
 obtain⟨b,off,aj,cj,nj,e,hlt,h1,h2,h3,h4,h5,h6,h7⟩:=h j hj
 exact⟨b,off,aj,cj,nj,e,Nat.lt_of_lt_of_le hlt hb.size,(hb.cell (p:=⟨b,off+j * 4,none⟩) hlt).trans h1,(hb.cell (p:=⟨b,off+j * 4+1,none⟩) hlt).trans h2,(hb.cell (p:=⟨b,off+j * 4+2,none⟩) hlt).trans h3,(hb.cell (p:=⟨b,off+j * 4+3,none⟩) hlt).trans h4,h5,h6.below hb,h7⟩
theorem nthA_lt (l:List ArgT) (j:Nat) (h:j<l.length):nthA l j=l[j]:=by simp [nthA,List.getD,h]
theorem nthI_lt (l:List InstT) (j:Nat) (h:j<l.length):nthI l j=l[j]:=by simp [nthI,List.getD,h]
set_option maxRecDepth 10000
theorem two_boxes (w:World) (o p:Obj):Below w.heap.size w ((w.alloc o).alloc p):=((Below.refl _ w).alloc (Nat.le_refl _) _).alloc (by simp) _
def modV (g b:Int) (a:Option Addr) (n c:Nat):Value:=.agg #[.int .u32 g,.int .u32 b,.slice a n c]
def cntN (zs:List Int) (p:Nat):Nat:=(nth zs p).toNat / 65536
def badB (zs:List Int) (p:Nat):Bool:=cntN zs p==0 || decide (zs.length<p+cntN zs p)
def restF (zs:List Int):Nat→Nat→List Nat
 | 0,_=>[]
 | f+1,p=>if p<zs.length then (if badB zs p then [] else p :: restF zs f (p+cntN zs p)) else []
def stopF (zs:List Int):Nat→Nat→Nat
 | 0,p=>p
 | f+1,p=>if p<zs.length then (if badB zs p then p else stopF zs f (p+cntN zs p)) else p
def rest (zs:List Int) (p:Nat):List Nat:=restF zs (zs.length - p) p
def stop (zs:List Int) (p:Nat):Nat:=stopF zs (zs.length - p) p
set_option linter.unusedVariables false
section
variable {F : Fence} {n : Nat} {P : Program} {md : Region.Mode} {ops : Array Oper} {C : World → Prop} {Q : Exit → Act → World → Prop}

def wpAnyC (F:Fence) (n:Nat) (P:Program) (md:Region.Mode) (ops:Array Oper) (C:World→Prop) (Q:Exit→Act→World→Prop):Nat→Array Bool→Act→World→Prop
 | 0,listed,a,w=>Region.ready md ops listed=[]∧Q .normal a w
 | fuel+1,listed,a,w=>(Region.ready md ops listed=[]→Q .normal a w)∧∀ i∈Region.ready md ops listed,wpOpIn F n P ops Q i (fun a' w'=>C w'∧wpAnyC F n P md ops C Q fuel (listed.setIfInBounds i true) a' w') a w
theorem wpAnyC_sound:∀ (fuel:Nat) (listed:Array Bool) (a:Act) (w:World),wpAnyC F n P md ops C Q fuel listed a w→wpAnyIn F n P md ops Q fuel listed a w
 | 0,_,_,_,h=>h
 | fuel+1,listed,a,w,h=>⟨h.1,fun i hi=>wpOpIn_mono (fun a' w' h'=>wpAnyC_sound fuel _ a' w' h'.2) (h.2 i hi)⟩
theorem wpAnyC_done {listed:Array Bool} {a:Act} {w:World} (hr:Region.ready md ops listed=[]) (h:Q .normal a w):∀ fuel,wpAnyC F n P md ops C Q fuel listed a w
 | 0=>⟨hr,h⟩
 | _+1=>⟨fun _=>h,by rw [hr];simp⟩
def YieldsC (P:Program) (ops:Array Oper) (C:World→Prop) (o:Oper) (v:Value) (a:Act):Prop :=
 (Region.wanted o (yielded ops a.tmps)=true∧∀ w,C w→(execOp a.eval o).run P w=.ok (.value v) w)∨(Region.wanted o (yielded ops a.tmps)=false∧v=undef)
theorem YieldsC.op {i:Nat} {o:Oper} {v:Value} {a:Act} (hF:∀ f,F.fn f) (hnd:∀ c,o.op≠.defer c) (hi:ops[i]?=some o) (hy:YieldsC P ops C o v a) {K:Act→World→Prop} {w:World} (hC:C w) (h:K (a.put o.dst v) w):wpOpIn F n P ops Q i K a w:=by
 unfold wpOpIn
 simp only [hi]
 rcases hy with ⟨hw,hv⟩ | ⟨hw,rfl⟩
 ·rw [if_pos hw]
  exact⟨fun f _=>hF f,by rw [Oper.semAt_eq _ _ _ hnd,hv w hC];exact h⟩
 ·rw [if_neg (by rw [hw];simp)]
  exact⟨fun f _=>hF f,h⟩
theorem opIn_put {j:Nat} {oi oj:Oper} {v:Value} (hF:∀ f,F.fn f) (hnd:∀ c,oj.op≠.defer c) (hj:ops[j]?=some oj) (hap:oi.apart ops oj=true) (hsj:∀ cs b,oj.op≠.select cs b)
  (hQ:∀ c a w,Q (.panic c) (a.put oi.dst v) w→Q (.panic c) a w) {K:Act→World→Prop} {a:Act} {w:World} (h:wpOpIn F n P ops Q j K (a.put oi.dst v) w) :
  wpOpIn F n P ops Q j (fun a' w'=>(∃ ds u,a'=({ a with defers:=ds }:Act).put oj.dst u)∧K (a'.put oi.dst v) w') a w:=by
 obtain⟨h1,h2,_⟩:=Oper.apart_spec hap
 unfold wpOpIn at *
 simp only [hj] at *
 rw [wanted_put oj a oi.dst v h1] at h
 have here:∀ u w',K ((a.put oi.dst v).put oj.dst u) w'→(∃ ds u',a.put oj.dst u=({ a with defers:=ds }:Act).put oj.dst u')∧K ((a.put oj.dst u).put oi.dst v) w':=fun u w' hk=>⟨⟨a.defers,u,rfl⟩,by rw [← Act.put_comm a v u h2];exact hk⟩
 by_cases hw:Region.wanted oj (yielded ops a.tmps)=true
 ·rw [if_pos hw] at h ⊢
  obtain⟨_,h⟩:=h
  refine⟨fun f _=>hF f,?_⟩
  rw [Oper.semAt_eq _ _ _ hnd,execOp_put oj hsj a oi.dst v h1] at h
  rw [Oper.semAt_eq _ _ _ hnd]
  generalize (execOp a.eval oj).run P w=r at *
  cases r with
  | ok x w' =>
   cases x <;> simp only [Oper.uponIn] at h ⊢
   case value u=>exact here u _ h
   case skip=>exact here _ _ h
   case defer d =>
    refine⟨⟨d :: a.defers,undef,rfl⟩,?_⟩
    rw [← Act.put_comm _ v undef h2,← Act.put_defers]
    exact h
   case enter f args =>
    refine⟨h.1,CallsIn.mono h.2 fun e w'' he=>?_⟩
    cases e with
    | returned u=>exact here u _ he
    | panicked c=>exact hQ _ _ _ he
    | outgrown=>exact he
   case row row args=>exact⟨h.1,RowsIn.mono h.2 fun u w'' he=>here u _ he⟩
   case round l f tmps assign body =>
    refine⟨h.1,RoundIn.mono h.2 fun e w'' he=>?_⟩
    cases e with
    | returned u=>exact here u _ he
    | panicked c=>exact hQ _ _ _ he
    | outgrown=>exact he
  | halt x w' =>
   cases x <;> simp only [Oper.uponIn] at h ⊢
   case panic u=>exact hQ _ _ _ h
 ·rw [if_neg hw] at h ⊢
  exact⟨fun f _=>hF f,here _ _ h.2⟩
theorem YieldsC.put {oi oj:Oper} {v u:Value} {a:Act} {ds:List Deferred} (hy:YieldsC P ops C oi v a) (hap:oi.apart ops oj=true) (hsi:∀ cs b,oi.op≠.select cs b):YieldsC P ops C oi v (({ a with defers:=ds }:Act).put oj.dst u):=by
 obtain⟨_,_,h3⟩:=Oper.apart_spec hap
 have e1:execOp (({ a with defers:=ds }:Act).put oj.dst u).eval oi=execOp a.eval oi:=(execOp_put oi hsi { a with defers:=ds } oj.dst u h3).trans rfl
 have e2:Region.wanted oi (yielded ops (({ a with defers:=ds }:Act).put oj.dst u).tmps)=Region.wanted oi (yielded ops a.tmps):=(wanted_put oi { a with defers:=ds } oj.dst u h3).trans rfl
 unfold YieldsC
 rw [e1,e2]
 exact hy
theorem wpAnyC_first {i:Nat} {oi:Oper} {v:Value} (hF:∀ f,F.fn f) (hnd:∀ (j:Nat) (o:Oper),ops[j]?=some o→∀ c,o.op≠.defer c) (hi:ops[i]?=some oi) (hsel:∀ (j:Nat) (o:Oper) cs b,ops[j]?=some o→o.op≠.select cs b)
  (hQ:∀ c a w,Q (.panic c) (a.put oi.dst v) w→Q (.panic c) a w):∀ (fuel:Nat) (listed:Array Bool) (a:Act) (w:World),
   (∀ j oj,ops[j]?=some oj→j≠i→listed.getD j true=false→(∀ e∈oj.after,Region.binds md e=true→e.on≠i)→oi.apart ops oj=true) →
   i∈Region.ready md ops listed→YieldsC P ops C oi v a→C w→wpAnyC F n P md ops C Q fuel (listed.setIfInBounds i true) (a.put oi.dst v) w→wpAnyC F n P md ops C Q (fuel+1) listed a w:=by
 intro fuel
 induction fuel with
 | zero =>
  intro listed a w _ hr hy hC H
  refine⟨fun h=>(by rw [h] at hr;cases hr),fun j hj=>?_⟩
  by_cases hji:j=i
  ·subst hji;exact hy.op hF (hnd j oi hi) hi hC ⟨hC,H⟩
  ·have:=ready_mono hj hji
   rw [H.1] at this
   cases this
 | succ fuel ih =>
  intro listed a w hfree hr hy hC H
  refine⟨fun h=>(by rw [h] at hr;cases hr),fun j hj=>?_⟩
  by_cases hji:j=i
  ·subst hji;exact hy.op hF (hnd j oi hi) hi hC ⟨hC,H⟩
  ·obtain⟨hjun,oj,hoj,hall⟩:=mem_ready.1 hj
   have hnot:∀ e∈oj.after,Region.binds md e=true→e.on≠i:=fun e he hb heq=>by
    have h1:=hall e he hb
    have h0:=(mem_ready.1 hr).1
    rw [heq] at h1
    rcases Nat.lt_or_ge i listed.size with h' | h'
    ·simp [h'] at h0 h1;rw [h0] at h1;cases h1
    ·simp [Array.getElem?_eq_none h'] at h1
   have hap:=hfree j oj hoj hji hjun hnot
   have h2:=opIn_put hF (hnd j oj hoj) hoj hap (fun cs b=>hsel j oj cs b hoj) hQ (H.2 j (ready_mono hj hji))
   refine wpOpIn_mono (fun a' w' h3=>?_) h2
   obtain⟨⟨ds,u,rfl⟩,hC',h4⟩:=h3
   refine⟨hC',ih (listed.setIfInBounds j true) _ w' (fun k ok hk hki hun hno=>hfree k ok hk hki ?_ hno) (ready_mono hr (Ne.symm hji)) (hy.put hap (fun cs b=>hsel i oi cs b hi)) hC' ?_⟩
   ·by_cases hjk:j=k
    ·subst hjk;exact hjun
    ·rw [getD_set_ne true hjk] at hun;exact hun
   ·rw [Array.setIfInBounds_comm _ _ hji]
    exact h4
def noDefer (ops:Array Oper):Bool:=ops.all fun o=>match o.op with | .defer _=>false | _=>true
theorem noDefer_spec (h:noDefer ops=true) (j:Nat) (o:Oper) (hj:ops[j]?=some o) (c:Call):o.op≠.defer c:=fun e=>by
 obtain⟨hlt,hk⟩:=Array.getElem?_eq_some_iff.1 hj
 have:=(Array.all_eq_true.1 h) j hlt
 rw [hk,e] at this
 cases this
theorem wpAnyC_take {i:Nat} {oi:Oper} {v:Value} {fuel:Nat} {listed:Array Bool} {a:Act} {w:World} (hF:∀ f,F.fn f) (hnd:noDefer ops=true) (hi:ops[i]?=some oi) (hs:Region.noSelect ops=true) (hf:Region.free md ops listed i=true) (hr:(Region.ready md ops listed).contains i=true)
  (hQ:∀ c a w,Q (.panic c) (a.put oi.dst v) w→Q (.panic c) a w) (hC:C w) (hy:YieldsC P ops C oi v a) (h:wpAnyC F n P md ops C Q fuel (listed.setIfInBounds i true) (a.put oi.dst v) w):wpAnyC F n P md ops C Q (fuel+1) listed a w :=
 wpAnyC_first hF (noDefer_spec hnd) hi (Region.noSelect_spec hs) hQ fuel listed a w (Region.free_spec hi hf) (by simpa using hr) hy hC h
theorem wpAnyC_takeD {i:Nat} {oi:Oper} (d:Option Tmp) {v:Value} {fuel:Nat} {listed:Array Bool} {a:Act} {w:World} (hF:∀ f,F.fn f) (hnd:noDefer ops=true) (hi:ops[i]?=some oi) (hd:oi.dst=d) (hs:Region.noSelect ops=true) (hf:Region.free md ops listed i=true) (hr:(Region.ready md ops listed).contains i=true)
  (hQ:∀ c a w,Q (.panic c) (a.put d v) w→Q (.panic c) a w) (hC:C w) (hy:YieldsC P ops C oi v a) (h:wpAnyC F n P md ops C Q fuel (listed.setIfInBounds i true) (a.put d v) w):wpAnyC F n P md ops C Q (fuel+1) listed a w:=by
 subst hd
 exact wpAnyC_take hF hnd hi hs hf hr hQ hC hy h
def AllC (F:Fence) (n:Nat) (P:Program) (md:Region.Mode) (ops:Array Oper) (C:World→Prop) (Q:Exit→Act→World→Prop) (fuel:Nat) (listed:Array Bool) (a:Act) (w:World) (rs:List Nat):Prop :=
 ∀ i∈rs,wpOpIn F n P ops Q i (fun a' w'=>C w'∧wpAnyC F n P md ops C Q fuel (listed.setIfInBounds i true) a' w') a w
theorem AllC.nil {fuel:Nat} {listed:Array Bool} {a:Act} {w:World}:AllC F n P md ops C Q fuel listed a w []:=fun _ h=>by cases h
theorem AllC.cons {fuel:Nat} {listed:Array Bool} {a:Act} {w:World} {i:Nat} {o:Oper} {rs:List Nat} (ho:ops[i]?=some o)
  (h:∀ K':Act→World→Prop,(∀ a w,C w→wpAnyC F n P md ops C Q fuel (listed.setIfInBounds i true) a w→K' a w)→if Region.wanted o (yielded ops a.tmps)=true then Oper.wpIn F n P o a w K' Q else (∀ f,o.about P w a.eval=some f→F.fn f)∧K' (a.put o.dst undef) w)
  (hs:AllC F n P md ops C Q fuel listed a w rs):AllC F n P md ops C Q fuel listed a w (i :: rs):=fun j hj=>by
 rcases List.mem_cons.1 hj with rfl | hj
 ·exact wpOpIn_step ho (fun K' hK=>h K' (fun a w hC hw=>hK a w ⟨hC,hw⟩))
 ·exact hs j hj
theorem wpAnyC_ready {rs:List Nat} {fuel:Nat} {listed:Array Bool} {a:Act} {w:World} (hr:Region.ready md ops listed=rs) (hne:rs≠[]) (h:AllC F n P md ops C Q fuel listed a w rs):wpAnyC F n P md ops C Q (fuel+1) listed a w :=
 ⟨fun h0=>absurd (hr ▸ h0) hne,hr ▸ h⟩
end

theorem ap1 {α:Type _} (l:List α) (i:Nat) (a:α):l.toArray.setIfInBounds i a=(l.set i a).toArray:=by simp
theorem ap2 {α:Type _} (x a:α) (l:List α) (n:Nat):(x::l).set (n+1) a=x::l.set n a:=rfl
theorem ap3 {α:Type _} (x a:α) (l:List α):(x::l).set 0 a=a::l:=rfl
section
variable {F : Fence} {n : Nat} {P : Program} {md : Region.Mode} {ops : Array Oper} {C : World → Prop} {E : Nat → Bool} {Q : Exit → Act → World → Prop}

def wpAnyE (F:Fence) (n:Nat) (P:Program) (md:Region.Mode) (ops:Array Oper) (C:World→Prop) (E:Nat→Bool) (Q:Exit→Act→World→Prop):Nat→Array Bool→Act→World→Prop
 | 0,listed,a,w=>Region.ready md ops listed=[]∧Q .normal a w
 | fuel+1,listed,a,w=>(Region.ready md ops listed=[]→Q .normal a w)∧∀ i∈Region.ready md ops listed,wpOpIn F n P ops Q i (fun a' w'=>(E i=true∨C w')∧wpAnyE F n P md ops C E Q fuel (listed.setIfInBounds i true) a' w') a w
theorem wpAnyE_sound:∀ (fuel:Nat) (listed:Array Bool) (a:Act) (w:World),wpAnyE F n P md ops C E Q fuel listed a w→wpAnyIn F n P md ops Q fuel listed a w
 | 0,_,_,_,h=>h
 | fuel+1,listed,a,w,h=>⟨h.1,fun i hi=>wpOpIn_mono (fun a' w' h'=>wpAnyE_sound fuel _ a' w' h'.2) (h.2 i hi)⟩
theorem wpAnyE_done {listed:Array Bool} {a:Act} {w:World} (hr:Region.ready md ops listed=[]) (h:Q .normal a w):∀ fuel,wpAnyE F n P md ops C E Q fuel listed a w
 | 0=>⟨hr,h⟩
 | _+1=>⟨fun _=>h,by rw [hr];simp⟩
def waits (md:Region.Mode) (ops:Array Oper) (E:Nat→Bool) (i:Nat):Bool:=(List.range ops.size).all fun j=>!E j || j==i || (match ops[j]? with | some o=>o.after.any fun e=>Region.binds md e && e.on==i | none=>true)
theorem waits_spec {i:Nat} (h:waits md ops E i=true) {j:Nat} {oj:Oper} (hj:ops[j]?=some oj) (hE:E j=true) (hji:j≠i):∃ e∈oj.after,Region.binds md e=true∧e.on=i:=by
 have hlt:=(Array.getElem?_eq_some_iff.1 hj).1
 have:=List.all_eq_true.1 h j (List.mem_range.2 hlt)
 simp only [hE,Bool.not_true,Bool.false_or,hj,Bool.or_eq_true,beq_iff_eq,hji,false_or] at this
 obtain⟨e,he,h2⟩:=Array.any_eq_true'.1 this
 simp only [Bool.and_eq_true,beq_iff_eq] at h2
 exact⟨e,he,h2.1,h2.2⟩
theorem wpAnyE_first {i:Nat} {oi:Oper} {v:Value} (hF:∀ f,F.fn f) (hnd:∀ (j:Nat) (o:Oper),ops[j]?=some o→∀ c,o.op≠.defer c) (hi:ops[i]?=some oi) (hsel:∀ (j:Nat) (o:Oper) cs b,ops[j]?=some o→o.op≠.select cs b)
  (hQ:∀ c a w,Q (.panic c) (a.put oi.dst v) w→Q (.panic c) a w) (hE:waits md ops E i=true):∀ (fuel:Nat) (listed:Array Bool) (a:Act) (w:World),
   (∀ j oj,ops[j]?=some oj→j≠i→listed.getD j true=false→(∀ e∈oj.after,Region.binds md e=true→e.on≠i)→oi.apart ops oj=true) →
   i∈Region.ready md ops listed→YieldsC P ops C oi v a→C w→wpAnyE F n P md ops C E Q fuel (listed.setIfInBounds i true) (a.put oi.dst v) w→wpAnyE F n P md ops C E Q (fuel+1) listed a w:=by
 intro fuel
 induction fuel with
 | zero =>
  intro listed a w _ hr hy hC H
  refine⟨fun h=>(by rw [h] at hr;cases hr),fun j hj=>?_⟩
  by_cases hji:j=i
  ·subst hji;exact hy.op hF (hnd j oi hi) hi hC ⟨.inr hC,H⟩
  ·have:=ready_mono hj hji
   rw [H.1] at this
   cases this
 | succ fuel ih =>
  intro listed a w hfree hr hy hC H
  refine⟨fun h=>(by rw [h] at hr;cases hr),fun j hj=>?_⟩
  by_cases hji:j=i
  ·subst hji;exact hy.op hF (hnd j oi hi) hi hC ⟨.inr hC,H⟩
  ·obtain⟨hjun,oj,hoj,hall⟩:=mem_ready.1 hj
   have hnot:∀ e∈oj.after,Region.binds md e=true→e.on≠i:=fun e he hb heq=>by
    have h1:=hall e he hb
    have h0:=(mem_ready.1 hr).1
    rw [heq] at h1
    rcases Nat.lt_or_ge i listed.size with h' | h'
    ·simp [h'] at h0 h1;rw [h0] at h1;cases h1
    ·simp [Array.getElem?_eq_none h'] at h1
   have hap:=hfree j oj hoj hji hjun hnot
   have h2:=opIn_put hF (hnd j oj hoj) hoj hap (fun cs b=>hsel j oj cs b hoj) hQ (H.2 j (ready_mono hj hji))
   refine wpOpIn_mono (fun a' w' h3=>?_) h2
   obtain⟨⟨ds,u,rfl⟩,hC0,h4⟩:=h3
   have hC':C w':=by
    rcases hC0 with hEj | hC'
    ·obtain⟨e,he,hb,hon⟩:=waits_spec hE hoj hEj hji
     exact absurd hon (hnot e he hb)
    ·exact hC'
   refine⟨.inr hC',ih (listed.setIfInBounds j true) _ w' (fun k ok hk hki hun hno=>hfree k ok hk hki ?_ hno) (ready_mono hr (Ne.symm hji)) (hy.put hap (fun cs b=>hsel i oi cs b hi)) hC' ?_⟩
   ·by_cases hjk:j=k
    ·subst hjk;exact hjun
    ·rw [getD_set_ne true hjk] at hun;exact hun
   ·rw [Array.setIfInBounds_comm _ _ hji]
    exact h4
theorem wpAnyE_take {i:Nat} {oi:Oper} {v:Value} {fuel:Nat} {listed:Array Bool} {a:Act} {w:World} (hF:∀ f,F.fn f) (hnd:noDefer ops=true) (hi:ops[i]?=some oi) (hs:Region.noSelect ops=true) (hf:Region.free md ops listed i=true) (hr:(Region.ready md ops listed).contains i=true)
  (hE:waits md ops E i=true) (hQ:∀ c a w,Q (.panic c) (a.put oi.dst v) w→Q (.panic c) a w) (hC:C w) (hy:YieldsC P ops C oi v a) (h:wpAnyE F n P md ops C E Q fuel (listed.setIfInBounds i true) (a.put oi.dst v) w):wpAnyE F n P md ops C E Q (fuel+1) listed a w :=
 wpAnyE_first hF (noDefer_spec hnd) hi (Region.noSelect_spec hs) hQ hE fuel listed a w (Region.free_spec hi hf) (by simpa using hr) hy hC h
theorem wpAnyE_takeD {i:Nat} {oi:Oper} (d:Option Tmp) {v:Value} {fuel:Nat} {listed:Array Bool} {a:Act} {w:World} (hF:∀ f,F.fn f) (hnd:noDefer ops=true) (hi:ops[i]?=some oi) (hd:oi.dst=d) (hs:Region.noSelect ops=true) (hf:Region.free md ops listed i=true) (hr:(Region.ready md ops listed).contains i=true)
  (hE:waits md ops E i=true) (hQ:∀ c a w,Q (.panic c) (a.put d v) w→Q (.panic c) a w) (hC:C w) (hy:YieldsC P ops C oi v a) (h:wpAnyE F n P md ops C E Q fuel (listed.setIfInBounds i true) (a.put d v) w):wpAnyE F n P md ops C E Q (fuel+1) listed a w:=by
 subst hd
 exact wpAnyE_take hF hnd hi hs hf hr hE hQ hC hy h
def AllE (F:Fence) (n:Nat) (P:Program) (md:Region.Mode) (ops:Array Oper) (C:World→Prop) (E:Nat→Bool) (Q:Exit→Act→World→Prop) (fuel:Nat) (listed:Array Bool) (a:Act) (w:World) (rs:List Nat):Prop :=
 ∀ i∈rs,wpOpIn F n P ops Q i (fun a' w'=>(E i=true∨C w')∧wpAnyE F n P md ops C E Q fuel (listed.setIfInBounds i true) a' w') a w
theorem AllE.nil {fuel:Nat} {listed:Array Bool} {a:Act} {w:World}:AllE F n P md ops C E Q fuel listed a w []:=fun _ h=>by cases h
theorem AllE.cons {fuel:Nat} {listed:Array Bool} {a:Act} {w:World} {i:Nat} {o:Oper} {rs:List Nat} (ho:ops[i]?=some o)
  (h:∀ K':Act→World→Prop,(∀ a w,(E i=true∨C w)→wpAnyE F n P md ops C E Q fuel (listed.setIfInBounds i true) a w→K' a w)→if Region.wanted o (yielded ops a.tmps)=true then Oper.wpIn F n P o a w K' Q else (∀ f,o.about P w a.eval=some f→F.fn f)∧K' (a.put o.dst undef) w)
  (hs:AllE F n P md ops C E Q fuel listed a w rs):AllE F n P md ops C E Q fuel listed a w (i :: rs):=fun j hj=>by
 rcases List.mem_cons.1 hj with rfl | hj
 ·exact wpOpIn_step ho (fun K' hK=>h K' (fun a w hC hw=>hK a w ⟨hC,hw⟩))
 ·exact hs j hj
theorem wpAnyE_ready {rs:List Nat} {fuel:Nat} {listed:Array Bool} {a:Act} {w:World} (hr:Region.ready md ops listed=rs) (hne:rs≠[]) (h:AllE F n P md ops C E Q fuel listed a w rs):wpAnyE F n P md ops C E Q (fuel+1) listed a w :=
 ⟨fun h0=>absurd (hr ▸ h0) hne,hr ▸ h⟩
end
theorem wpIn_normal {F:Fence} {n:Nat} {P:Program} {c:Code} {Q:Exit→Act→World→Prop} {a:Act} {w:World} (h:c.wpIn F n P (fun e a w=>e=.normal∧Q .normal a w) a w):c.wpIn F n P Q a w :=
 Code.wpIn_mono (fun e a w h=>by obtain⟨rfl,h⟩:=h;exact h) h
theorem cell_of_two {w:World} {g:Nat} {a b:Value} {T:TypeId} (h:w.heap[g]?=some (.cells #[a,b] T (0,0))):w.cell? ⟨g,0,none⟩=some a∧w.cell? ⟨g,1,none⟩=some b∧w.frozen? ⟨g,1,none⟩=false:=by
 refine⟨?_,?_,?_⟩ <;> simp [World.cell?,World.frozen?,h]
theorem grown_setCell (w:World) (g j:Nat) (u:Value):w.grownBy (w.setCell ⟨g,j,none⟩ u) (some g) :=
 ⟨rfl,rfl,rfl,by simp [World.setCell],fun k _ hne=>Below.heap_setCell _ _ _ _ (fun e=>hne (by rw [e]))⟩
theorem View.drop {k:IntKind} {w:World} {b off:Nat} {zs:List Int} (h:View k w (some ⟨b,off,none⟩) zs) (p:Nat):View k w (some ⟨b,off+p,none⟩) (zs.drop p):=by
 intro j hj
 rw [List.length_drop] at hj
 obtain⟨b',off',e,hb,hc⟩:=h (p+j) (by omega)
 simp at e
 obtain⟨rfl,rfl⟩:=e
 refine⟨b,off+p,rfl,hb,?_⟩
 rw [Nat.add_assoc,hc]
 simp [nth,List.getD]
theorem View.ofOwn {k:IntKind} {w:World} {B e n cap:Nat} {a:Option Addr} {zs:List Int} (h:w.ownsRow B e 1 (.slice a n cap) n (zs.map (Value.int k))) (hl:zs.length=n):View k w a zs:=by
 rcases h.2 with ⟨_,hn⟩ | ⟨g,cap',cur,hv,_⟩
 ·have:zs=[]:=List.eq_nil_of_length_eq_zero (by rw [hl];simpa using hn)
  subst this;exact view_nil
 ·cases hv;exact View.ofRow h hl
def nthR (rs:List (Int×List Int)) (j:Nat):Int×List Int:=rs.getD j (0,[])
def RawsV (w:World) (a:Option Addr) (rs:List (Int×List Int)):Prop :=
 ∀ j,j<rs.length→∃ b off aj cj nj,a=some ⟨b,off,none⟩∧b<w.heap.size∧w.cell? ⟨b,off+j * 2,none⟩=some (.int .u16 (nthR rs j).1)∧w.cell? ⟨b,off+j * 2+1,none⟩=some (.slice aj nj cj)∧(nthR rs j).2.length=nj∧View .u32 w aj (nthR rs j).2∧nj≤cj
def RawsOk (rs:List (Int×List Int)):Prop:=∀ j,j<rs.length→0≤(nthR rs j).1∧(nthR rs j).1<65536∧Within 4294967296 (nthR rs j).2∧4 * (nthR rs j).2.length≤140737488351232
theorem RawsV.below {w w':World} {a:Option Addr} {rs:List (Int×List Int)} (h:RawsV w a rs) (hb:Below w.heap.size w w'):RawsV w' a rs:=by
 intro j hj
 obtain⟨b,off,aj,cj,nj,e,hlt,h1,h2,h3,h4,h5⟩:=h j hj
 exact⟨b,off,aj,cj,nj,e,Nat.lt_of_lt_of_le hlt hb.size,(hb.cell (p:=⟨b,off+j * 2,none⟩) hlt).trans h1,(hb.cell (p:=⟨b,off+j * 2+1,none⟩) hlt).trans h2,h3,h4.below hb,h5⟩
theorem rawsV_nil {w:World} {a:Option Addr}:RawsV w a []:=fun j hj=>by simp at hj


theorem own_base {w:World} {B B' e size n:Nat} {v:Value} {xs:List Value} (h:w.ownsRow B e size v n xs) (hb:B'≤B):w.ownsRow B' e size v n xs:=by
 refine⟨h.1,?_⟩
 rcases h.2 with hn | ⟨g,cap,cur,rfl,hg,rest⟩
 ·exact .inl hn
 ·exact .inr ⟨g,cap,cur,rfl,Nat.le_trans hb hg,rest⟩
def sizeTo (rs:List (Int×List Int)) (k:Nat):Nat:=(rs.take k).foldl (fun s r=>s+1+r.2.length) 5
def faultF (rs:List (Int×List Int)):Nat→Nat→Int×Nat
 | 0,_=>(0,0)
 | f+1,k=>if k<rs.length then (if 65535≤(nthR rs k).2.length then (25,k) else if 1048576<sizeTo rs (k+1) then (4,k) else faultF rs f (k+1)) else (0,0)
def fault (rs:List (Int×List Int)) (k:Nat):Int×Nat:=faultF rs (rs.length - k) k
theorem sizeTo_zero (rs:List (Int×List Int)):sizeTo rs 0=5:=rfl
theorem sizeTo_succ (rs:List (Int×List Int)) (k:Nat) (h:k<rs.length):sizeTo rs (k+1)=sizeTo rs k+1+(nthR rs k).2.length:=by
 have e:rs.take (k+1)=rs.take k++[nthR rs k]:=by
  rw [List.take_succ_eq_append_getElem h];simp [nthR,List.getD,h]
 rw [sizeTo,e,List.foldl_append];rfl
theorem fault_end (rs:List (Int×List Int)) (k:Nat) (h:rs.length≤k):fault rs k=(0,0):=by
 rw [fault,show rs.length - k=0 by omega];rfl
theorem fault_step (rs:List (Int×List Int)) (k:Nat) (h:k<rs.length):fault rs k=if 65535≤(nthR rs k).2.length then (25,k) else if 1048576<sizeTo rs (k+1) then (4,k) else fault rs (k+1):=by
 rw [fault,show rs.length - k=(rs.length - (k+1))+1 by omega,faultF,if_pos h];rfl
def sizeOut (rs:List (Int×List Int)):Int:=if (fault rs 0).1=0 then (sizeTo rs rs.length:Int) else 0
theorem fault_none (rs:List (Int×List Int)) (h:(fault rs 0).1=0):∀ k,k≤rs.length→sizeTo rs k≤1048576∧∀ j,j<k→(nthR rs j).2.length<65535:=by
 have key:∀ k,k≤rs.length→fault rs 0=fault rs k∧sizeTo rs k≤1048576∧∀ j,j<k→(nthR rs j).2.length<65535:=by
  intro k
  induction k with
  | zero=>intro _;exact⟨rfl,by rw [sizeTo_zero];omega,fun j hj=>by omega⟩
  | succ k ih =>
   intro hk
   obtain⟨h1,h2,h3⟩:=ih (by omega)
   have hs:=fault_step rs k (by omega)
   by_cases c1:65535≤(nthR rs k).2.length
   ·rw [if_pos c1] at hs;rw [h1,hs] at h;simp at h
   ·rw [if_neg c1] at hs
    by_cases c2:1048576<sizeTo rs (k+1)
    ·rw [if_pos c2] at hs;rw [h1,hs] at h;simp at h
    ·rw [if_neg c2] at hs
     refine⟨h1.trans hs,by omega,fun j hj=>?_⟩
     by_cases e:j=k
     ·subst e;omega
     ·exact h3 j (by omega)
 exact fun k hk=>(key k hk).2
theorem own_shape {w:World} {B e n:Nat} {v:Value} {xs:List Value} (h:w.ownsRow B e 1 v n xs):∃ a c,v=.slice a n c:=by
 rcases h.2 with ⟨rfl,rfl⟩ | ⟨g,c,cur,rfl,_⟩
 ·exact⟨none,0,rfl⟩
 ·exact⟨_,c,rfl⟩
theorem nthR_lo (rs:List (Int×List Int)) (r:Int×List Int) (j:Nat) (h:j<rs.length):nthR (rs++[r]) j=nthR rs j:=by
 simp [nthR,List.getD,List.getElem?_append_left h]
theorem nthR_hi (rs:List (Int×List Int)) (r:Int×List Int):nthR (rs++[r]) rs.length=r:=by
 simp [nthR,List.getD]

theorem RefWrite.info:(Tryz.prog.info? 22).map (fun i=>(i.zero,i.size,i.bytes))=some (some (.int .u32 0),1,4):=by kernel_rfl
def rawW (r:Int×List Int):List Int:=(((r.2.length:Int)+1) * 65536+r.1) :: r.2
def writeTo (gen bound:Int) (rs:List (Int×List Int)) (k:Nat):List Int:=[119734787,65536,gen,bound,0]++(rs.take k).flatMap rawW
theorem writeTo_succ (gen bound:Int) (rs:List (Int×List Int)) (k:Nat) (h:k<rs.length):writeTo gen bound rs (k+1)=writeTo gen bound rs k++rawW (nthR rs k):=by
 have e:rs.take (k+1)=rs.take k++[nthR rs k]:=by
  rw [List.take_succ_eq_append_getElem h];simp [nthR,List.getD,h]
 rw [writeTo,e,List.flatMap_append,← List.append_assoc];simp [writeTo]
theorem writeTo_len (gen bound:Int) (rs:List (Int×List Int)):∀ k,k≤rs.length→(writeTo gen bound rs k).length=sizeTo rs k
 | 0,_=>rfl
 | k+1,h=>by
  rw [writeTo_succ gen bound rs k (by omega),List.length_append,writeTo_len gen bound rs k (by omega),sizeTo_succ rs k (by omega)]
  simp [rawW];omega




def OwnR (w:World) (lo:Nat) (a:Option Addr) (k:Nat) (rs:List (Int×List Int)):Prop :=
 ∀ j,k≤j→j<rs.length→∃ b off aj cj nj,a=some ⟨b,off,none⟩∧lo≤b∧b<w.heap.size∧w.cell? ⟨b,off+j * 2,none⟩=some (.int .u16 (nthR rs j).1)∧w.cell? ⟨b,off+j * 2+1,none⟩=some (.slice aj nj cj)∧(nthR rs j).2.length=nj ∧
  w.ownsRow lo 22 1 (.slice aj nj cj) nj ((nthR rs j).2.map (Value.int .u32))∧Value.ownBlock (.slice aj nj cj)≠some b ∧
  ∀ i,k≤i→i<rs.length→i≠j→∀ ai ci ni g,w.cell? ⟨b,off+i * 2+1,none⟩=some (.slice ai ni ci)→Value.ownBlock (.slice ai ni ci)=some g→Value.ownBlock (.slice aj nj cj)≠some g
theorem own_grown {w w':World} {B e size n:Nat} {v:Value} {xs:List Value} {ob:Option Nat} (h:w.ownsRow B e size v n xs) (hg:w.grownBy w' ob) (hne:∀ g,ob=some g→v.ownBlock≠some g):w'.ownsRow B e size v n xs:=by
 refine⟨h.1,?_⟩
 rcases h.2 with hn | ⟨g,cap,cur,rfl,hb,hgg,rest⟩
 ·exact .inl hn
 ·exact .inr ⟨g,cap,cur,rfl,hb,by rw [hg.block g (Array.getElem?_eq_some_iff.1 hgg).1 (fun e=>hne g e.symm rfl)];exact hgg,rest⟩
theorem OwnR.view {w:World} {lo:Nat} {a:Option Addr} {rs:List (Int×List Int)} (h:OwnR w lo a 0 rs):RawsV w a rs:=by
 intro j hj
 obtain⟨b,off,aj,cj,nj,e,_,hb,c1,c2,c3,c4,_⟩:=h j (Nat.zero_le _) hj
 refine⟨b,off,aj,cj,nj,e,hb,c1,c2,c3,View.ofOwn c4 c3,?_⟩
 rcases c4.2 with ⟨e1,e2⟩ | ⟨g,c',cur,e1,_,_,e4,_⟩
 ·omega
 ·cases e1;exact e4
def writeE (bound:Int) (rs:List (Int×List Int)):Int×Nat:=if bound=0∨65536<bound then (24,0) else fault rs 0
def writeL (gen bound:Int) (rs:List (Int×List Int)):List Int:=if (writeE bound rs).1=0 then writeTo gen bound rs rs.length else []
def WriteC (f:Nat):Prop:=∀ (gen bound:Int) (a:Option Addr) (n cap:Nat) (rs:List (Int×List Int)) (w:World),0≤gen→gen<4294967296→0≤bound→bound<4294967296→RawsV w a rs→RawsOk rs→rs.length=n→32 * n≤140737488351232→n≤cap →
 Calls Tryz.prog f #[.agg #[.int .u32 gen,.int .u32 bound],.slice a n cap] w fun e w'=>Below w.heap.size w w'∧∃ ax cx m,e=.returned (.tuple #[.slice ax m cx,.agg #[.int .i64 (writeE bound rs).1,.int .i64 (writeE bound rs).2]])∧(writeL gen bound rs).length=m ∧
  w'.ownsRow w.heap.size 22 1 (.slice ax m cx) m ((writeL gen bound rs).map (Value.int .u32))
end Go.Proofs.YtoebhgpciinkgaaGreatDoor
