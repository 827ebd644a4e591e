/-
  Texts in one: Math, Slots, Math3, Iter, Boxes, Rdr, Raws, KitWords, Law02Raws, KitSpoilWords, Law02Apart, RowX, MathGr, Append.
-/
import Derived.WalkKit
import Derived.Laws.BitsAllLaws
import Derived.WalkSmall
import Derived.OpenShut
import Derived.ProofKit
import Derived.Laws.BytesArg
import Derived.RangeFuncNested
import Derived.RangeFuncLeaves
import Derived.RangeFuncBound
import Derived.Maps.AppendAt
import Derived.Maps.Range
import Derived.OneCell
import Derived.WalkSpells
import Derived.Deep.QuietTactic
import Derived.BigQuiet
import Derived.Test.YtlcaedibmlidlaaGreatProg
import Derived.Deep.AppendLies
import Derived.Laws.AppendOwn
import Derived.Laws.Append
namespace Go.Proofs.YtlcaedibmlidlaaGreat
open Go.RowKit
theorem ret_int {k:IntKind} {a b:Int} (h:a=b):Ending.returned (.int k a)=.returned (.int k b):=by rw [h]
def nth (zs:List Int) (k:Nat):Int:=zs.getD k 0
def byt (x:Int) (p:Nat):Int:=x / 256 ^ p % 256
def plc (c:Int) (p:Nat):Int:=c * 256 ^ p
theorem or_u32 (a b s:Nat) (hb:b<2 ^ s) (h:a * 2 ^ s+b<4294967296):bits .or .u32 ((a * 2 ^ s:Nat):Int) (b:Int)=((a * 2 ^ s+b:Nat):Int):=by
 rw [u32_or_nat _ _ (by omega) (by omega),← Nat.shiftLeft_eq,Nat.shiftLeft_add_eq_or_of_lt hb]
theorem or_u32' (a b s:Nat) (hb:b<2 ^ s) (h:a * 2 ^ s+b<4294967296):bits .or .u32 (b:Int) ((a * 2 ^ s:Nat):Int)=((a * 2 ^ s+b:Nat):Int):=by
 rw [u32_or_nat _ _ (by omega) (by omega),Nat.or_comm,← Nat.shiftLeft_eq,Nat.shiftLeft_add_eq_or_of_lt hb]
theorem or_high (a b : Int) (s : Nat) (ha : 0 ≤ a) (hb0 : 0 ≤ b) (hb : b < 2 ^ s) (h : a * 2 ^ s + b < 4294967296) : bits .or .u32 (a * 2 ^ s) b = a * 2 ^ s + b := by
  obtain ⟨m, rfl⟩ := Int.eq_ofNat_of_zero_le ha
  obtain ⟨n, rfl⟩ := Int.eq_ofNat_of_zero_le hb0
  have e : ((m : Int) * 2 ^ s) = ((m * 2 ^ s : Nat) : Int) := by simp
  rw [e] at h ⊢
  rw [or_u32 m n s (by have : ((n : Nat) : Int) < ((2 ^ s : Nat) : Int) := by simpa using hb
                       omega) (by omega)]
  simp
theorem or_low (a b : Int) (s : Nat) (ha : 0 ≤ a) (hb0 : 0 ≤ b) (hb : b < 2 ^ s) (h : a * 2 ^ s + b < 4294967296) : bits .or .u32 b (a * 2 ^ s) = b + a * 2 ^ s := by
  obtain ⟨m, rfl⟩ := Int.eq_ofNat_of_zero_le ha
  obtain ⟨n, rfl⟩ := Int.eq_ofNat_of_zero_le hb0
  have e : ((m : Int) * 2 ^ s) = ((m * 2 ^ s : Nat) : Int) := by simp
  rw [e] at h ⊢
  rw [or_u32' m n s (by have : ((n : Nat) : Int) < ((2 ^ s : Nat) : Int) := by simpa using hb
                        omega) (by omega)]
  simp; omega
theorem or_zero (b:Int) (hb0:0≤b) (hb:b<4294967296):bits .or .u32 0 b=b:=by
 have:=or_high 0 b 32 (by omega) hb0 (by omega) (by omega)
 simpa using this
theorem plc0 (c:Int):plc c 0=c:=by simp [plc]
theorem plc1 (c:Int):plc c 1=c * 256:=by simp [plc]
theorem plc2 (c:Int):plc c 2=c * 65536:=by simp [plc]
theorem plc3 (c:Int):plc c 3=c * 16777216:=by simp [plc]
/-! ### lists of words and bytes -/

def four (x:Int):List Int:=[byt x 0,byt x 1,byt x 2,byt x 3]
theorem take_snoc (zs:List Int) (k:Nat) (h:k<zs.length):zs.take (k+1)=zs.take k++[nth zs k]:=by
 rw [List.take_succ_eq_append_getElem h];simp [nth,List.getD,h]
def View (k:IntKind) (w:World) (a:Option Addr) (zs:List Int):Prop :=
 ∀ j,j<zs.length→∃ b off,a=some ⟨b,off,none⟩∧b<w.heap.size∧w.cell? ⟨b,off+j,none⟩=some (.int k (nth zs j))
def Within (m:Int) (zs:List Int):Prop:=∀ z∈zs,0≤z∧z<m
theorem Within.at {m:Int} {zs:List Int} (h:Within m zs) {k:Nat} (hk:k<zs.length):0≤nth zs k∧nth zs k<m:=by
 have e:nth zs k=zs[k]:=by simp [nth,List.getD,hk]
 rw [e];exact h _ (List.getElem_mem hk)
theorem View.below {k:IntKind} {w w':World} {a:Option Addr} {zs:List Int} (h:View k w a zs) (hb:Below w.heap.size w w'):View k w' a zs:=by
 intro j hj
 obtain⟨b,off,e,hlt,hc⟩:=h j hj
 exact⟨b,off,e,Nat.lt_of_lt_of_le hlt hb.size,(hb.cell (p:=⟨b,off+j,none⟩) hlt).trans hc⟩
theorem bel_drewN {B:Nat} {a w:World} (h:Below B a w) (n:Nat):Below B a (w.drewN n):=h.trans ⟨rfl,rfl,rfl,Nat.le_refl _,fun _ _=>rfl⟩
theorem View.ofRow {k:IntKind} {w:World} {B e g n cap:Nat} {zs:List Int} (h:w.ownsRow B e 1 (.slice (some ⟨g,0,none⟩) n cap) n (zs.map (Value.int k))) (hl:zs.length=n):View k w (some ⟨g,0,none⟩) zs:=by
 intro j hj
 have hc:=h.cellAt j (by omega)
 have e:(zs.map (Value.int k))[j]?=some (.int k (nth zs j)):=by simp [nth,List.getD,hj]
 rw [e] at hc
 exact⟨g,0,rfl,World.block_lt_of_cell? _ _ hc,by rw [Nat.zero_add];exact hc⟩
theorem own_below {w w':World} {B e size n:Nat} {v:Value} {xs:List Value} (h:w.ownsRow B e size v n xs) (hb:Below w.heap.size w w'):w'.ownsRow B e size v n xs:=by
 refine⟨h.1,?_⟩
 rcases h.2 with hn | ⟨g,cap,cur,rfl,hg,hgg,rest⟩
 ·exact .inl hn
 ·exact .inr ⟨g,cap,cur,rfl,hg,by rw [hb.block g (Array.getElem?_eq_some_iff.1 hgg).1];exact hgg,rest⟩
theorem view_nil {k:IntKind} {w:World} {a:Option Addr}:View k w a []:=fun j hj=>by simp at hj
theorem view_take {k:IntKind} {w:World} {x:Addr} {zs:List Int} {n:Nat} (hcell:∀ i,i<zs.length→w.cell? (x.add i)=some (.int k (nth zs i))) (hn:n≤zs.length):View k w (some x) (zs.take n):=by
 intro j hj
 rw [List.length_take] at hj
 have hc0:=hcell 0 (by omega)
 have hc:=hcell j (by omega)
 obtain⟨b,off,spot⟩:=x
 have hs:spot=none:=by simpa [Addr.add] using World.cell?_spot hc0
 subst hs
 have hc':w.cell? ⟨b,off+j,none⟩=some (.int k (nth zs j)):=by rw [← Addr.add_lit];exact hc
 refine⟨b,off,rfl,World.block_lt_of_cell? _ _ hc',?_⟩
 rw [hc']
 simp [nth,List.getD,show j<n by omega]
/-! ### a row that is filled from its head on -/

def filled (zs:List Int) (k n:Nat):List Int:=zs.take k++List.replicate (n - k) 0
theorem filled_len (zs:List Int) (k n:Nat) (hk:k≤n) (hz:k≤zs.length):(filled zs k n).length=n:=by
 simp only [filled,List.length_append,List.length_take,List.length_replicate];omega
theorem filled_whole (zs:List Int) (n:Nat) (hz:zs.length=n):filled zs n n=zs:=by
 subst hz;simp [filled]
theorem filled_zero (zs:List Int) (n:Nat):filled zs 0 n=List.replicate n 0:=by simp [filled]
theorem filled_at (zs:List Int) (k n:Nat) (hk:k<n) (hz:k≤zs.length):(filled zs k n)[k]?=some 0:=by
 have e:(zs.take k).length=k:=by rw [List.length_take];omega
 rw [filled,List.getElem?_append_right (by omega),e,Nat.sub_self]
 simp [show 0<n - k by omega]
theorem filled_set (zs:List Int) (k n:Nat) (hk:k<n) (hz:k<zs.length):(filled zs k n).set k (nth zs k)=filled zs (k+1) n:=by
 have e:(zs.take k).length=k:=by rw [List.length_take];omega
 rw [filled,filled,List.set_append_right _ _ (by omega),e,Nat.sub_self,take_snoc zs k hz,List.append_assoc]
 congr 1
 rw [show n - k=(n - (k+1))+1 by omega,List.replicate_succ]
 simp
theorem made_row {w:World} {B e:Nat} {v:Value} {n:Nat} {k:IntKind} (zs:List Int) (h:w.ownsRow B e 1 v n (madeCells #[Value.int k 0] n).toList):w.ownsRow B e 1 v n ((filled zs 0 n).map (Value.int k)):=by
 have e1:(madeCells #[Value.int k 0] n).toList=(filled zs 0 n).map (Value.int k):=by
  rw [filled_zero,List.map_replicate]
  exact toList_madeCells_one (.int k 0) n
 rw [← e1];exact h
theorem fill_step {w:World} {B e g n:Nat} {k:IntKind} {zs:List Int} {i:Nat} (h:w.ownsRow B e 1 (.slice (some ⟨g,0,none⟩) n n) n ((filled zs i n).map (Value.int k))) (hi:i<n) (hz:i<zs.length) :
  w.cell? ⟨g,i,none⟩=some (.int k 0)∧w.frozen? ⟨g,i,none⟩=false∧(w.setCell ⟨g,i,none⟩ (.int k (nth zs i))).ownsRow B e 1 (.slice (some ⟨g,0,none⟩) n n) n ((filled zs (i+1) n).map (Value.int k)):=by
 refine⟨?_,h.frozenAt i,?_⟩
 ·rw [h.cellAt i (by omega),List.getElem?_map,filled_at zs i n hi (by omega)];rfl
 ·have:=h.stored i (.int k (nth zs i))
  rw [← List.map_set,filled_set zs i n hi hz] at this
  exact this.1
theorem getD_left (xs ys:List Int) (k:Nat) (h:k<xs.length):nth (xs++ys) k=nth xs k:=by
 simp [nth,List.getD,List.getElem?_append_left h]
theorem getD_right (xs ys:List Int) (k:Nat) (h:xs.length≤k):nth (xs++ys) k=nth ys (k - xs.length):=by
 simp [nth,List.getD,List.getElem?_append_right h]
/-! ### bytes to words -/

def wordAt (zs:List Int) (k:Nat):Int:=nth zs (4 * k)+nth zs (4 * k+1) * 256+nth zs (4 * k+2) * 65536+nth zs (4 * k+3) * 16777216
def splitL (zs:List Int):List Int:=(List.range (zs.length / 4)).map (wordAt zs)
theorem splitL_len (zs:List Int):(splitL zs).length=zs.length / 4:=by simp [splitL]
def partW (zs:List Int) (i k:Nat):Int :=
 (if 4 * k<i then nth zs (4 * k) else 0)+(if 4 * k+1<i then nth zs (4 * k+1) * 256 else 0)+(if 4 * k+2<i then nth zs (4 * k+2) * 65536 else 0)+(if 4 * k+3<i then nth zs (4 * k+3) * 16777216 else 0)
def partL (zs:List Int) (i n:Nat):List Int:=(List.range n).map (partW zs i)
theorem partL_zero (zs ys:List Int) (n:Nat):partL zs 0 n=filled ys 0 n:=by
 rw [filled_zero]
 apply List.ext_getElem? 
 intro k
 by_cases hk:k<n
 ·simp [partL,partW,hk]
 ·simp [partL,hk]
theorem partL_whole (zs:List Int) (h:zs.length % 4=0):partL zs zs.length (zs.length / 4)=splitL zs:=by
 unfold partL splitL
 apply List.map_congr_left
 intro k hk
 have hk':k<zs.length / 4:=List.mem_range.1 hk
 unfold partW wordAt
 rw [if_pos (by omega),if_pos (by omega),if_pos (by omega),if_pos (by omega)]
theorem partW_other (zs:List Int) (i k:Nat) (h:k≠i / 4):partW zs (i+1) k=partW zs i k:=by
 unfold partW
 have h0:(4 * k<i+1)=(4 * k<i):=by apply propext;omega
 have h1:(4 * k+1<i+1)=(4 * k+1<i):=by apply propext;omega
 have h2:(4 * k+2<i+1)=(4 * k+2<i):=by apply propext;omega
 have h3:(4 * k+3<i+1)=(4 * k+3<i):=by apply propext;omega
 simp only [h0,h1,h2,h3]
theorem partL_set (zs:List Int) (i n:Nat):(partL zs i n).set (i / 4) (partW zs (i+1) (i / 4))=partL zs (i+1) n:=by
 apply List.ext_getElem?
 intro k
 rw [List.getElem?_set]
 by_cases hk:k<n
 ·by_cases e:i / 4=k
  ·subst e;simp [partL,hk]
  ·simp [partL,hk,e,partW_other zs i k (fun h=>e h.symm)]
 ·by_cases e:i / 4=k
  ·subst e;simp [partL,hk]
  ·simp [partL,hk,e]
theorem partW_step (zs:List Int) (i:Nat) (hw:Within 256 zs) (hi:i<zs.length) :
  bits .or .u32 (partW zs i (i / 4)) (plc (nth zs i) (i % 4))=partW zs (i+1) (i / 4):=by
 have hc:=hw.at hi
 rcases (show i % 4=0∨i % 4=1∨i % 4=2∨i % 4=3 by omega) with e | e | e | e
 ·have e0:4 * (i / 4)=i:=by omega
  rw [e,plc0];unfold partW
  rw [if_neg (by omega),if_neg (by omega),if_neg (by omega),if_neg (by omega),if_pos (by omega),if_neg (by omega),if_neg (by omega),if_neg (by omega),e0]
  have:=or_zero (nth zs i) hc.1 (by omega)
  simpa using this
 ·have e0:4 * (i / 4)+1=i:=by omega
  have b0:=hw.at (k:=4 * (i / 4)) (by omega)
  rw [e,plc1];unfold partW
  rw [if_pos (by omega),if_neg (by omega),if_neg (by omega),if_neg (by omega),if_pos (by omega),if_pos (by omega),if_neg (by omega),if_neg (by omega),e0]
  have:=or_low (nth zs i) (nth zs (4 * (i / 4))) 8 hc.1 b0.1 (by omega) (by omega)
  rw [show ((nth zs i) * 2 ^ 8:Int)=nth zs i * 256 by omega] at this
  simpa using this
 ·have e0:4 * (i / 4)+2=i:=by omega
  have b0:=hw.at (k:=4 * (i / 4)) (by omega)
  have b1:=hw.at (k:=4 * (i / 4)+1) (by omega)
  rw [e,plc2];unfold partW
  rw [if_pos (by omega),if_pos (by omega),if_neg (by omega),if_neg (by omega),if_pos (by omega),if_pos (by omega),if_pos (by omega),if_neg (by omega),e0]
  have:=or_low (nth zs i) (nth zs (4 * (i / 4))+nth zs (4 * (i / 4)+1) * 256) 16 hc.1 (by omega) (by omega) (by omega)
  rw [show ((nth zs i) * 2 ^ 16:Int)=nth zs i * 65536 by omega] at this
  simpa using this
 ·have e0:4 * (i / 4)+3=i:=by omega
  have b0:=hw.at (k:=4 * (i / 4)) (by omega)
  have b1:=hw.at (k:=4 * (i / 4)+1) (by omega)
  have b2:=hw.at (k:=4 * (i / 4)+2) (by omega)
  rw [e,plc3];unfold partW
  rw [if_pos (by omega),if_pos (by omega),if_pos (by omega),if_neg (by omega),if_pos (by omega),if_pos (by omega),if_pos (by omega),if_pos (by omega),e0]
  have:=or_low (nth zs i) (nth zs (4 * (i / 4))+nth zs (4 * (i / 4)+1) * 256+nth zs (4 * (i / 4)+2) * 65536) 24 hc.1 (by omega) (by omega) (by omega)
  rw [show ((nth zs i) * 2 ^ 24:Int)=nth zs i * 16777216 by omega] at this
  simpa using this
theorem partW_bounds (zs:List Int) (i k:Nat) (hw:Within 256 zs) (h:4 * k+4≤zs.length):0≤partW zs i k∧partW zs i k<4294967296:=by
 have b0:=hw.at (k:=4 * k) (by omega)
 have b1:=hw.at (k:=4 * k+1) (by omega)
 have b2:=hw.at (k:=4 * k+2) (by omega)
 have b3:=hw.at (k:=4 * k+3) (by omega)
 unfold partW
 split <;> split <;> split <;> split <;> omega
def NewAt (B:Nat) (a:Option Addr):Prop:=∀ b off s,a=some ⟨b,off,s⟩→B≤b
theorem newAt_mk {B b off:Nat} (h:B≤b):NewAt B (some ⟨b,off,none⟩):=fun b' off' s e=>by simp at e;omega
theorem View.setCell {k:IntKind} {w:World} {a:Option Addr} {zs:List Int} (h:View k w a zs) {B g j:Nat} (hn:NewAt B a) (hg:g<B) (u:Value):View k (w.setCell ⟨g,j,none⟩ u) a zs:=by
 intro i hi
 obtain⟨b,off,rfl,hb,hc⟩:=h i hi
 have:=hn b off none rfl
 refine⟨b,off,rfl,by simpa [World.setCell] using hb,?_⟩
 rw [← hc]
 exact World.cell?_of_block (w:=w) (Below.heap_setCell w ⟨g,j,none⟩ u b (by simp;omega))
end Go.Proofs.YtlcaedibmlidlaaGreat
namespace Go.Proofs.YtlcaedibmlidlaaGreat
open Go
theorem hide {p:Prop} (h:p):Go.RowKit.Hid p:=h
def slot (t:Array Value) (i:Nat):Value:=t.getD i undef
theorem frame_eq (t:Array Value) (n:Nat) (h:t.size=n):t=((List.range n).map (slot t)).toArray:=by
 apply Array.ext
 ·simp [h]
 ·intro i h1 h2
  simp [slot,Array.getD,h1]
def onNormal (K:Act→World→Prop):Exit→Act→World→Prop
 | .normal,a,w=>K a w
 | _,_,_=>False
theorem onNormal_normal (K:Act→World→Prop) (a:Act) (w:World):onNormal K .normal a w=K a w:=rfl
theorem wp_norm {P:Program} {c:Code} {Q:Exit→Act→World→Prop} {a:Act} {w:World} (h:c.wp P (onNormal (Q .normal)) a w):c.wp P Q a w :=
 wp_mono h fun e a w h=>by
  cases e with
  | normal=>exact h
  | _=>exact False.elim h
end Go.Proofs.YtlcaedibmlidlaaGreat
namespace Go.Proofs.YtlcaedibmlidlaaGreat
open Go.RowKit

set_option linter.unusedVariables false
def KeptT (τ:TypeId→Prop) (A B:World):Prop:=∀ (k:Nat) (cs:Array Value) (t:TypeId) (fr:Nat×Nat),τ t→A.heap[k]?=some (.cells cs t fr)→B.heap[k]?=some (.cells cs t fr)
theorem KeptT.refl (τ:TypeId→Prop) (A:World):KeptT τ A A:=fun _ _ _ _ _ h=>h
theorem KeptT.trans {τ:TypeId→Prop} {A B C:World} (h:KeptT τ A B) (k:KeptT τ B C):KeptT τ A C:=fun i cs t fr ht hi=>k i cs t fr ht (h i cs t fr ht hi)
theorem KeptT.none {A B:World}:KeptT (fun _=>False) A B:=fun _ _ _ _ h _=>h.elim
theorem KeptT.of_grownBy {τ:TypeId→Prop} {A B:World} {row:Option Nat} (hg:A.grownBy B row) (hr:∀ (j:Nat) (cs:Array Value) (t:TypeId) (fr:Nat×Nat),row=some j→A.heap[j]?=some (.cells cs t fr)→¬ τ t):KeptT τ A B:=fun k cs t fr ht hk=>by
 refine (hg.block k (Array.getElem?_eq_some_iff.1 hk).1 (fun e=>?_)).trans hk
 exact hr k cs t fr e.symm hk ht
theorem KeptT.row {τ:TypeId→Prop} {A B:World} {b e size n:Nat} {v:Value} {xs:List Value} (h:A.ownsRow b e size v n xs) (hg:A.grownBy B v.ownBlock) (hne:¬ τ e):KeptT τ A B:=KeptT.of_grownBy hg fun j cs t fr ej hj=>by
 rcases h.2 with ⟨h1,_⟩ | ⟨g,c,cur,h1,_,h3,_⟩
 ·rw [h1] at ej;simp [Value.ownBlock] at ej
 ·rw [h1] at ej;simp [Value.ownBlock] at ej;subst ej
  rw [h3] at hj;cases hj;exact hne
def Kept (n₀:Nat) (τ:TypeId→Prop) (A B:World):Prop:=Below n₀ A B∧KeptT τ A B
theorem Kept.refl (n₀:Nat) (τ:TypeId→Prop) (A:World):Kept n₀ τ A A:=⟨Below.refl _ _,KeptT.refl _ _⟩
theorem Kept.trans {n₀:Nat} {τ:TypeId→Prop} {A B C:World} (h:Kept n₀ τ A B) (k:Kept n₀ τ B C):Kept n₀ τ A C:=⟨h.1.trans k.1,h.2.trans k.2⟩
theorem Kept.putObj {n₀:Nat} {τ:TypeId→Prop} (A:World) {l:Nat} {o:Obj} (o':Obj) (hl:A.heap[l]?=some o) (ho:o.isCells=false) (hn:n₀≤l):Kept n₀ τ A (A.putObj l o'):=by
 have hlt:=(Array.getElem?_eq_some_iff.1 hl).1
 refine⟨(Below.refl n₀ A).grown (grownBy_putObj' A l o') (by omega) (fun k e=>by cases e;exact hn),KeptT.of_grownBy (grownBy_putObj' A l o') fun j cs t fr e hj=>?_⟩
 cases e
 rw [hl] at hj
 cases hj
 cases ho
theorem grown_of_below {A B:World} (h:Below A.heap.size A B) (row:Option Nat):A.grownBy B row:=⟨h.os,h.tape,h.output,h.size,fun k hk _=>h.block k hk⟩
theorem KeepsFrom.mono {m m':Nat} {A B:World} (h:KeepsFrom m A B) (hm:m≤m'):KeepsFrom m' A B:=⟨h.size,fun k o hk h1 h2=>h.same k o (Nat.le_trans hm hk) h1 h2⟩
theorem OwnFrom.below {β:Type} {B:Nat} {I:β→World→Prop} (h:OwnFrom B I) {s:β} {A C:World} (hs:I s A) (hb:Below A.heap.size A C):I s C :=
 h s A C Option.none hs (grown_of_below hb _) (fun r e=>by cases e)
theorem OwnFrom.mono {β:Type} {B B':Nat} {I:β→World→Prop} (h:OwnFrom B I) (hB:B≤B'):OwnFrom B' I:=fun s W W' row hs hg hr=>h s W W' row hs hg (fun r e=>⟨Nat.le_trans hB (hr r e).1,(hr r e).2⟩)
def Tells {α:Type} (P:Program) (g:Nat) (lb:Array Value) (encs:α→Array Value) (V:List α→α→World→Prop) (n₀:Nat) (τ:TypeId→Prop) (S Sp:List α→Prop) (w:World):Prop :=
 ∀ (l:Nat) (J Jx:List α→World→Prop) (W:World),Below w.heap.size w W→OwnFrom W.heap.size J→OwnFrom W.heap.size Jx →
  (∀ pre x W1,J pre W1→V pre x W1→YieldAt Fence.wide 0 P l (encs x) W1 fun e W' =>
   KeepsFrom W.heap.size W1 W'∧((e=.returned (.bool true)∧J (pre++[x]) W'∧Kept n₀ τ W1 W')∨(e=.returned (.bool false)∧Jx (pre++[x]) W'))) →
  J [] W →
  CallsIn Fence.wide 0 P g (#[.func (.yield l) #[] #[]]++lb) W fun e W'=>(∃ v,e=.returned v)∧((∃ xs,S xs∧J xs W')∨(∃ pre,Sp pre∧Jx pre W'))
theorem wp_tells {α:Type} {P:Program} {g:Operand} {ps:Array Tmp} {assign body:Code} {Q:Exit→Act→World→Prop} {a:Act} {w:World} {gf:Nat} {lb:Array Value}
  (hg:a.eval g=.func (.func gf) #[] lb) (eg:∀ args w,(callFunc gf args).run P w=.ok (.enter gf args) w)
  {encs:α→Array Value} {V:List α→α→World→Prop} {n₀:Nat} {τ:TypeId→Prop} {S Sp:List α→Prop} (hseq:Tells P gf lb encs V n₀ τ S Sp w) (hn:n₀≤w.heap.size) (hps:∀ x,(encs x).size=ps.size)
  (I:List α→World→Prop) (Ix:Code→List α→World→Prop) (hI:OwnFrom w.heap.size I) (hIx:∀ c,OwnFrom w.heap.size (Ix c)) (h0:I [] w)
  (Ax:List α→α→Act→World→Prop) (hAx:∀ pre x a',OwnFrom w.heap.size (fun (_:Unit) W=>Ax pre x a' W))
  (hassign:∀ (l:Nat) (pre:List α) (x:α) (W:World) (K:Act→World→Prop),I pre W→V pre x W→(∀ a' W',KeepsFrom w.heap.size W W'→Kept n₀ τ W W'→I pre W'→Ax pre x a' W'→K a' W') →
   assign.wpIn (Fence.wide.inRound l) 0 P (Exit.then K (fun _ _ _=>False)) { tmps:=(ps.zip (encs x)).foldl (fun t (p,v)=>t.setIfInBounds p v) a.tmps,defers:=[] } W)
  (hbody:∀ (l:Nat) (pre:List α) (x:α) (a':Act) (W:World),w.heap.size≤l→(∃ r,W.heap[l]?=some (.loop r))→I pre W→Ax pre x a' W→body.wpIn (Fence.wide.inRound l) 0 P (ownPostG w.heap.size (Kept n₀ τ) I Ix (pre++[x]) W) a' W)
  (hdone:∀ (D:Nat) (xs:List α) (W:World),w.heap.size≤D→S xs→I xs W→W.heap[D]?=some (.deferred (some []))→Q .normal { a with defers:={ target:=.collected D,args:=#[] } :: a.defers } W)
  (hstop:∀ (D:Nat) (c:Code) (pre:List α) (W:World),w.heap.size≤D→Sp pre→Ix c pre W→W.heap[D]?=some (.deferred (some []))→c.wpIn Fence.wide 0 P Q { a with defers:={ target:=.collected D,args:=#[] } :: a.defers } W) :
  (Code.rangeFunc g ps assign body).wpIn Fence.wide 0 P Q a w:=by
 refine wpIn_rangeFunc fun fn hfn=>?_
 -- the block for deferred calls lies at D, the loop's record at D + 1
 generalize hD:w.heap.size=D at *
 let rec_:LoopState→Option Code→Obj:=fun st pe=>.loop { state:=st,pending:=pe,fn,tmps:=a.tmps,params:=ps,assign,body,defers:=D }
 have hrecC:∀ st pe,(rec_ st pe).isCells=false:=fun _ _=>rfl
 let W0:World:=(w.alloc (.deferred (some []))).alloc (rec_ .ready none)
 have hsz0:W0.heap.size=D+2:=by show ((w.alloc _).alloc _).heap.size=_;simp [hD]
 have hrun:(Instr.enterLoop fn a.tmps ps assign body Fence.wide.round).run P w=.ok (D+1,[{ target:=.collected D,args:=#[] }]) W0:=by
  have:=run_enterLoop_outer (P:=P) (w:=w) fn a.tmps ps assign body
  rw [hD] at this
  exact this
 have hrec0:W0.heap[D+1]?=some (rec_ .ready none):=by
  have:=World.alloc_heap_new (w.alloc (.deferred (some []))) (rec_ .ready none)
  rw [World.size_alloc,hD] at this
  exact this
 have hdef0:W0.heap[D]?=some (.deferred (some [])):=by
  have:=World.alloc_heap_new w (.deferred (some []))
  rw [hD] at this
  exact (Below.heap_alloc _ _ _ (by simp [hD])).trans this
 have hbel0:Below w.heap.size w W0:=((Below.refl _ w).alloc (Nat.le_refl _) _).alloc (by simp) _
 refine⟨D+1,[{ target:=.collected D,args:=#[] }],W0,{ target:=.fn (.func gf) lb,args:=#[.func (.yield (D+1)) #[] #[]] },W0,gf,#[.func (.yield (D+1)) #[] #[]]++lb,W0,hrun,?_,fun _ _=>trivial,?_,(fun h=>by cases h),?_⟩
 ·simp only [resolve,hg];simp [go_sem]
 ·simp [invoke,go_sem,eg]
 -- what holds between two rounds: the caller's word, and the two blocks of the loop
 have hnew:∀ {k:Nat},W0.heap.size≤k→D≤k∧k≠D+1∧k≠D:=fun h=>by rw [hsz0] at h;exact⟨by omega,by omega,by omega⟩
 have stays:∀ {A B:World} {row:Option Nat} {k:Nat} {o:Obj},A.grownBy B row→(∀ r,row=some r→W0.heap.size≤r∧∃ o:Obj,A.heap[r]?=some o∧o.isCells=false)→k<D+2→A.heap[k]?=some o→B.heap[k]?=some o:=fun hgr hr hk h =>
  (hgr.block _ (Array.getElem?_eq_some_iff.1 h).1 (fun e=>by have:=(hr _ e.symm).1;rw [hsz0] at this;omega)).trans h
 refine (hseq (D+1) (fun pre W=>I pre W∧W.heap[D+1]?=some (rec_ .ready none)∧W.heap[D]?=some (.deferred (some [])))
  (fun pre W=>∃ c,Ix c pre W∧W.heap[D+1]?=some (rec_ .done (some c))∧W.heap[D]?=some (.deferred (some []))) W0 hbel0 ?_ ?_ ?_ ⟨OwnFrom.below hI h0 hbel0,hrec0,hdef0⟩).mono ?_
 ·intro s A B row hs hgr hr
  exact⟨hI s A B row hs.1 hgr (fun r e=>⟨(hnew (hr r e).1).1,(hr r e).2⟩),stays hgr hr (by omega) hs.2.1,stays hgr hr (by omega) hs.2.2⟩
 ·rintro s A B row ⟨c,hc,h1,h2⟩ hgr hr
  exact⟨c,hIx c s A B row hc hgr (fun r e=>⟨(hnew (hr r e).1).1,(hr r e).2⟩),stays hgr hr (by omega) h1,stays hgr hr (by omega) h2⟩
 ·-- a round
  rintro pre x W ⟨hi,hl,hk⟩ hV
  have hy:=run_yield (P:=P) (args:=encs x) hl (hps x)
  refine⟨fn,_,assign,body,hy,roundIn_of_wpIn hfn (hassign _ pre x W _ hi hV ?_)⟩
  intro a' Wa hkf hkp hia hax
  have hla:=hkf.same _ _ (by omega) hl rfl
  have hka:=hkf.same _ _ (Nat.le_refl _) hk rfl
  have hlt:D+1<Wa.heap.size:=(Array.getElem?_eq_some_iff.1 hla).1
  refine⟨_,run_beginRound hla rfl,?_⟩
  have hlb:(Wa.putObj (D+1) (rec_ .busy none)).heap[D+1]?=some (rec_ .busy none):=World.putObj_heap_same hlt
  have hkb:(Wa.putObj (D+1) (rec_ .busy none)).heap[D]?=some (.deferred (some [])):=(World.putObj_heap_other (by omega)).trans hka
  have kpb:Kept n₀ τ W (Wa.putObj (D+1) (rec_ .busy none)):=hkp.trans (Kept.putObj Wa _ hla rfl (by omega))
  have put_from:∀ (A:World) (o:Obj),KeepsFrom W0.heap.size A (A.putObj (D+1) o):=fun A o=>KeepsFrom.of_grownBy (grownBy_putObj' A (D+1) o) (fun j e=>by cases e;rw [hsz0];omega)
  have kfb:KeepsFrom W0.heap.size W (Wa.putObj (D+1) (rec_ .busy none)):=(KeepsFrom.mono hkf (by rw [hsz0];omega)).trans (put_from Wa _)
  refine wpIn_mono (hbody _ pre x a' _ (by omega) ⟨_,hlb⟩ (hI.putObj _ hia (by omega) hla rfl) ((hAx pre x a').putObj (s:=()) _ hax (by omega) hla rfl)) ?_
  have leave:∀ (j:Option Code) (W3:World),KeepsFrom D (Wa.putObj (D+1) (rec_ .busy none)) W3 →
    (Instr.endRound (D+1) j).run P W3=.ok (.bool j.isNone) (W3.putObj (D+1) (rec_ (if j.isNone then .ready else .done) j))∧W3.heap[D+1]?=some (rec_ .busy none) ∧
    (W3.putObj (D+1) (rec_ (if j.isNone then .ready else .done) j)).heap[D+1]?=some (rec_ (if j.isNone then .ready else .done) j)∧(W3.putObj (D+1) (rec_ (if j.isNone then .ready else .done) j)).heap[D]?=some (.deferred (some [])) ∧
    KeepsFrom W0.heap.size W (W3.putObj (D+1) (rec_ (if j.isNone then .ready else .done) j)):=fun j W3 h3=>by
   have hl3:=h3.same _ _ (by omega) hlb rfl
   exact⟨run_endRound (P:=P) j hl3,hl3,World.putObj_heap_same (Array.getElem?_eq_some_iff.1 hl3).1,(World.putObj_heap_other (by omega)).trans (h3.same _ _ (Nat.le_refl _) hkb rfl),
    (kfb.trans (KeepsFrom.mono h3 (by rw [hsz0];omega))).trans (put_from W3 _)⟩
  rintro e a3 W3 hp
  cases e with
  | normal =>
   obtain⟨h3,kp3,hi3⟩:=hp
   obtain⟨hr,hl3,hl4,hk4,kf4⟩:=leave none W3 h3
   exact⟨_,_,hr,kf4,.inl ⟨rfl,⟨hI.putObj _ hi3 (by omega) hl3 rfl,hl4,hk4⟩,(kpb.trans kp3).trans (Kept.putObj W3 _ hl3 rfl (by omega))⟩⟩
  | ret =>
   obtain⟨h3,hi3⟩:=hp
   obtain⟨hr,hl3,hl4,hk4,kf4⟩:=leave (some .ret) W3 h3
   exact⟨_,_,hr,kf4,.inr ⟨rfl,.ret,(hIx _).putObj _ hi3 (by omega) hl3 rfl,hl4,hk4⟩⟩
  | exit id =>
   obtain⟨h3,hi3⟩:=hp
   obtain⟨hr,hl3,hl4,hk4,kf4⟩:=leave (some (.exit id)) W3 h3
   exact⟨_,_,hr,kf4,.inr ⟨rfl,.exit id,(hIx _).putObj _ hi3 (by omega) hl3 rfl,hl4,hk4⟩⟩
  | goto t =>
   obtain⟨h3,hi3⟩:=hp
   obtain⟨hr,hl3,hl4,hk4,kf4⟩:=leave (some (.goto t)) W3 h3
   exact⟨_,_,hr,kf4,.inr ⟨rfl,.goto t,(hIx _).putObj _ hi3 (by omega) hl3 rfl,hl4,hk4⟩⟩
  | panic ch=>exact hp.elim
  | outgrown=>exact hp.elim
 ·-- behind the iterator's call
  rintro e W2 ⟨⟨v,rfl⟩,⟨xs,hS,hi,hl,hk⟩ | ⟨pre,hSp,c,hi,hl,hk⟩⟩
  ·exact⟨none,_,run_endLoop (P:=P) hl (by simp),hdone _ xs _ (Nat.le_refl _) hS (hI.putObj _ hi (by omega) hl rfl) ((World.putObj_heap_other (by omega)).trans hk)⟩
  ·exact⟨some c,_,run_endLoop (P:=P) hl (by simp),hstop _ c pre _ (Nat.le_refl _) hSp ((hIx c).putObj _ hi (by omega) hl rfl) ((World.putObj_heap_other (by omega)).trans hk)⟩
theorem cellsStay {W W':World} {row:Option Nat} {k B:Nat} {cs:Array Value} {t:TypeId} {fr:Nat×Nat} (h:W.heap[k]?=some (.cells cs t fr)) (hg:W.grownBy W' row) (hr:∀ r,row=some r→B≤r∧∃ o:Obj,W.heap[r]?=some o∧o.isCells=false):W'.heap[k]?=some (.cells cs t fr) :=
 (hg.block k (Array.getElem?_eq_some_iff.1 h).1 (fun e=>by
  obtain⟨_,o,ho,hc⟩:=hr k e.symm
  rw [h] at ho;cases ho;cases hc)).trans h
theorem belowStay {n₀:Nat} {w W W':World} {row:Option Nat} {B:Nat} (h:Below n₀ w W) (hn:n₀≤w.heap.size) (hB:n₀≤B) (hg:W.grownBy W' row) (hr:∀ r,row=some r→B≤r∧∃ o:Obj,W.heap[r]?=some o∧o.isCells=false):Below n₀ w W' :=
 h.grown hg (Nat.le_trans hn h.size) (fun k e=>Nat.le_trans hB (hr k e).1)
theorem oneCell {w:World} {g T:Nat} {v:Value} (h:w.heap[g]?=some (.cells #[v] T (0,0))):w.cell? ⟨g,0,none⟩=some v∧w.frozen? ⟨g,0,none⟩=false:=by
 constructor <;> simp [World.cell?,World.frozen?,h]
theorem oneSet {w:World} {g T:Nat} {v:Value} (h:w.heap[g]?=some (.cells #[v] T (0,0))) (u:Value):(w.setCell ⟨g,0,none⟩ u).heap[g]?=some (.cells #[u] T (0,0)):=by
 simp [World.setCell,Array.getElem?_modify,h]
theorem setFar {w:World} {g k:Nat} {o:Obj} (h:w.heap[k]?=some o) (hne:k≠g) (i:Nat) (u:Value):(w.setCell ⟨g,i,none⟩ u).heap[k]?=some o:=(Below.heap_setCell _ _ _ _ (by simpa using hne)).trans h
theorem allocAt (w:World) (o:Obj) (k:Nat):(w.alloc o).heap[k]?=if k=w.heap.size then some o else w.heap[k]?:=by
 show (w.heap.push o)[k]?=_
 rw [Array.getElem?_push]
theorem allocOld {w:World} {k:Nat} {x:Obj} (h:w.heap[k]?=some x) (o:Obj):(w.alloc o).heap[k]?=some x:=(Below.heap_alloc _ _ _ (Array.getElem?_eq_some_iff.1 h).1).trans h
theorem allocNew (w:World) (o:Obj) {n:Nat} (h:w.heap.size=n):(w.alloc o).heap[n]?=some o:=by rw [allocAt,if_pos h.symm]
theorem cell_of_two {w:World} {g:Nat} {a b:Value} {T:TypeId} (h:w.heap[g]?=some (.cells #[a,b] T (0,0))):w.cell? ⟨g,0,none⟩=some a∧w.cell? ⟨g,1,none⟩=some b∧w.frozen? ⟨g,1,none⟩=false:=by
 refine⟨?_,?_,?_⟩ <;> simp [World.cell?,World.frozen?,h]
theorem grown_setCell (w:World) (g j:Nat) (u:Value):w.grownBy (w.setCell ⟨g,j,none⟩ u) (some g) :=
 ⟨rfl,rfl,rfl,by simp [World.setCell],fun k _ hne=>Below.heap_setCell _ _ _ _ (fun e=>hne (by rw [e]))⟩
theorem View.ofOwn {k:IntKind} {w:World} {B e n cap:Nat} {a:Option Addr} {zs:List Int} (h:w.ownsRow B e 1 (.slice a n cap) n (zs.map (Value.int k))) (hl:zs.length=n):View k w a zs:=by
 rcases h.2 with ⟨_,hn⟩ | ⟨g,cap',cur,hv,_⟩
 ·have:zs=[]:=List.eq_nil_of_length_eq_zero (by rw [hl];simpa using hn)
  subst this;exact view_nil
 ·cases hv;exact View.ofRow h hl
def nthR (rs:List (Int×List Int)) (j:Nat):Int×List Int:=rs.getD j (0,[])
def RawsV (w:World) (a:Option Addr) (rs:List (Int×List Int)):Prop :=
 ∀ j,j<rs.length→∃ b off aj cj nj,a=some ⟨b,off,none⟩∧b<w.heap.size∧w.cell? ⟨b,off+j * 2,none⟩=some (.int .u16 (nthR rs j).1)∧w.cell? ⟨b,off+j * 2+1,none⟩=some (.slice aj nj cj)∧(nthR rs j).2.length=nj∧View .u32 w aj (nthR rs j).2∧nj≤cj
def RawsOk (rs:List (Int×List Int)):Prop:=∀ j,j<rs.length→0≤(nthR rs j).1∧(nthR rs j).1<65536∧Within 4294967296 (nthR rs j).2∧4 * (nthR rs j).2.length≤140737488351232
theorem RawsV.below {w w':World} {a:Option Addr} {rs:List (Int×List Int)} (h:RawsV w a rs) (hb:Below w.heap.size w w'):RawsV w' a rs:=by
 intro j hj
 obtain⟨b,off,aj,cj,nj,e,hlt,h1,h2,h3,h4,h5⟩:=h j hj
 exact⟨b,off,aj,cj,nj,e,Nat.lt_of_lt_of_le hlt hb.size,(hb.cell (p:=⟨b,off+j * 2,none⟩) hlt).trans h1,(hb.cell (p:=⟨b,off+j * 2+1,none⟩) hlt).trans h2,h3,h4.below hb,h5⟩
theorem rawsV_nil {w:World} {a:Option Addr}:RawsV w a []:=fun j hj=>by simp at hj
set_option maxRecDepth 10000



def OwnR (w:World) (lo:Nat) (a:Option Addr) (k:Nat) (rs:List (Int×List Int)):Prop :=
 ∀ j,k≤j→j<rs.length→∃ b off aj cj nj,a=some ⟨b,off,none⟩∧lo≤b∧b<w.heap.size∧w.cell? ⟨b,off+j * 2,none⟩=some (.int .u16 (nthR rs j).1)∧w.cell? ⟨b,off+j * 2+1,none⟩=some (.slice aj nj cj)∧(nthR rs j).2.length=nj ∧
  w.ownsRow lo 22 1 (.slice aj nj cj) nj ((nthR rs j).2.map (Value.int .u32))∧Value.ownBlock (.slice aj nj cj)≠some b ∧
  ∀ i,k≤i→i<rs.length→i≠j→∀ ai ci ni g,w.cell? ⟨b,off+i * 2+1,none⟩=some (.slice ai ni ci)→Value.ownBlock (.slice ai ni ci)=some g→Value.ownBlock (.slice aj nj cj)≠some g
theorem own_grown {w w':World} {B e size n:Nat} {v:Value} {xs:List Value} {ob:Option Nat} (h:w.ownsRow B e size v n xs) (hg:w.grownBy w' ob) (hne:∀ g,ob=some g→v.ownBlock≠some g):w'.ownsRow B e size v n xs:=by
 refine⟨h.1,?_⟩
 rcases h.2 with hn | ⟨g,cap,cur,rfl,hb,hgg,rest⟩
 ·exact .inl hn
 ·exact .inr ⟨g,cap,cur,rfl,hb,by rw [hg.block g (Array.getElem?_eq_some_iff.1 hgg).1 (fun e=>hne g e.symm rfl)];exact hgg,rest⟩
theorem OwnR.view {w:World} {lo:Nat} {a:Option Addr} {rs:List (Int×List Int)} (h:OwnR w lo a 0 rs):RawsV w a rs:=by
 intro j hj
 obtain⟨b,off,aj,cj,nj,e,_,hb,c1,c2,c3,c4,_⟩:=h j (Nat.zero_le _) hj
 refine⟨b,off,aj,cj,nj,e,hb,c1,c2,c3,View.ofOwn c4 c3,?_⟩
 rcases c4.2 with ⟨e1,e2⟩ | ⟨g,c',cur,e1,_,_,e4,_⟩
 ·omega
 ·cases e1;exact e4
set_option linter.unusedSimpArgs false
structure RowX where
  T : Nat
  size : Nat
  v : Value
  n : Nat
  xs : List Value
def RowX.own (r:RowX) (w:World) (lo:Nat):Prop:=w.ownsRow lo r.T r.size r.v r.n r.xs
structure RowsX {ι : Type} (w : World) (lo : Nat) (In : ι → Prop) (R : ι → RowX) : Prop where
  own : ∀ q, In q → (R q).own w lo
  apart : ∀ q q', In q → In q' → q ≠ q' → ∀ g, (R q).v.ownBlock = some g → (R q').v.ownBlock ≠ some g
theorem RowsX.kept {ι:Type} {w w':World} {lo:Nat} {In:ι→Prop} {R:ι→RowX} {ob:Option Nat} (h:RowsX w lo In R) (hg:w.grownBy w' ob) (hob:∀ g,ob=some g→g<lo):RowsX w' lo In R :=
 ⟨fun q hq=>own_grown (h.own q hq) hg (fun g e e2=>by have:=(World.ownsRow.lt (h.own q hq) g e2).1;have:=hob g e;omega),h.apart⟩
theorem RowsX.put {ι:Type} {w w':World} {lo:Nat} {In:ι→Prop} {R R':ι→RowX} (h:RowsX w lo In R) (i:ι) (hi:In i) (hg:w.grownBy w' (R i).v.ownBlock) (hnew:(R' i).own w' lo) (hv:(R' i).v.ownBlock=(R i).v.ownBlock∨∀ g,(R' i).v.ownBlock=some g→w.heap.size≤g) (hs:∀ q,In q→q≠i→R' q=R q):RowsX w' lo In R':=by
 constructor
 ·intro q hq
  by_cases e:q=i
  ·rw [e];exact hnew
  ·rw [hs q hq e]
   exact own_grown (h.own q hq) hg (fun g eg=>h.apart i q hi hq (fun e2=>e e2.symm) g eg)
 ·intro q q' hq hq' hne g e1 e2
  by_cases eq:q=i
  ·subst eq
   have hq'i:q'≠q:=fun e=>hne e.symm
   rw [hs q' hq' hq'i] at e2
   rcases hv with hv | hv
   ·rw [hv] at e1;exact h.apart q q' hq hq' hne g e1 e2
   ·have:=hv g e1;have:=(World.ownsRow.lt (h.own q' hq') g e2).2;omega
  ·rw [hs q hq eq] at e1
   by_cases eq':q'=i
   ·subst eq'
    rcases hv with hv | hv
    ·rw [hv] at e2;exact h.apart q q' hq hq' hne g e1 e2
    ·have:=hv g e2;have:=(World.ownsRow.lt (h.own q hq) g e1).2;omega
   ·rw [hs q' hq' eq'] at e2
    exact h.apart q q' hq hq' hne g e1 e2
theorem RowsX.grow {ι:Type} {w:World} {lo:Nat} {In In':ι→Prop} {R R':ι→RowX} (h:RowsX w lo In R) (hin:∀ q,In' q→In q∨((R' q).v=.slice none 0 0∧(R' q).n=0∧(R' q).xs=[])) (hs:∀ q,In q→R' q=R q):RowsX w lo In' R':=by
 constructor
 ·intro q hq
  rcases hin q hq with h1 | ⟨h1,h2,h3⟩
  ·rw [hs q h1];exact h.own q h1
  ·unfold RowX.own;rw [h1,h2,h3];exact World.ownsRow_nil _ _ _ _
 ·intro q q' hq hq' hne g e1 e2
  rcases hin q hq with h1 | ⟨h1,_,_⟩
  ·rcases hin q' hq' with k1 | ⟨k1,_,_⟩
   ·rw [hs q h1] at e1;rw [hs q' k1] at e2;exact h.apart q q' h1 k1 hne g e1 e2
   ·rw [k1] at e2;cases e2
  ·rw [h1] at e1;cases e1
theorem own_setAt {w:World} {lo e size n g cap:Nat} {xs:List Value} (h:w.ownsRow lo e size (.slice (some ⟨g,0,none⟩) n cap) n xs) (i:Nat) (u:Value):(w.setCell ⟨g,i,none⟩ u).ownsRow lo e size (.slice (some ⟨g,0,none⟩) n cap) n (xs.set i u):=by
 refine⟨by rw [List.length_set];exact h.1,.inr ?_⟩
 rcases h.2 with ⟨h1,_⟩ | ⟨g',cap',cur,e1,h2,h3,h4,h5,h6,h7⟩
 ·cases h1
 ·cases e1
  refine⟨g,cap,cur.setIfInBounds i u,rfl,h2,?_,h4,h5,by simp [h6],?_⟩
  ·simp [World.setCell,Array.getElem?_modify,h3]
  ·rw [Array.toList_setIfInBounds,List.take_set,h7]
theorem own_form {w:World} {lo e size n:Nat} {v:Value} {xs:List Value} (h:w.ownsRow lo e size v n xs) (hn:0<n):∃ g cap,v=.slice (some ⟨g,0,none⟩) n cap∧lo≤g∧g<w.heap.size∧n≤cap∧(∀ i,w.frozen? ⟨g,i,none⟩=false)∧(∀ i,i<n * size→w.cell? ⟨g,i,none⟩=xs[i]?):=by
 rcases h.2 with ⟨_,h1⟩ | ⟨g,cap,cur,e1,h2,h3,h4,h5,h6,h7⟩
 ·omega
 ·refine⟨g,cap,e1,h2,(Array.getElem?_eq_some_iff.1 h3).1,h4,fun i=>by simp [World.frozen?,h3],fun i hi=>?_⟩
  rw [show w.cell? ⟨g,i,none⟩=cur[i]? by simp [World.cell?,h3],← h7,List.getElem?_take,if_pos hi]
  simp
theorem grown_cell (w:World) (g i:Nat) (u:Value):w.grownBy (w.setCell ⟨g,i,none⟩ u) (some g):=grown_setCell w g i u
def rowN (N:List (List Int)) (j:Nat):List Int:=N.getD j []
theorem rowN_out (N:List (List Int)) (j:Nat) (h:N.length≤j):rowN N j=[]:=by simp [rowN,List.getD,List.getElem?_eq_none h]
theorem rowN_map (N:List (List Int)) (f:List Int→List Int) (j:Nat) (h:j<N.length):rowN (N.map f) j=f (rowN N j):=by
 simp [rowN,List.getD,h]
theorem rowN_app (N:List (List Int)) (l:List Int) (j:Nat) (h:j<N.length):rowN (N++[l]) j=rowN N j:=by
 simp [rowN,List.getD,List.getElem?_append_left h]
theorem rowN_last (N:List (List Int)) (l:List Int):rowN (N++[l]) N.length=l:=by simp [rowN,List.getD]
theorem rowN_set (N:List (List Int)) (l:List Int) (i j:Nat) (h:i<N.length):rowN (N.set i l) j=if j=i then l else rowN N j:=by
 by_cases e:j=i
 ·subst e;simp [rowN,List.getD,h]
 ·have e':¬ i=j:=fun x=>e x.symm
  simp [rowN,List.getD,List.getElem?_set,e,e']
theorem rows_ext {N M:List (List Int)} (h:N.length=M.length) (h2:∀ j,j<N.length→rowN N j=rowN M j):N=M:=by
 apply List.ext_getElem h
 intro j h1 h3
 have:=h2 j h1
 simpa [rowN,List.getD,h1,h3] using this
def Edges (n:Nat) (N:List (List Int)):Prop:=∀ j x,x∈rowN N j→0≤x∧x<n
def addN (acc:List Int) (x:Int):List Int:=if x∈acc then acc else acc++[x]
def onceF (l:List Int):List Int:=l.foldl addN []
theorem once_snoc (l:List Int) (k:Nat) (h:k<l.length):onceF (l.take (k+1))=addN (onceF (l.take k)) (nth l k):=by
 unfold onceF;rw [take_snoc l k h,List.foldl_append];rfl
theorem addN_mem (acc:List Int) (x y:Int):y∈addN acc x↔y∈acc∨y=x:=by
 unfold addN;split
 ·rename_i h;exact⟨.inl,fun h'=>by rcases h' with h' | rfl <;> assumption⟩
 ·simp
theorem addN_nodup (acc:List Int) (x:Int) (h:acc.Nodup):(addN acc x).Nodup:=by
 unfold addN;split
 ·exact h
 ·rename_i hx
  rw [List.nodup_append]
  exact⟨h,by simp,fun a ha b hb e=>by simp at hb;subst hb;subst e;exact hx ha⟩
theorem addN_len (acc:List Int) (x:Int):(addN acc x).length≤acc.length+1:=by
 unfold addN;split <;> simp
theorem once_fold (l acc:List Int) (h:acc.Nodup):(l.foldl addN acc).Nodup∧(∀ y,y∈l.foldl addN acc↔y∈acc∨y∈l)∧(l.foldl addN acc).length≤acc.length+l.length:=by
 induction l generalizing acc with
 | nil=>simp [h]
 | cons x l ih =>
  obtain⟨h1,h2,h3⟩:=ih (addN acc x) (addN_nodup acc x h)
  refine⟨h1,fun y=>?_,?_⟩
  ·rw [List.foldl_cons,h2,addN_mem,List.mem_cons,or_assoc]
  ·have:=addN_len acc x
   rw [List.foldl_cons,List.length_cons];omega
theorem once_nodup (l:List Int):(onceF l).Nodup:=(once_fold l [] (by simp)).1
theorem once_mem (l:List Int) (y:Int):y∈onceF l↔y∈l:=by
 have:=(once_fold l [] (by simp)).2.1 y
 simpa [onceF] using this
theorem once_len (l:List Int):(onceF l).length≤l.length:=by
 have:=(once_fold l [] (by simp)).2.2
 simpa [onceF] using this
def madeQ (N:List (List Int)) (k:Nat):List (List Int):=(List.range N.length).map fun j=>if j<k then onceF (rowN N j) else []
theorem madeQ_len (N:List (List Int)) (k:Nat):(madeQ N k).length=N.length:=by simp [madeQ]
theorem madeQ_row (N:List (List Int)) (k j:Nat) (h:j<N.length):rowN (madeQ N k) j=if j<k then onceF (rowN N j) else []:=by
 show (madeQ N k).getD j []=_
 unfold madeQ
 rw [List.getD_eq_getElem?_getD,List.getElem?_map,List.getElem?_range h]
 rfl
theorem madeQ_zero (N:List (List Int)):madeQ N 0=List.replicate N.length []:=by
 apply rows_ext (by simp [madeQ])
 intro j hj
 rw [madeQ_len] at hj
 rw [madeQ_row N 0 j hj]
 simp [rowN,List.getD,List.getElem?_replicate,hj]
theorem madeQ_set (N:List (List Int)) (k:Nat) (h:k<N.length):(madeQ N k).set k (onceF (rowN N k))=madeQ N (k+1):=by
 apply rows_ext (by simp [madeQ])
 intro j hj
 rw [List.length_set,madeQ_len] at hj
 rw [rowN_set _ _ _ _ (by rw [madeQ_len];exact h),madeQ_row N k j hj,madeQ_row N (k+1) j hj]
 by_cases e:j=k
 ·subst e;simp
 ·rw [if_neg e]
  by_cases e2:j<k
  ·rw [if_pos e2,if_pos (by omega)]
  ·rw [if_neg e2,if_neg (by omega)]
theorem madeQ_whole (N:List (List Int)):madeQ N N.length=N.map onceF:=by
 apply rows_ext (by simp [madeQ])
 intro j hj
 rw [madeQ_len] at hj
 rw [madeQ_row _ _ _ hj,if_pos hj,rowN_map N onceF j hj]
theorem nodup_lenG:∀ (n:Nat) (l:List Int),l.Nodup→(∀ x∈l,0≤x∧x<n)→l.length≤n
 | 0,l,_,h=>by
  cases l with
  | nil=>simp
  | cons x l=>have:=h x (by simp);omega
 | n+1,l,hd,h=>by
  by_cases hm:(n:Int)∈l
  ·have h1:=nodup_lenG n (l.erase (n:Int)) (hd.erase _) (fun x hx=>by
    have hx':=(List.Nodup.mem_erase_iff hd).1 hx
    have:=h x hx'.2
    have:=hx'.1
    omega)
   rw [List.length_erase_of_mem hm] at h1
   omega
  ·have:=nodup_lenG n l hd (fun x hx=>by
    have:=h x hx
    have:x≠(n:Int):=fun e=>hm (e ▸ hx)
    omega)
   omega
def aheadT (N:List (List Int)) (k:Nat) (j:Int):List Int:=((List.range k).filter fun i=>j∈rowN N i).map Int.ofNat
theorem aheadT_succ (N:List (List Int)) (k:Nat) (j:Int):aheadT N (k+1) j=aheadT N k j++(if j∈rowN N k then [(k:Int)] else []):=by
 unfold aheadT
 rw [List.range_succ,List.filter_append,List.map_append]
 congr 1
 by_cases h:j∈rowN N k <;> simp [h]
def aheadF (N:List (List Int)) (j:Int):List Int:=aheadT N N.length j
def aheadR (N:List (List Int)):List (List Int):=(List.range N.length).map fun (j:Nat)=>aheadF N (j:Int)
theorem aheadR_len (N:List (List Int)):(aheadR N).length=N.length:=by simp [aheadR]
theorem aheadR_row (N:List (List Int)) (j:Nat) (h:j<N.length):rowN (aheadR N) j=aheadF N (j:Int):=by simp [rowN,aheadR,List.getD,h]
theorem aheadT_mem (N:List (List Int)) (k:Nat) (j x:Int):x∈aheadT N k j↔∃ i:Nat,i<k∧j∈rowN N i∧x=(i:Int):=by
 unfold aheadT
 simp only [List.mem_map,List.mem_filter,List.mem_range,decide_eq_true_eq]
 constructor
 ·rintro⟨i,⟨h1,h2⟩,rfl⟩;exact⟨i,h1,h2,rfl⟩
 ·rintro⟨i,h1,h2,rfl⟩;exact⟨i,⟨h1,h2⟩,rfl⟩
theorem aheadT_len (N:List (List Int)) (k:Nat) (j:Int):(aheadT N k j).length≤k:=by
 unfold aheadT
 rw [List.length_map]
 exact Nat.le_trans (List.length_filter_le _ _) (by simp)
def aheadQ (N:List (List Int)) (k q:Nat):List (List Int):=(List.range N.length).map fun (j:Nat)=>aheadT N k (j:Int)++(if (j:Int)∈(rowN N k).take q then [(k:Int)] else [])
theorem aheadQ_len (N:List (List Int)) (k q:Nat):(aheadQ N k q).length=N.length:=by simp [aheadQ]
theorem aheadQ_row (N:List (List Int)) (k q j:Nat) (h:j<N.length):rowN (aheadQ N k q) j=aheadT N k (j:Int)++(if (j:Int)∈(rowN N k).take q then [(k:Int)] else []):=by
 show (aheadQ N k q).getD j []=_
 unfold aheadQ
 rw [List.getD_eq_getElem?_getD,List.getElem?_map,List.getElem?_range h]
 rfl
theorem aheadQ_start (N:List (List Int)):aheadQ N 0 0=List.replicate N.length []:=by
 apply rows_ext (by simp [aheadQ])
 intro j hj
 rw [aheadQ_len] at hj
 rw [aheadQ_row N 0 0 j hj]
 simp [aheadT,rowN,List.getD,List.getElem?_replicate,hj]
theorem aheadQ_end (N:List (List Int)) (k:Nat):aheadQ N k (rowN N k).length=aheadQ N (k+1) 0:=by
 apply rows_ext (by simp [aheadQ])
 intro j hj
 rw [aheadQ_len] at hj
 rw [aheadQ_row _ _ _ j hj,aheadQ_row _ _ _ j hj,aheadT_succ,List.take_length]
 simp
theorem aheadQ_whole (N:List (List Int)):aheadQ N N.length 0=aheadR N:=by
 apply rows_ext (by simp [aheadQ,aheadR])
 intro j hj
 rw [aheadQ_len] at hj
 rw [aheadQ_row _ _ _ j hj,aheadR_row N j hj]
 simp [aheadF]
theorem aheadQ_step (N:List (List Int)) (k q t:Nat) (hd:(rowN N k).Nodup) (hq:q<(rowN N k).length) (ht:nth (rowN N k) q=(t:Int)) (htl:t<N.length) :
  (aheadQ N k q).set t (rowN (aheadQ N k q) t++[(k:Int)])=aheadQ N k (q+1):=by
 apply rows_ext (by simp [aheadQ])
 intro j hj
 rw [List.length_set,aheadQ_len] at hj
 rw [rowN_set _ _ _ _ (by rw [aheadQ_len];exact htl),aheadQ_row N k q j hj,aheadQ_row N k q t htl,aheadQ_row N k (q+1) j hj,take_snoc _ _ hq,ht]
 have hnot:¬ (t:Int)∈(rowN N k).take q:=by
  have h1:=take_snoc (rowN N k) q hq
  have h2:((rowN N k).take (q+1)).Nodup:=hd.sublist (List.take_sublist _ _)
  rw [h1,ht,List.nodup_append] at h2
  exact fun h=>h2.2.2 _ h _ (by simp) rfl
 by_cases e:j=t
 ·subst e
  simp [hnot]
 ·have e2:¬ (j:Int)=(t:Int):=by omega
  simp [e,e2,aheadQ_row _ _ _ j hj]
/-! ### the walk -/
abbrev WalkS:=List Int×List Int
def stepD (f:Int→WalkS→WalkS) (s:WalkS) (j:Int):WalkS:=if j∈s.1 then s else f j s
def dfs (N:List (List Int)):Nat→Int→WalkS→WalkS
 | 0,_,s=>s
 | f+1,i,s=>(((rowN N i.toNat).foldl (stepD (dfs N f)) (s.1++[i],s.2)).1,((rowN N i.toNat).foldl (stepD (dfs N f)) (s.1++[i],s.2)).2++[i])
def dfsK (N:List (List Int)) (f:Nat) (i:Int) (s:WalkS) (k:Nat):WalkS:=((rowN N i.toNat).take k).foldl (stepD (dfs N f)) (s.1++[i],s.2)
theorem dfsK_zero (N:List (List Int)) (f:Nat) (i:Int) (s:WalkS):dfsK N f i s 0=(s.1++[i],s.2):=rfl
theorem dfsK_succ (N:List (List Int)) (f:Nat) (i:Int) (s:WalkS) (k:Nat) (h:k<(rowN N i.toNat).length):dfsK N f i s (k+1)=stepD (dfs N f) (dfsK N f i s k) (nth (rowN N i.toNat) k):=by
 unfold dfsK;rw [take_snoc _ _ h,List.foldl_append];rfl
theorem dfs_succ (N:List (List Int)) (f:Nat) (i:Int) (s:WalkS):dfs N (f+1) i s=((dfsK N f i s (rowN N i.toNat).length).1,(dfsK N f i s (rowN N i.toNat).length).2++[i]):=by
 unfold dfsK;rw [List.take_length];rfl
def GoodC (n:Nat) (c:List Int):Prop:=c.Nodup∧∀ x∈c,0≤x∧x<n
theorem GoodC.len {n:Nat} {c:List Int} (h:GoodC n c):c.length≤n:=nodup_lenG n c h.1 h.2
theorem GoodC.snoc {n:Nat} {c:List Int} (h:GoodC n c) {i:Int} (hi:i ∉ c) (h0:0≤i) (h1:i<n):GoodC n (c++[i]):=by
 refine⟨?_,fun x hx=>?_⟩
 ·rw [List.nodup_append]
  exact⟨h.1,by simp,fun a ha b hb e=>by simp at hb;subst hb;subst e;exact hi ha⟩
 ·rcases List.mem_append.1 hx with hx | hx
  ·exact h.2 x hx
  ·simp at hx;subst hx;exact⟨h0,h1⟩
def Ways (N:List (List Int)):Nat→Int→Int→Prop
 | 0,i,j=>i=j
 | k+1,i,j=>∃ m,Ways N k i m∧j∈rowN N m.toNat
def Reach (N:List (List Int)) (i j:Int):Prop:=∃ k,Ways N k i j
theorem Reach.refl (N:List (List Int)) (i:Int):Reach N i i:=⟨0,rfl⟩
theorem Reach.step {N:List (List Int)} {i m j:Int} (h:Reach N i m) (hj:j∈rowN N m.toNat):Reach N i j:=by
 obtain⟨k,hk⟩:=h;exact⟨k+1,m,hk,hj⟩
theorem Reach.trans {N:List (List Int)} {i m j:Int} (h:Reach N i m) (h2:Reach N m j):Reach N i j:=by
 obtain⟨k,hk⟩:=h2
 induction k generalizing j with
 | zero=>cases hk;exact h
 | succ k ih=>obtain⟨q,hq,hj⟩:=hk;exact (ih hq).step hj
theorem Reach.closed {N:List (List Int)} {c:List Int} {i j:Int} (h:Reach N i j) (hi:i∈c) (hc:∀ x∈c,∀ y∈rowN N x.toNat,y∈c):j∈c:=by
 obtain⟨k,hk⟩:=h
 induction k generalizing j with
 | zero=>cases hk;exact hi
 | succ k ih=>obtain⟨q,hq,hj⟩:=hk;exact hc q (ih hq) j hj
structure Seg (N : List (List Int)) (n : Nat) (s t : WalkS) (e d : List Int) : Prop where
  came : t.1 = s.1 ++ e
  left : t.2 = s.2 ++ d
  perm : d.Perm e
  good : GoodC n t.1
  closed : ∀ x ∈ e, ∀ y ∈ rowN N x.toNat, y ∈ t.1
theorem seg_nil {N:List (List Int)} {n:Nat} {s:WalkS} (h:GoodC n s.1):Seg N n s s [] [] :=
 ⟨by simp,by simp,List.Perm.refl _,h,fun x hx=>by simp at hx⟩
theorem Seg.trans {N:List (List Int)} {n:Nat} {s t u:WalkS} {e d e' d':List Int} (h:Seg N n s t e d) (k:Seg N n t u e' d'):Seg N n s u (e++e') (d++d'):=by
 refine⟨by rw [k.came,h.came,List.append_assoc],by rw [k.left,h.left,List.append_assoc],h.perm.append k.perm,k.good,fun x hx y hy=>?_⟩
 rcases List.mem_append.1 hx with hx | hx
 ·rw [k.came];exact List.mem_append.2 (.inl (h.closed x hx y hy))
 ·exact k.closed x hx y hy
def LedBy (N:List (List Int)) (js e:List Int):Prop:=∀ p x q,e=p++x :: q→(∃ y∈p,x∈rowN N y.toNat)∨x∈js
theorem LedBy.mono {N:List (List Int)} {js js' e:List Int} (h:LedBy N js e) (hs:∀ x∈js,x∈js'):LedBy N js' e:=fun p x q he=>by
 rcases h p x q he with h | h
 ·exact .inl h
 ·exact .inr (hs x h)
theorem LedBy.app {N:List (List Int)} {js e e':List Int} (h:LedBy N js e) (h':LedBy N js e'):LedBy N js (e++e'):=fun p x q he=>by
 rcases List.append_eq_append_iff.1 he with ⟨a,h1,h2⟩ | ⟨a,h1,h2⟩
 ·rcases h' a x q h2 with ⟨y,hy,hx⟩ | hx
  ·exact .inl ⟨y,by rw [h1];exact List.mem_append.2 (.inr hy),hx⟩
  ·exact .inr hx
 ·cases a with
  | nil =>
   simp at h2
   rcases h' [] x q (by rw [← h2];rfl) with ⟨y,hy,hx⟩ | hx
   ·simp at hy
   ·exact .inr hx
  | cons z a =>
   simp at h2
   obtain⟨rfl,h2⟩:=h2
   exact h p x a h1
theorem walk_all (N:List (List Int)) (n:Nat) (hE:Edges n N):∀ f,
  (∀ (js:List Int) (s:WalkS),GoodC n s.1→(∀ x∈js,(0:Int)≤x∧x<(n:Int))→n - s.1.length≤f→∃ e d,Seg N n s (js.foldl (stepD (dfs N f)) s) e d∧(∀ y∈js,y∈(js.foldl (stepD (dfs N f)) s).1)∧LedBy N js e) ∧
  (∀ (i:Int) (s:WalkS),GoodC n s.1→i ∉ s.1→0≤i→i<(n:Int)→n - s.1.length≤f→∃ e d,Seg N n s (dfs N f i s) (i :: e) d∧LedBy N [i] (i :: e)):=by
 intro f
 induction f with
 | zero =>
  have full:∀ s:WalkS,GoodC n s.1→n - s.1.length≤0→∀ x:Int,0≤x→x<(n:Int)→x∈s.1:=by
   intro s hg hl x h0 h1
   refine Decidable.byContradiction fun hx=>?_
   have:=(hg.snoc hx h0 h1).len
   simp at this;omega
  constructor
  ·intro js s hg hj hl
   have e:js.foldl (stepD (dfs N 0)) s=s:=by
    clear hl
    induction js with
    | nil=>rfl
    | cons x js ih =>
     have hx:stepD (dfs N 0) s x=s:=by unfold stepD;split <;> rfl
     rw [List.foldl_cons,hx]
     exact ih (fun y hy=>hj y (List.mem_cons_of_mem _ hy))
   rw [e]
   exact⟨[],[],seg_nil hg,fun y hy=>full s hg hl y (hj y hy).1 (hj y hy).2,fun p x q h=>by cases p <;> simp at h⟩
  ·intro i s hg hi h0 h1 hl
   exact absurd (full s hg hl i h0 h1) hi
 | succ f ih =>
  have call:∀ (i:Int) (s:WalkS),GoodC n s.1→i ∉ s.1→0≤i→i<(n:Int)→n - s.1.length≤f+1→∃ e d,Seg N n s (dfs N (f+1) i s) (i :: e) d∧LedBy N [i] (i :: e):=by
   intro i s hg hi h0 h1 hl
   obtain⟨e,d,hs,hin,hled⟩:=ih.1 (rowN N i.toNat) (s.1++[i],s.2) (hg.snoc hi h0 h1) (fun x hx=>hE _ x hx) (by simp;omega)
   generalize ht:(rowN N i.toNat).foldl (stepD (dfs N f)) (s.1++[i],s.2)=t at hs hin
   have e1:dfs N (f+1) i s=(t.1,t.2++[i]):=by rw [← ht];rfl
   rw [e1]
   refine⟨e,d++[i],⟨by rw [hs.came];simp,by rw [hs.left];simp,(hs.perm.append_right [i]).trans (by simp),hs.good,fun x hx y hy=>?_⟩,fun p x q he=>?_⟩
   ·rcases List.mem_cons.1 hx with rfl | hx
    ·exact hin y hy
    ·exact hs.closed x hx y hy
   ·cases p with
    | nil=>simp at he;exact .inr (by simp [he.1])
    | cons z p =>
     simp at he
     obtain⟨rfl,he⟩:=he
     rcases hled p x q he with ⟨y,hy,hx⟩ | hx
     ·exact .inl ⟨y,List.mem_cons_of_mem _ hy,hx⟩
     ·exact .inl ⟨i,by simp,hx⟩
  refine⟨?_,call⟩
  intro js
  induction js with
  | nil=>intro s hg _ _;exact⟨[],[],seg_nil hg,fun y hy=>by simp at hy,fun p x q h=>by cases p <;> simp at h⟩
  | cons j js ihj =>
   intro s hg hj hl
   have hj':∀ x∈js,(0:Int)≤x∧x<(n:Int):=fun y hy=>hj y (List.mem_cons_of_mem _ hy)
   rw [List.foldl_cons]
   by_cases hm:j∈s.1
   ·have e1:stepD (dfs N (f+1)) s j=s:=if_pos hm
    rw [e1]
    obtain⟨e,d,hs,hin,hled⟩:=ihj s hg hj' hl
    refine⟨e,d,hs,fun y hy=>?_,hled.mono fun x hx=>List.mem_cons_of_mem _ hx⟩
    rcases List.mem_cons.1 hy with rfl | hy
    ·rw [hs.came];exact List.mem_append.2 (.inl hm)
    ·exact hin y hy
   ·have e1:stepD (dfs N (f+1)) s j=dfs N (f+1) j s:=if_neg hm
    rw [e1]
    obtain⟨e,d,hs,hled⟩:=call j s hg hm (hj j (by simp)).1 (hj j (by simp)).2 hl
    obtain⟨e',d',hs',hin',hled'⟩:=ihj (dfs N (f+1) j s) hs.good hj' (by rw [hs.came];simp;omega)
    refine⟨_,_,hs.trans hs',fun y hy=>?_,LedBy.app (hled.mono fun x hx=>?_) (hled'.mono fun x hx=>List.mem_cons_of_mem _ hx)⟩
    ·rcases List.mem_cons.1 hy with rfl | hy
     ·rw [hs'.came,hs.came];simp
     ·exact hin' y hy
    ·simp at hx;simp [hx]
theorem led_reach {N:List (List Int)} {i:Int} {e:List Int} (h:LedBy N [i] e):∀ x∈e,Reach N i x:=by
 have key:∀ k p x q,p.length≤k→e=p++x :: q→Reach N i x:=by
  intro k
  induction k with
  | zero =>
   intro p x q hp he
   have:p=[]:=List.eq_nil_of_length_eq_zero (by omega)
   subst this
   rcases h [] x q he with ⟨y,hy,_⟩ | hx
   ·simp at hy
   ·simp at hx;subst hx;exact Reach.refl _ _
  | succ k ih =>
   intro p x q hp he
   rcases h p x q he with ⟨y,hy,hx⟩ | hx
   ·obtain⟨a,b,rfl⟩:=List.append_of_mem hy
    have:=ih a y (b++x :: q) (by simp at hp;omega) (by rw [he];simp)
    exact this.step hx
   ·simp at hx;subst hx;exact Reach.refl _ _
 intro x hx
 obtain⟨p,q,rfl⟩:=List.append_of_mem hx
 exact key p.length p x q (Nat.le_refl _) rfl
def walkF (N:List (List Int)):WalkS:=dfs N N.length 0 ([],[])
structure GrWalkQ (N : List (List Int)) (t : WalkS) : Prop where
  good : GoodC N.length t.1
  perm : t.2.Perm t.1
  mem : ∀ x, x ∈ t.1 ↔ Reach N 0 x
  first : ∃ e, t.1 = 0 :: e
  closed : ∀ x ∈ t.1, ∀ y ∈ rowN N x.toNat, y ∈ t.1
  led : LedBy N [0] t.1
theorem walkF_all (N:List (List Int)) (hE:Edges N.length N) (h0:0<N.length):GrWalkQ N (walkF N):=by
 obtain⟨e,d,hs,hl⟩:=(walk_all N N.length hE N.length).2 0 ([],[]) ⟨by simp,fun x hx=>by simp at hx⟩ (by simp) (by omega) (by omega) (by simp)
 have hc:(walkF N).1=0 :: e:=by have:=hs.came;simpa [walkF] using this
 have hd:(walkF N).2=d:=by have:=hs.left;simpa [walkF] using this
 have hcl:∀ x∈(walkF N).1,∀ y∈rowN N x.toNat,y∈(walkF N).1:=fun x hx y hy=>hs.closed x (by rw [← hc];exact hx) y hy
 refine⟨hs.good,by rw [hd,hc];exact hs.perm,fun x=>⟨fun hx=>?_,fun hx=>?_⟩,⟨e,hc⟩,hcl,by rw [hc];exact hl⟩
 ·rw [hc] at hx;exact led_reach hl x hx
 ·exact hx.closed (by rw [hc];simp) hcl
theorem append_run {P:Program} (w:World) {ops:Array Oper} {rest:List Oper} {o:Oper} {a:Act} {Q:Exit→Act→World→Prop}
  (hg:o.guard=none) (s x:Operand) (t:TypeId) (hop:o.op=Op.call { callee:=Callee.builtin Builtin.append,args:=#[s,x],argTypes:=#[t,t] })
  (v xv v':Value) (w':World) (hs:a.eval s=v) (hx:a.eval x=xv) (hrun:∀ ty,(Builtin.append_ #[t,t] ty #[v,xv]).run P w=.ok v' w') (hK:wpList P ops Q rest (a.put o.dst v') w') :
  wpList P ops Q (o :: rest) a w:=by
 refine wpList_plain hg fun K hK'=>?_
 unfold Oper.wp
 simp [execOp,hop,resolve,invoke,builtin,hs,hx,hrun,Result.andThen]
 exact hK' _ _ hK
theorem run_append_nothing {P:Program} (w:World) (t ty e:TypeId) (i:TypeInfo) (ht:P.underlying t=some (.slice e)) (hi:P.info? e=some i) (b:Option Addr) (n cap:Nat) (hn:n≤cap) (a:Option Addr) (c:Nat) :
  (Builtin.append_ #[t,t] ty #[.slice b n cap,.slice a 0 c]).run P w=.ok (.slice b n cap) w:=by
 cases a with
 | none=>cases b <;> simp [Builtin.append_,run_underlying ht,sizeOf,typeInfo,hi,Builtin.lenOf,hn,Builtin.firstCells,storeCells]
 | some a =>
  have hl:(loadCells a 0).run P w=.ok #[] w:=run_loadCells_list (P:=P) w a [] (fun j v hj=>by simp at hj)
  cases b <;> simp [Builtin.append_,run_underlying ht,sizeOf,typeInfo,hi,Builtin.lenOf,hn,Builtin.firstCells,hl,storeCells]
end Go.Proofs.YtlcaedibmlidlaaGreat
