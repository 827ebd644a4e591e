/-
  Texts in one: Math, Math3, MathF, Draw, DrawAppend, Rdr, Raws, Ref02At, KitWords, Law02Raws, KitSpoilWords, Law02Apart, Switch, TabG, MathG, Ref03Form, Ref03Of, GrammarTexts.
-/
import Derived.WalkKit
import Derived.Laws.BitsAllLaws
import Derived.WalkSmall
import Derived.OpenShut
import Derived.ProofKit
import Derived.Laws.BytesArg
import Derived.OrdersIn
import Derived.RangeFuncNested
import Derived.Deep.AppendLies
import Derived.Maps.AppendAt
import Derived.Maps.Range
import Derived.OneCell
import Derived.WalkSpells
import Derived.BigRegion
import Derived.Deep.RegionLaw
import Derived.Deep.DrawnRows
import Derived.Test.YtonhnflilfjkbaaGreatProg
import Derived.Deep.QuietTactic
import Derived.BigQuiet
namespace Go.Proofs.YtonhnflilfjkbaaGreat
open Go.RowKit
theorem ret_int {k:IntKind} {a b:Int} (h:a=b):Ending.returned (.int k a)=.returned (.int k b):=by rw [h]
def nth (zs:List Int) (k:Nat):Int:=zs.getD k 0
def byt (x:Int) (p:Nat):Int:=x / 256 ^ p % 256
theorem or_u32 (a b s:Nat) (hb:b<2 ^ s) (h:a * 2 ^ s+b<4294967296):bits .or .u32 ((a * 2 ^ s:Nat):Int) (b:Int)=((a * 2 ^ s+b:Nat):Int):=by
 rw [u32_or_nat _ _ (by omega) (by omega),← Nat.shiftLeft_eq,Nat.shiftLeft_add_eq_or_of_lt hb]
theorem or_u32' (a b s:Nat) (hb:b<2 ^ s) (h:a * 2 ^ s+b<4294967296):bits .or .u32 (b:Int) ((a * 2 ^ s:Nat):Int)=((a * 2 ^ s+b:Nat):Int):=by
 rw [u32_or_nat _ _ (by omega) (by omega),Nat.or_comm,← Nat.shiftLeft_eq,Nat.shiftLeft_add_eq_or_of_lt hb]
theorem or_high (a b : Int) (s : Nat) (ha : 0 ≤ a) (hb0 : 0 ≤ b) (hb : b < 2 ^ s) (h : a * 2 ^ s + b < 4294967296) : bits .or .u32 (a * 2 ^ s) b = a * 2 ^ s + b := by
  obtain ⟨m, rfl⟩ := Int.eq_ofNat_of_zero_le ha
  obtain ⟨n, rfl⟩ := Int.eq_ofNat_of_zero_le hb0
  have e : ((m : Int) * 2 ^ s) = ((m * 2 ^ s : Nat) : Int) := by simp
  rw [e] at h ⊢
  rw [or_u32 m n s (by have : ((n : Nat) : Int) < ((2 ^ s : Nat) : Int) := by simpa using hb
                       omega) (by omega)]
  simp
theorem or_low (a b : Int) (s : Nat) (ha : 0 ≤ a) (hb0 : 0 ≤ b) (hb : b < 2 ^ s) (h : a * 2 ^ s + b < 4294967296) : bits .or .u32 b (a * 2 ^ s) = b + a * 2 ^ s := by
  obtain ⟨m, rfl⟩ := Int.eq_ofNat_of_zero_le ha
  obtain ⟨n, rfl⟩ := Int.eq_ofNat_of_zero_le hb0
  have e : ((m : Int) * 2 ^ s) = ((m * 2 ^ s : Nat) : Int) := by simp
  rw [e] at h ⊢
  rw [or_u32' m n s (by have : ((n : Nat) : Int) < ((2 ^ s : Nat) : Int) := by simpa using hb
                        omega) (by omega)]
  simp; omega
/-! ### lists of words and bytes -/

def four (x:Int):List Int:=[byt x 0,byt x 1,byt x 2,byt x 3]
theorem take_snoc (zs:List Int) (k:Nat) (h:k<zs.length):zs.take (k+1)=zs.take k++[nth zs k]:=by
 rw [List.take_succ_eq_append_getElem h];simp [nth,List.getD,h]
def View (k:IntKind) (w:World) (a:Option Addr) (zs:List Int):Prop :=
 ∀ j,j<zs.length→∃ b off,a=some ⟨b,off,none⟩∧b<w.heap.size∧w.cell? ⟨b,off+j,none⟩=some (.int k (nth zs j))
def Within (m:Int) (zs:List Int):Prop:=∀ z∈zs,0≤z∧z<m
theorem Within.at {m:Int} {zs:List Int} (h:Within m zs) {k:Nat} (hk:k<zs.length):0≤nth zs k∧nth zs k<m:=by
 have e:nth zs k=zs[k]:=by simp [nth,List.getD,hk]
 rw [e];exact h _ (List.getElem_mem hk)
theorem View.below {k:IntKind} {w w':World} {a:Option Addr} {zs:List Int} (h:View k w a zs) (hb:Below w.heap.size w w'):View k w' a zs:=by
 intro j hj
 obtain⟨b,off,e,hlt,hc⟩:=h j hj
 exact⟨b,off,e,Nat.lt_of_lt_of_le hlt hb.size,(hb.cell (p:=⟨b,off+j,none⟩) hlt).trans hc⟩
theorem bel_drewN {B:Nat} {a w:World} (h:Below B a w) (n:Nat):Below B a (w.drewN n):=h.trans ⟨rfl,rfl,rfl,Nat.le_refl _,fun _ _=>rfl⟩
theorem View.ofRow {k:IntKind} {w:World} {B e g n cap:Nat} {zs:List Int} (h:w.ownsRow B e 1 (.slice (some ⟨g,0,none⟩) n cap) n (zs.map (Value.int k))) (hl:zs.length=n):View k w (some ⟨g,0,none⟩) zs:=by
 intro j hj
 have hc:=h.cellAt j (by omega)
 have e:(zs.map (Value.int k))[j]?=some (.int k (nth zs j)):=by simp [nth,List.getD,hj]
 rw [e] at hc
 exact⟨g,0,rfl,World.block_lt_of_cell? _ _ hc,by rw [Nat.zero_add];exact hc⟩
theorem own_below {w w':World} {B e size n:Nat} {v:Value} {xs:List Value} (h:w.ownsRow B e size v n xs) (hb:Below w.heap.size w w'):w'.ownsRow B e size v n xs:=by
 refine⟨h.1,?_⟩
 rcases h.2 with hn | ⟨g,cap,cur,rfl,hg,hgg,rest⟩
 ·exact .inl hn
 ·exact .inr ⟨g,cap,cur,rfl,hg,by rw [hb.block g (Array.getElem?_eq_some_iff.1 hgg).1];exact hgg,rest⟩
theorem view_nil {k:IntKind} {w:World} {a:Option Addr}:View k w a []:=fun j hj=>by simp at hj
theorem within_take {m:Int} {zs:List Int} {n:Nat} (h:∀ z∈zs,0≤z∧z<m):Within m (zs.take n):=fun z hz=>h z (List.mem_of_mem_take hz)
theorem view_take {k:IntKind} {w:World} {x:Addr} {zs:List Int} {n:Nat} (hcell:∀ i,i<zs.length→w.cell? (x.add i)=some (.int k (nth zs i))) (hn:n≤zs.length):View k w (some x) (zs.take n):=by
 intro j hj
 rw [List.length_take] at hj
 have hc0:=hcell 0 (by omega)
 have hc:=hcell j (by omega)
 obtain⟨b,off,spot⟩:=x
 have hs:spot=none:=by simpa [Addr.add] using World.cell?_spot hc0
 subst hs
 have hc':w.cell? ⟨b,off+j,none⟩=some (.int k (nth zs j)):=by rw [← Addr.add_lit];exact hc
 refine⟨b,off,rfl,World.block_lt_of_cell? _ _ hc',?_⟩
 rw [hc']
 simp [nth,List.getD,show j<n by omega]
/-! ### a row that is filled from its head on -/

def filled (zs:List Int) (k n:Nat):List Int:=zs.take k++List.replicate (n - k) 0
theorem filled_len (zs:List Int) (k n:Nat) (hk:k≤n) (hz:k≤zs.length):(filled zs k n).length=n:=by
 simp only [filled,List.length_append,List.length_take,List.length_replicate];omega
theorem filled_whole (zs:List Int) (n:Nat) (hz:zs.length=n):filled zs n n=zs:=by
 subst hz;simp [filled]
theorem filled_zero (zs:List Int) (n:Nat):filled zs 0 n=List.replicate n 0:=by simp [filled]
theorem filled_at (zs:List Int) (k n:Nat) (hk:k<n) (hz:k≤zs.length):(filled zs k n)[k]?=some 0:=by
 have e:(zs.take k).length=k:=by rw [List.length_take];omega
 rw [filled,List.getElem?_append_right (by omega),e,Nat.sub_self]
 simp [show 0<n - k by omega]
theorem filled_set (zs:List Int) (k n:Nat) (hk:k<n) (hz:k<zs.length):(filled zs k n).set k (nth zs k)=filled zs (k+1) n:=by
 have e:(zs.take k).length=k:=by rw [List.length_take];omega
 rw [filled,filled,List.set_append_right _ _ (by omega),e,Nat.sub_self,take_snoc zs k hz,List.append_assoc]
 congr 1
 rw [show n - k=(n - (k+1))+1 by omega,List.replicate_succ]
 simp
theorem made_row {w:World} {B e:Nat} {v:Value} {n:Nat} {k:IntKind} (zs:List Int) (h:w.ownsRow B e 1 v n (madeCells #[Value.int k 0] n).toList):w.ownsRow B e 1 v n ((filled zs 0 n).map (Value.int k)):=by
 have e1:(madeCells #[Value.int k 0] n).toList=(filled zs 0 n).map (Value.int k):=by
  rw [filled_zero,List.map_replicate]
  exact toList_madeCells_one (.int k 0) n
 rw [← e1];exact h
theorem fill_step {w:World} {B e g n:Nat} {k:IntKind} {zs:List Int} {i:Nat} (h:w.ownsRow B e 1 (.slice (some ⟨g,0,none⟩) n n) n ((filled zs i n).map (Value.int k))) (hi:i<n) (hz:i<zs.length) :
  w.cell? ⟨g,i,none⟩=some (.int k 0)∧w.frozen? ⟨g,i,none⟩=false∧(w.setCell ⟨g,i,none⟩ (.int k (nth zs i))).ownsRow B e 1 (.slice (some ⟨g,0,none⟩) n n) n ((filled zs (i+1) n).map (Value.int k)):=by
 refine⟨?_,h.frozenAt i,?_⟩
 ·rw [h.cellAt i (by omega),List.getElem?_map,filled_at zs i n hi (by omega)];rfl
 ·have:=h.stored i (.int k (nth zs i))
  rw [← List.map_set,filled_set zs i n hi hz] at this
  exact this.1
/-! ### bytes to words -/

def cntN (zs:List Int) (p:Nat):Nat:=(nth zs p).toNat / 65536
def badB (zs:List Int) (p:Nat):Bool:=cntN zs p==0 || decide (zs.length<p+cntN zs p)
def restF (zs:List Int):Nat→Nat→List Nat
 | 0,_=>[]
 | f+1,p=>if p<zs.length then (if badB zs p then [] else p :: restF zs f (p+cntN zs p)) else []
def rest (zs:List Int) (p:Nat):List Nat:=restF zs (zs.length - p) p
set_option linter.unusedVariables false
section
variable {F : Fence} {n : Nat} {P : Program} {md : Region.Mode} {ops : Array Oper} {C : World → Prop} {Q : Exit → Act → World → Prop}

def wpAnyC (F:Fence) (n:Nat) (P:Program) (md:Region.Mode) (ops:Array Oper) (C:World→Prop) (Q:Exit→Act→World→Prop):Nat→Array Bool→Act→World→Prop
 | 0,listed,a,w=>Region.ready md ops listed=[]∧Q .normal a w
 | fuel+1,listed,a,w=>(Region.ready md ops listed=[]→Q .normal a w)∧∀ i∈Region.ready md ops listed,wpOpIn F n P ops Q i (fun a' w'=>C w'∧wpAnyC F n P md ops C Q fuel (listed.setIfInBounds i true) a' w') a w
def AllC (F:Fence) (n:Nat) (P:Program) (md:Region.Mode) (ops:Array Oper) (C:World→Prop) (Q:Exit→Act→World→Prop) (fuel:Nat) (listed:Array Bool) (a:Act) (w:World) (rs:List Nat):Prop :=
 ∀ i∈rs,wpOpIn F n P ops Q i (fun a' w'=>C w'∧wpAnyC F n P md ops C Q fuel (listed.setIfInBounds i true) a' w') a w
theorem AllC.nil {fuel:Nat} {listed:Array Bool} {a:Act} {w:World}:AllC F n P md ops C Q fuel listed a w []:=fun _ h=>by cases h
end

theorem ap1 {α:Type _} (l:List α) (i:Nat) (a:α):l.toArray.setIfInBounds i a=(l.set i a).toArray:=by simp
theorem ap2 {α:Type _} (x a:α) (l:List α) (n:Nat):(x::l).set (n+1) a=x::l.set n a:=rfl
theorem ap3 {α:Type _} (x a:α) (l:List α):(x::l).set 0 a=a::l:=rfl


theorem View.drew {k:IntKind} {w:World} {a:Option Addr} {zs:List Int} (h:View k w a zs) (q:Nat):View k (w.drewN q) a zs:=h.below (bel_drewN (Below.refl _ _) q)
theorem own_base {w:World} {B B' e size n:Nat} {v:Value} {xs:List Value} (h:w.ownsRow B e size v n xs) (hb:B'≤B):w.ownsRow B' e size v n xs:=by
 refine⟨h.1,?_⟩
 rcases h.2 with hn | ⟨g,cap,cur,rfl,hg,rest⟩
 ·exact .inl hn
 ·exact .inr ⟨g,cap,cur,rfl,Nat.le_trans hb hg,rest⟩
set_option maxRecDepth 10000
set_option maxHeartbeats 400000 in
theorem words_true (a b:Option Addr) (n ca cb:Nat) (zs:List Int) (w:World) (ha:View .u32 w a zs) (hb:View .u32 w b zs) (hl:zs.length=n) (hn:n≤140737488351232) :
  Calls Tryz.prog 7 #[.slice a n ca,.slice b n cb] w fun e w'=>e=.returned (.bool true)∧∃ q,w'=w.drewN q:=by
 have HL:Hid (zs.length=n):=hl
 clear hl
 go_enter Tryz.func7,Tryz.ntmps7
 go_wp2
 go_loopw [5] (fun i wr=>∃ k q:Nat,k≤n∧i=.int .i64 k∧wr=w.drewN q) (fun i _=>n - (intOf i).toNat)
 case atStart=>exact⟨0,0,Nat.zero_le _,rfl,rfl⟩
 case round =>
  obtain⟨k,q,hk,rfl,rfl⟩:=hrel
  by_cases hlt:k<n
  ·obtain⟨b1,o1,rfl,_,c1⟩:=ha k (by rw [HL.out];exact hlt)
   obtain⟨b2,o2,rfl,_,c2⟩:=hb k (by rw [HL.out];exact hlt)
   have hk0:(0:Int)≤(k:Int):=by omega
   have hki:(k:Int)<(n:Int):=by omega
   clear ha hb
   go_wp2
   go_quiet (fail)
   go_wp2
   go_roundw
   case rel=>exact⟨k+1,_,by omega,by go_num,rfl⟩
   case measure=>simp [intOf];omega
  ·go_wp2
   go_ret
   exact⟨rfl,q,rfl⟩
theorem quiet_words {a b:Option Addr} {n ca cb:Nat} {zs:List Int} {w:World} (ha:View .u32 w a zs) (hb:View .u32 w b zs) (hl:zs.length=n) (hn:n≤140737488351232) (q:Nat) :
  Calls Tryz.prog 7 #[.slice a n ca,.slice b n cb] (w.drewN q) fun e w'=>e=.returned (.bool true)∧∃ m,w'=w.drewN m:=by
 refine (words_true a b n ca cb zs (w.drewN q) (ha.drew q) (hb.drew q) hl hn).mono ?_
 rintro e w' ⟨he,m,hm⟩
 exact⟨he,q+m,by rw [hm,World.drewN_drewN]⟩
set_option maxHeartbeats 400000 in
theorem spoil_keep (g n cap B:Nat) (zs:List Int) (w:World) (hown:w.ownsRow B 34 1 (.slice (some ⟨g,0,none⟩) n cap) n (zs.map (Value.int .u32))) (hl:zs.length=n) (hn:4 * n≤140737488351232) :
  Calls Tryz.prog 8 #[.slice (some ⟨g,0,none⟩) n cap] w fun e w'=>e=.returned (.tuple #[])∧w.grownBy w' (some g)∧∃ cs:List Int,cs.length=n∧w'.ownsRow B 34 1 (.slice (some ⟨g,0,none⟩) n cap) n (cs.map (Value.int .u32)):=by
 go_enter Tryz.func8,Tryz.ntmps8
 go_wp2
 go_loopw [2] (fun i wr=>∃ (k:Nat) (cs:List Int),k≤n∧i=.int .i64 k∧cs.length=n∧wr.ownsRow B 34 1 (.slice (some ⟨g,0,none⟩) n cap) n (cs.map (Value.int .u32))∧w.grownBy wr (some g))
  (fun i _=>n - (intOf i).toNat)
 case atStart=>exact⟨0,zs,Nat.zero_le _,rfl,hl,hown,World.grownBy.refl _ _⟩
 case round =>
  obtain⟨k,cs,hk,rfl,hcl,hownr,hgr⟩:=hrel
  have HCL:Hid (cs.length=n):=hcl
  clear hcl hown hl
  by_cases hlt:k<n
  ·have hd:wr.cell? ⟨g,k,none⟩=some (.int .u32 (nth cs k)):=by
    obtain⟨b,off,e1,_,hc⟩:=View.ofRow hownr HCL.out k (by rw [HCL.out];exact hlt)
    simp at e1
    obtain⟨rfl,rfl⟩:=e1
    rw [Nat.zero_add] at hc
    exact hc
   have hf:wr.frozen? ⟨g,k,none⟩=false:=hownr.frozenAt _
   have hs:=hownr.stored k (.int .u32 1515870810)
   rw [← List.map_set] at hs
   obtain⟨hs1,hs2⟩:=hs
   generalize nth cs k=x at hd
   clear hownr
   go_wp2
   go_roundw
   case rel=>exact⟨k+1,cs.set k 1515870810,by omega,by go_num,by rw [List.length_set];exact HCL.out,hs1,hgr.trans hs2⟩
   case measure=>simp [intOf];omega
  ·go_wp2
   go_end0
   exact⟨rfl,hgr,cs,HCL.out,hownr⟩
theorem spoil_some (g n cap B:Nat) (zs:List Int) (w:World) (hown:w.ownsRow B 34 1 (.slice (some ⟨g,0,none⟩) n cap) n (zs.map (Value.int .u32))) (hl:zs.length=n) (hn:4 * n≤140737488351232) :
  Calls Tryz.prog 8 #[.slice (some ⟨g,0,none⟩) n cap] w fun e w'=>e=.returned (.tuple #[])∧w.grownBy w' (some g) :=
 (spoil_keep g n cap B zs w hown hl hn).mono fun _ _ h=>⟨h.1,h.2.1⟩

set_option linter.unusedSimpArgs false
def Agree (lo:Nat) (a a':Act):Prop:=a'.tmps.size=a.tmps.size∧a'.defers=a.defers∧∀ i,i<lo→a'.tmps.getD i undef=a.tmps.getD i undef
theorem Agree.refl (lo:Nat) (a:Act):Agree lo a a:=⟨rfl,rfl,fun _ _=>rfl⟩
theorem Agree.trans {lo:Nat} {a b c:Act} (h:Agree lo a b) (k:Agree lo b c):Agree lo a c:=⟨k.1.trans h.1,k.2.1.trans h.2.1,fun i hi=>(k.2.2 i hi).trans (h.2.2 i hi)⟩
theorem getD_put (a:Act) (d i:Nat) (v:Value):(a.put (some d) v).tmps.getD i undef=if d=i∧i<a.tmps.size then v else a.tmps.getD i undef:=by
 simp only [Act.put,Array.getD_eq_getD_getElem?,Array.getElem?_setIfInBounds]
 split
 ·rename_i h;subst h
  by_cases h:d<a.tmps.size <;> simp [h]
 ·rename_i h;simp [h]
theorem Agree.put {lo:Nat} (a:Act) {d:Nat} (h:lo≤d) (v:Value):Agree lo a (a.put (some d) v) :=
 ⟨by simp [Act.put],by simp [Act.put],fun i hi=>by rw [getD_put,if_neg (by omega)]⟩
theorem op_value {P:Program} {o:Oper} {a:Act} {w:World} {K:Act→World→Prop} {Q:Exit→Act→World→Prop} {v:Value} (h:(execOp a.eval o).run P w=.ok (.value v) w) (hK:K (a.put o.dst v) w):o.wp P a w K Q:=by
 unfold Oper.wp;rw [h];exact hK
def testOf (x lo b:Nat) (kd:IntKind):List Oper→Option Int
 | [⟨some t,.binOp .eql _ (.tmp x') (.const (.int kd' k)) _,_,_,_,none⟩,⟨some b',.assign (.tmp t'),_,_,_,none⟩] =>
  if x'=x∧kd'=kd∧b'=b∧t'=t∧lo≤t∧lo≤b then some k else none
 | _=>none
theorem wp_test {P:Program} {Q:Exit→Act→World→Prop} {x lo b id:Nat} {kd:IntKind} {k n:Int} {ops:Array Oper} (h:testOf x lo b kd ops.toList=some k) {a:Act} {w:World}
  (hx:a.tmps.getD x undef=.int kd n) (hs:b<a.tmps.size)
  (hK:∀ a',Agree lo a a'→a'.tmps.getD b undef=.bool (n==k)→Q .normal a' w) (hts:∀ t o,ops.toList.head?=some o→o.dst=some t→t<a.tmps.size):(Code.region id ops false).wp P Q a w:=by
 refine wp_region_list ?_
 generalize hl:ops.toList=l at *
 unfold testOf at h
 split at h
 case h_2=>cases h
 rename_i t e1 x' kd' k' e2 e3 e4 e5 b' t' e6 e7 e8
 split at h
 case isFalse=>cases h
 rename_i hh
 obtain⟨rfl,rfl,rfl,rfl,h1,h2⟩:=hh
 cases h
 have ht:t'<a.tmps.size:=hts t' _ rfl rfl
 refine wpList_plain rfl fun K hK1=>?_
 have ev:a.tmps[x']?.getD undef=.int kd' n:=by rw [← Array.getD_eq_getD_getElem?];exact hx
 refine op_value (v:=.bool (n==k)) (by simp [execOp,go_sem,ev]) ?_
 refine hK1 _ _ (wpList_plain rfl fun K2 hK2=>?_)
 have ev2:(a.put (some t') (.bool (n==k))).tmps[t']?.getD undef=.bool (n==k):=by
  rw [← Array.getD_eq_getD_getElem?,getD_put,if_pos ⟨rfl,ht⟩]
 generalize ha2:a.put (some t') (.bool (n==k))=a2 at *
 refine op_value (v:=.bool (n==k)) (by simp [execOp,go_sem,ev2]) ?_
 subst ha2
 refine hK2 _ _ (hK _ ((Agree.put a h1 _).trans (Agree.put _ h2 _)) ?_)
 rw [getD_put,if_pos ⟨rfl,by simpa [Act.put] using hs⟩]
def armsOf (x lo top:Nat) (kd:IntKind):Nat→Code→Option (List (Int×Code))
 | 0,_=>none
 | fuel+1,c =>
  match c with
  | .skip=>some []
  | .seq (.region _ ops false) (.cond (.tmp b) arm rest) =>
   match testOf x lo b kd ops.toList,armsOf x lo top kd fuel rest with
   | some k,some l=>if b<top∧(ops.toList.all fun o=>match o.dst with | some t=>decide (t<top) | none=>true)=true then some ((k,arm) :: l) else none
   | _,_=>none
  | _=>none
theorem wp_arms {P:Program} {Q:Exit→Act→World→Prop} {x lo top:Nat} {kd:IntKind} {n:Int} (hlo:x<lo) :
  ∀ (fuel:Nat) (c:Code) (l:List (Int×Code)) (a:Act) (w:World),armsOf x lo top kd fuel c=some l→a.tmps.size=top→a.tmps.getD x undef=.int kd n →
   (∀ a' k d,Agree lo a a'→(k,d)∈l→n=k→d.wp P Q a' w)→(∀ a',Agree lo a a'→(∀ k d,(k,d)∈l→n≠k)→Q .normal a' w)→c.wp P Q a w:=by
 intro fuel
 induction fuel with
 | zero=>intro c l a w h;cases h
 | succ fuel ih =>
  intro c l a w h hs hx harm hno
  rw [armsOf.eq_def] at h
  dsimp only at h
  split at h
  ·cases h
   exact wp_skip (hno a (Agree.refl _ _) (fun _ _ hm=>by cases hm))
  ·rename_i id ops b arm rest
   split at h
   case h_2=>cases h
   rename_i k l' hk hl'
   split at h
   case isFalse=>cases h
   rename_i hb
   cases h
   refine wp_seq (wp_test (lo:=lo) hk hx (by rw [hs];exact hb.1) (fun a' hag hb'=>?_) (fun t o ho ht=>?_))
   ·refine wp_cond_split (t:=n==k) hb' (fun ht=>?_) (fun hf=>?_)
    ·exact harm a' k arm hag List.mem_cons_self (by simpa using ht)
    ·refine ih rest l' a' w hl' (hag.1.trans hs) ((hag.2.2 x hlo).trans hx) (fun a2 k2 d2 h2 hm e=>harm a2 k2 d2 (hag.trans h2) (List.mem_cons_of_mem _ hm) e) (fun a2 h2 hn=>hno a2 (hag.trans h2) (fun k2 d2 hm=>?_))
     rcases List.mem_cons.1 hm with e | hm
     ·cases e;simpa using hf
     ·exact hn k2 d2 hm
   ·have hm:o∈ops.toList:=List.mem_of_mem_head? ho
    have:=List.all_eq_true.1 hb.2 o hm
    rw [ht] at this
    simp only [decide_eq_true_eq] at this
    rw [hs];exact this
  ·cases h
/-! ### a switch over texts -/

def armText (r:Nat):Code→Option ByteArray
 | .seq (.region _ ops false) .ret =>
  match ops.toList with
  | [⟨some r',.assign (.const (.string s)),_,_,_,none⟩]=>if r'=r then some s else none
  | _=>none
 | _=>none
theorem wp_armText {P:Program} {Q:Exit→Act→World→Prop} {r:Nat} {c:Code} {s:ByteArray} (h:armText r c=some s) {a:Act} {w:World} (hQ:Q .ret (a.put (some r) (.string s)) w):c.wp P Q a w:=by
 unfold armText at h
 split at h
 case h_2=>cases h
 rename_i id ops
 split at h
 case h_2=>cases h
 rename_i r' s' e1 e2 e3 hl
 split at h
 case isFalse=>cases h
 rename_i e
 subst e
 cases h
 refine wp_seq (wp_region_list ?_)
 rw [hl]
 refine wpList_plain rfl fun K hK=>?_
 refine op_value (v:=.string s) (by simp [execOp,go_sem]) ?_
 exact hK _ _ (wpList_nil (wp_ret hQ))
def textsOf (r:Nat):List (Int×Code)→Option (List (Int×ByteArray))
 | []=>some []
 | (k,c) :: l=>match armText r c,textsOf r l with
  | some s,some t=>some ((k,s) :: t)
  | _,_=>none
theorem textsOf_mem {r:Nat}:∀ {l:List (Int×Code)} {t:List (Int×ByteArray)},textsOf r l=some t→∀ k c,(k,c)∈l→∃ s,armText r c=some s∧(k,s)∈t
 | [],_,_,_,_,hm=>by cases hm
 | (k',c') :: l,t,h,k,c,hm=>by
  rw [textsOf] at h
  split at h
  case h_2=>cases h
  rename_i s t' h1 h2
  cases h
  rcases List.mem_cons.1 hm with e | hm
  ·cases e;exact⟨s,h1,List.mem_cons_self⟩
  ·obtain⟨s2,h3,h4⟩:=textsOf_mem h2 k c hm
   exact⟨s2,h3,List.mem_cons_of_mem _ h4⟩
theorem textsOf_keys {r:Nat}:∀ {l:List (Int×Code)} {t:List (Int×ByteArray)},textsOf r l=some t→∀ k s,(k,s)∈t→∃ c,(k,c)∈l
 | [],_,h,_,_,hm=>by rw [textsOf] at h;cases h;cases hm
 | (k',c') :: l,t,h,k,s,hm=>by
  rw [textsOf] at h
  split at h
  case h_2=>cases h
  rename_i s' t' h1 h2
  cases h
  rcases List.mem_cons.1 hm with e | hm
  ·cases e;exact⟨c',List.mem_cons_self⟩
  ·obtain⟨c2,h3⟩:=textsOf_keys h2 k s hm
   exact⟨c2,List.mem_cons_of_mem _ h3⟩
def textSwitch (top:Nat) (kd:IntKind):Code→Option (List (Int×ByteArray))
 | .seq (.region _ o0 false) (.seq (.seq (.region _ o1 false) (.block _ sw)) c) =>
  match o0.toList,o1.toList,armText 2 c with
  | [⟨some 2,.assign (.const (.string _)),_,_,_,none⟩],[⟨some 3,.move (.tmp 0),_,_,_,none⟩],some s =>
   if s.data=#[] then match armsOf 3 4 top kd 200 sw with
    | some l=>textsOf 2 l
    | none=>none
   else none
  | _,_,_=>none
 | _=>none
def lookT:List (Int×ByteArray)→Int→ByteArray
 | [],_=>⟨#[]⟩
 | (k,s) :: l,n=>if n=k then s else lookT l n
def oneEach (l:List (Int×ByteArray)):Bool:=match l with
 | []=>true
 | (k,_) :: l=>(l.all fun p=>decide (p.1≠k)) && oneEach l
theorem lookT_mem:∀ {l:List (Int×ByteArray)},oneEach l=true→∀ k s,(k,s)∈l→lookT l k=s
 | [],_,_,_,h=>by cases h
 | (k',s') :: l,h1,k,s,hm=>by
  rw [oneEach,Bool.and_eq_true] at h1
  rcases List.mem_cons.1 hm with e | hm
  ·cases e;simp [lookT]
  ·have:=List.all_eq_true.1 h1.1 (k,s) hm
   simp only [ne_eq,decide_not,Bool.not_eq_true',decide_eq_false_iff_not] at this
   rw [lookT,if_neg this]
   exact lookT_mem h1.2 k s hm
theorem lookT_none:∀ {l:List (Int×ByteArray)} {n:Int},(∀ k s,(k,s)∈l→n≠k)→lookT l n=⟨#[]⟩
 | [],_,_=>rfl
 | (k',s') :: l,n,h=>by
  rw [lookT,if_neg (h k' s' List.mem_cons_self)]
  exact lookT_none fun k s hm=>h k s (List.mem_cons_of_mem _ hm)
theorem calls_textSwitch {P:Program} {f top:Nat} {fn:Func} {c:Code} {kd:IntKind} {t:List (Int×ByteArray)} (hf:P.funcs[f]?=some fn) (hb:fn.body=some c) (hn:fn.ntmps=top) (h4:4≤top) (hr:fn.results=#[.tmp 2])
  (ht:textSwitch top kd c=some t) (h1:oneEach t=true) (n:Int) (w:World) :
  Calls P f #[.int kd n] w fun e w'=>e=.returned (.string (lookT t n))∧w=w':=by
 refine calls_of_wp hf hb ?_
 unfold textSwitch at ht
 split at ht
 case h_2=>cases ht
 rename_i i0 o0 i1 o1 i2 sw cc
 split at ht
 case h_2=>cases ht
 rename_i s0 y1 y2 y3 z1 z2 z3 s e0 e1 e2
 split at ht
 case isFalse=>cases ht
 rename_i hs
 split at ht
 case h_2=>cases ht
 rename_i l hl
 obtain⟨sd⟩:=s
 simp only at hs
 subst hs
 generalize ha:({ tmps:=#[.int kd n]++Array.replicate (fn.ntmps - (#[Value.int kd n]:Array Value).size) undef,defers:=[] }:Act)=a
 have hsz:a.tmps.size=top:=by rw [← ha];simp [hn];omega
 have ha0:a.tmps.getD 0 undef=.int kd n:=by rw [← ha];rw [Array.getD_eq_getD_getElem?,Array.getElem?_append_left (by simp)];rfl
 have had:a.defers=[]:=by rw [← ha]
 clear ha
 refine wp_seq (wp_region_list ?_)
 rw [e0]
 refine wpList_plain rfl fun K hK=>?_
 refine op_value (v:=.string s0) (by simp [execOp,go_sem]) ?_
 refine hK _ _ (wpList_nil ?_)
 refine wp_seq (wp_seq (wp_region_list ?_))
 rw [e1]
 refine wpList_plain rfl fun K2 hK2=>?_
 have ev:(a.put (some 2) (.string s0)).tmps[0]?.getD undef=.int kd n:=by
  rw [← Array.getD_eq_getD_getElem?,getD_put,if_neg (by omega),ha0]
 generalize ha2:a.put (some 2) (.string s0)=a2 at *
 refine op_value (v:=.int kd n) (by simp [execOp,go_sem,ev]) ?_
 subst ha2
 refine hK2 _ _ (wpList_nil (wp_block ?_))
 generalize hA:(a.put (some 2) (.string s0)).put (some 3) (.int kd n)=A
 have hAs:A.tmps.size=top:=by rw [← hA];simp [Act.put,hsz]
 have hAx:A.tmps.getD 3 undef=.int kd n:=by rw [← hA,getD_put,if_pos ⟨rfl,by simp [Act.put,hsz];omega⟩]
 have hAd:A.defers=[]:=by rw [← hA];simp [Act.put,had]
 clear hA
 have fin:∀ (A':Act) (s:ByteArray),Agree 4 A A'→lookT t n=s→bodyPost P fn (fun e w'=>e=.returned (.string (lookT t n))∧w=w') .ret (A'.put (some 2) (.string s)) w:=fun A' s hag e =>
  ⟨by simp [Act.put,hag.2.1,hAd],.string s,by rw [results_tmp hr,getD_put,if_pos ⟨rfl,by rw [hag.1,hAs];omega⟩],by rw [e],rfl⟩
 refine wp_arms (x:=3) (lo:=4) (n:=n) (by omega) 200 sw l A w hl hAs hAx (fun A' k d hag hm e=>?_) (fun A' hag hno=>?_)
 ·obtain⟨s,h3,h5⟩:=textsOf_mem ht k d hm
  exact wp_armText h3 (fin A' s hag (by rw [e];exact lookT_mem h1 k s h5))
 ·exact wp_armText e2 (fin A' _ hag (lookT_none fun k s hm=>by obtain⟨c,hc⟩:=textsOf_keys ht k s hm;exact hno k c hc))
def namingT:List (Int×ByteArray):=[
 (1,⟨#[79,112,85,110,100,101,102,47,116,114,47,47,47,48,47,55]⟩),
 (3,⟨#[79,112,83,111,117,114,99,101,47,47,108,110,47,47,48,47,52]⟩),
 (5,⟨#[79,112,78,97,109,101,47,47,105,115,47,47,48,47,53]⟩),
 (6,⟨#[79,112,77,101,109,98,101,114,78,97,109,101,47,47,105,110,115,47,47,48,47,53]⟩),
 (7,⟨#[79,112,83,116,114,105,110,103,47,114,47,115,47,47,48,47,52]⟩),
 (14,⟨#[79,112,77,101,109,111,114,121,77,111,100,101,108,47,47,97,109,47,47,48,47,49]⟩),
 (15,⟨#[79,112,69,110,116,114,121,80,111,105,110,116,47,47,101,105,115,47,105,47,48,47,50]⟩),
 (16,⟨#[79,112,69,120,101,99,117,116,105,111,110,77,111,100,101,47,47,105,120,47,47,48,47,51]⟩),
 (17,⟨#[79,112,67,97,112,97,98,105,108,105,116,121,47,47,107,47,47,48,47,48]⟩),
 (19,⟨#[79,112,84,121,112,101,86,111,105,100,47,114,47,47,47,48,47,55]⟩),
 (20,⟨#[79,112,84,121,112,101,66,111,111,108,47,114,47,47,47,48,47,55]⟩),
 (21,⟨#[79,112,84,121,112,101,73,110,116,47,114,47,110,110,47,47,48,47,55]⟩),
 (23,⟨#[79,112,84,121,112,101,86,101,99,116,111,114,47,114,47,105,110,47,47,48,47,55]⟩),
 (28,⟨#[79,112,84,121,112,101,65,114,114,97,121,47,114,47,105,105,47,47,48,47,55]⟩),
 (30,⟨#[79,112,84,121,112,101,83,116,114,117,99,116,47,114,47,47,105,47,48,47,55]⟩),
 (32,⟨#[79,112,84,121,112,101,80,111,105,110,116,101,114,47,114,47,99,105,47,47,48,47,55]⟩),
 (33,⟨#[79,112,84,121,112,101,70,117,110,99,116,105,111,110,47,114,47,105,47,105,47,48,47,55]⟩)]
def makingT:List (Int×ByteArray):=[
 (41,⟨#[79,112,67,111,110,115,116,97,110,116,84,114,117,101,47,116,114,47,47,47,48,47,55]⟩),
 (42,⟨#[79,112,67,111,110,115,116,97,110,116,70,97,108,115,101,47,116,114,47,47,47,48,47,55]⟩),
 (43,⟨#[79,112,67,111,110,115,116,97,110,116,47,116,114,47,110,47,47,48,47,55]⟩),
 (44,⟨#[79,112,67,111,110,115,116,97,110,116,67,111,109,112,111,115,105,116,101,47,116,114,47,47,105,47,48,47,55]⟩),
 (46,⟨#[79,112,67,111,110,115,116,97,110,116,78,117,108,108,47,116,114,47,47,47,48,47,55]⟩),
 (54,⟨#[79,112,70,117,110,99,116,105,111,110,47,116,114,47,102,105,47,47,48,47,56]⟩),
 (55,⟨#[79,112,70,117,110,99,116,105,111,110,80,97,114,97,109,101,116,101,114,47,116,114,47,47,47,48,47,56]⟩),
 (56,⟨#[79,112,70,117,110,99,116,105,111,110,69,110,100,47,47,47,47,48,47,56]⟩),
 (57,⟨#[79,112,70,117,110,99,116,105,111,110,67,97,108,108,47,116,114,47,105,47,105,47,48,47,56]⟩),
 (59,⟨#[79,112,86,97,114,105,97,98,108,101,47,116,114,47,99,47,105,47,49,47,55]⟩),
 (61,⟨#[79,112,76,111,97,100,47,116,114,47,105,47,47,48,47,56]⟩),
 (62,⟨#[79,112,83,116,111,114,101,47,47,105,105,47,47,48,47,56]⟩),
 (65,⟨#[79,112,65,99,99,101,115,115,67,104,97,105,110,47,116,114,47,105,47,105,47,48,47,56]⟩),
 (71,⟨#[79,112,68,101,99,111,114,97,116,101,47,47,105,100,47,110,47,48,47,54]⟩),
 (77,⟨#[79,112,86,101,99,116,111,114,69,120,116,114,97,99,116,68,121,110,97,109,105,99,47,116,114,47,105,105,47,47,48,47,56]⟩),
 (78,⟨#[79,112,86,101,99,116,111,114,73,110,115,101,114,116,68,121,110,97,109,105,99,47,116,114,47,105,105,105,47,47,48,47,56]⟩),
 (79,⟨#[79,112,86,101,99,116,111,114,83,104,117,102,102,108,101,47,116,114,47,105,105,47,110,47,48,47,56]⟩),
 (80,⟨#[79,112,67,111,109,112,111,115,105,116,101,67,111,110,115,116,114,117,99,116,47,116,114,47,47,105,47,48,47,56]⟩),
 (81,⟨#[79,112,67,111,109,112,111,115,105,116,101,69,120,116,114,97,99,116,47,116,114,47,105,47,110,47,48,47,56]⟩),
 (82,⟨#[79,112,67,111,109,112,111,115,105,116,101,73,110,115,101,114,116,47,116,114,47,105,105,47,110,47,48,47,56]⟩),
 (83,⟨#[79,112,67,111,112,121,79,98,106,101,99,116,47,116,114,47,105,47,47,48,47,56]⟩)]
def countingT:List (Int×ByteArray):=[
 (124,⟨#[79,112,66,105,116,99,97,115,116,47,116,114,47,105,47,47,48,47,56]⟩),
 (126,⟨#[79,112,83,78,101,103,97,116,101,47,116,114,47,105,47,47,48,47,56]⟩),
 (128,⟨#[79,112,73,65,100,100,47,116,114,47,105,105,47,47,48,47,56]⟩),
 (130,⟨#[79,112,73,83,117,98,47,116,114,47,105,105,47,47,48,47,56]⟩),
 (132,⟨#[79,112,73,77,117,108,47,116,114,47,105,105,47,47,48,47,56]⟩),
 (134,⟨#[79,112,85,68,105,118,47,116,114,47,105,105,47,47,48,47,56]⟩),
 (135,⟨#[79,112,83,68,105,118,47,116,114,47,105,105,47,47,48,47,56]⟩),
 (137,⟨#[79,112,85,77,111,100,47,116,114,47,105,105,47,47,48,47,56]⟩),
 (138,⟨#[79,112,83,82,101,109,47,116,114,47,105,105,47,47,48,47,56]⟩),
 (139,⟨#[79,112,83,77,111,100,47,116,114,47,105,105,47,47,48,47,56]⟩),
 (149,⟨#[79,112,73,65,100,100,67,97,114,114,121,47,116,114,47,105,105,47,47,48,47,56]⟩),
 (150,⟨#[79,112,73,83,117,98,66,111,114,114,111,119,47,116,114,47,105,105,47,47,48,47,56]⟩),
 (151,⟨#[79,112,85,77,117,108,69,120,116,101,110,100,101,100,47,116,114,47,105,105,47,47,48,47,56]⟩),
 (152,⟨#[79,112,83,77,117,108,69,120,116,101,110,100,101,100,47,116,114,47,105,105,47,47,48,47,56]⟩),
 (154,⟨#[79,112,65,110,121,47,116,114,47,105,47,47,48,47,56]⟩),
 (155,⟨#[79,112,65,108,108,47,116,114,47,105,47,47,48,47,56]⟩)]
def comparingT:List (Int×ByteArray):=[
 (164,⟨#[79,112,76,111,103,105,99,97,108,69,113,117,97,108,47,116,114,47,105,105,47,47,48,47,56]⟩),
 (165,⟨#[79,112,76,111,103,105,99,97,108,78,111,116,69,113,117,97,108,47,116,114,47,105,105,47,47,48,47,56]⟩),
 (166,⟨#[79,112,76,111,103,105,99,97,108,79,114,47,116,114,47,105,105,47,47,48,47,56]⟩),
 (167,⟨#[79,112,76,111,103,105,99,97,108,65,110,100,47,116,114,47,105,105,47,47,48,47,56]⟩),
 (168,⟨#[79,112,76,111,103,105,99,97,108,78,111,116,47,116,114,47,105,47,47,48,47,56]⟩),
 (169,⟨#[79,112,83,101,108,101,99,116,47,116,114,47,105,105,105,47,47,48,47,56]⟩),
 (170,⟨#[79,112,73,69,113,117,97,108,47,116,114,47,105,105,47,47,48,47,56]⟩),
 (171,⟨#[79,112,73,78,111,116,69,113,117,97,108,47,116,114,47,105,105,47,47,48,47,56]⟩),
 (172,⟨#[79,112,85,71,114,101,97,116,101,114,84,104,97,110,47,116,114,47,105,105,47,47,48,47,56]⟩),
 (173,⟨#[79,112,83,71,114,101,97,116,101,114,84,104,97,110,47,116,114,47,105,105,47,47,48,47,56]⟩),
 (174,⟨#[79,112,85,71,114,101,97,116,101,114,84,104,97,110,69,113,117,97,108,47,116,114,47,105,105,47,47,48,47,56]⟩),
 (175,⟨#[79,112,83,71,114,101,97,116,101,114,84,104,97,110,69,113,117,97,108,47,116,114,47,105,105,47,47,48,47,56]⟩),
 (176,⟨#[79,112,85,76,101,115,115,84,104,97,110,47,116,114,47,105,105,47,47,48,47,56]⟩),
 (177,⟨#[79,112,83,76,101,115,115,84,104,97,110,47,116,114,47,105,105,47,47,48,47,56]⟩),
 (178,⟨#[79,112,85,76,101,115,115,84,104,97,110,69,113,117,97,108,47,116,114,47,105,105,47,47,48,47,56]⟩),
 (179,⟨#[79,112,83,76,101,115,115,84,104,97,110,69,113,117,97,108,47,116,114,47,105,105,47,47,48,47,56]⟩)]
def bitT:List (Int×ByteArray):=[
 (194,⟨#[79,112,83,104,105,102,116,82,105,103,104,116,76,111,103,105,99,97,108,47,116,114,47,105,105,47,47,48,47,56]⟩),
 (195,⟨#[79,112,83,104,105,102,116,82,105,103,104,116,65,114,105,116,104,109,101,116,105,99,47,116,114,47,105,105,47,47,48,47,56]⟩),
 (196,⟨#[79,112,83,104,105,102,116,76,101,102,116,76,111,103,105,99,97,108,47,116,114,47,105,105,47,47,48,47,56]⟩),
 (197,⟨#[79,112,66,105,116,119,105,115,101,79,114,47,116,114,47,105,105,47,47,48,47,56]⟩),
 (198,⟨#[79,112,66,105,116,119,105,115,101,88,111,114,47,116,114,47,105,105,47,47,48,47,56]⟩),
 (199,⟨#[79,112,66,105,116,119,105,115,101,65,110,100,47,116,114,47,105,105,47,47,48,47,56]⟩),
 (200,⟨#[79,112,78,111,116,47,116,114,47,105,47,47,48,47,56]⟩),
 (201,⟨#[79,112,66,105,116,70,105,101,108,100,73,110,115,101,114,116,47,116,114,47,105,105,105,105,47,47,48,47,56]⟩),
 (202,⟨#[79,112,66,105,116,70,105,101,108,100,83,69,120,116,114,97,99,116,47,116,114,47,105,105,105,47,47,48,47,56]⟩),
 (203,⟨#[79,112,66,105,116,70,105,101,108,100,85,69,120,116,114,97,99,116,47,116,114,47,105,105,105,47,47,48,47,56]⟩),
 (204,⟨#[79,112,66,105,116,82,101,118,101,114,115,101,47,116,114,47,105,47,47,48,47,56]⟩),
 (205,⟨#[79,112,66,105,116,67,111,117,110,116,47,116,114,47,105,47,47,48,47,56]⟩)]
def flowT:List (Int×ByteArray):=[
 (245,⟨#[79,112,80,104,105,47,116,114,47,47,105,105,47,48,47,56]⟩),
 (246,⟨#[79,112,76,111,111,112,77,101,114,103,101,47,47,105,105,103,47,47,48,47,56]⟩),
 (247,⟨#[79,112,83,101,108,101,99,116,105,111,110,77,101,114,103,101,47,47,105,104,47,47,48,47,56]⟩),
 (248,⟨#[79,112,76,97,98,101,108,47,114,47,47,47,48,47,56]⟩),
 (249,⟨#[79,112,66,114,97,110,99,104,47,47,105,47,47,48,47,56]⟩),
 (250,⟨#[79,112,66,114,97,110,99,104,67,111,110,100,105,116,105,111,110,97,108,47,47,105,105,105,47,47,48,47,56]⟩),
 (251,⟨#[79,112,83,119,105,116,99,104,47,47,105,105,47,110,105,47,48,47,56]⟩),
 (252,⟨#[79,112,75,105,108,108,47,47,47,47,48,47,56]⟩),
 (253,⟨#[79,112,82,101,116,117,114,110,47,47,47,47,48,47,56]⟩),
 (254,⟨#[79,112,82,101,116,117,114,110,86,97,108,117,101,47,47,105,47,47,48,47,56]⟩),
 (255,⟨#[79,112,85,110,114,101,97,99,104,97,98,108,101,47,47,47,47,48,47,56]⟩)]
abbrev Frm:=ByteArray×Bool×Bool×ByteArray×ByteArray×Int×Int
def refT:List (Int×Frm):=[
 (1,⟨#[79,112,85,110,100,101,102]⟩,true,true,⟨#[]⟩,⟨#[]⟩,0,7),
 (3,⟨#[79,112,83,111,117,114,99,101]⟩,false,false,⟨#[108,110]⟩,⟨#[]⟩,0,4),
 (5,⟨#[79,112,78,97,109,101]⟩,false,false,⟨#[105,115]⟩,⟨#[]⟩,0,5),
 (6,⟨#[79,112,77,101,109,98,101,114,78,97,109,101]⟩,false,false,⟨#[105,110,115]⟩,⟨#[]⟩,0,5),
 (7,⟨#[79,112,83,116,114,105,110,103]⟩,false,true,⟨#[115]⟩,⟨#[]⟩,0,4),
 (14,⟨#[79,112,77,101,109,111,114,121,77,111,100,101,108]⟩,false,false,⟨#[97,109]⟩,⟨#[]⟩,0,1),
 (15,⟨#[79,112,69,110,116,114,121,80,111,105,110,116]⟩,false,false,⟨#[101,105,115]⟩,⟨#[105]⟩,0,2),
 (16,⟨#[79,112,69,120,101,99,117,116,105,111,110,77,111,100,101]⟩,false,false,⟨#[105,120]⟩,⟨#[]⟩,0,3),
 (17,⟨#[79,112,67,97,112,97,98,105,108,105,116,121]⟩,false,false,⟨#[107]⟩,⟨#[]⟩,0,0),
 (19,⟨#[79,112,84,121,112,101,86,111,105,100]⟩,false,true,⟨#[]⟩,⟨#[]⟩,0,7),
 (20,⟨#[79,112,84,121,112,101,66,111,111,108]⟩,false,true,⟨#[]⟩,⟨#[]⟩,0,7),
 (21,⟨#[79,112,84,121,112,101,73,110,116]⟩,false,true,⟨#[110,110]⟩,⟨#[]⟩,0,7),
 (23,⟨#[79,112,84,121,112,101,86,101,99,116,111,114]⟩,false,true,⟨#[105,110]⟩,⟨#[]⟩,0,7),
 (28,⟨#[79,112,84,121,112,101,65,114,114,97,121]⟩,false,true,⟨#[105,105]⟩,⟨#[]⟩,0,7),
 (30,⟨#[79,112,84,121,112,101,83,116,114,117,99,116]⟩,false,true,⟨#[]⟩,⟨#[105]⟩,0,7),
 (32,⟨#[79,112,84,121,112,101,80,111,105,110,116,101,114]⟩,false,true,⟨#[99,105]⟩,⟨#[]⟩,0,7),
 (33,⟨#[79,112,84,121,112,101,70,117,110,99,116,105,111,110]⟩,false,true,⟨#[105]⟩,⟨#[105]⟩,0,7),
 (41,⟨#[79,112,67,111,110,115,116,97,110,116,84,114,117,101]⟩,true,true,⟨#[]⟩,⟨#[]⟩,0,7),
 (42,⟨#[79,112,67,111,110,115,116,97,110,116,70,97,108,115,101]⟩,true,true,⟨#[]⟩,⟨#[]⟩,0,7),
 (43,⟨#[79,112,67,111,110,115,116,97,110,116]⟩,true,true,⟨#[110]⟩,⟨#[]⟩,0,7),
 (44,⟨#[79,112,67,111,110,115,116,97,110,116,67,111,109,112,111,115,105,116,101]⟩,true,true,⟨#[]⟩,⟨#[105]⟩,0,7),
 (46,⟨#[79,112,67,111,110,115,116,97,110,116,78,117,108,108]⟩,true,true,⟨#[]⟩,⟨#[]⟩,0,7),
 (54,⟨#[79,112,70,117,110,99,116,105,111,110]⟩,true,true,⟨#[102,105]⟩,⟨#[]⟩,0,8),
 (55,⟨#[79,112,70,117,110,99,116,105,111,110,80,97,114,97,109,101,116,101,114]⟩,true,true,⟨#[]⟩,⟨#[]⟩,0,8),
 (56,⟨#[79,112,70,117,110,99,116,105,111,110,69,110,100]⟩,false,false,⟨#[]⟩,⟨#[]⟩,0,8),
 (57,⟨#[79,112,70,117,110,99,116,105,111,110,67,97,108,108]⟩,true,true,⟨#[105]⟩,⟨#[105]⟩,0,8),
 (59,⟨#[79,112,86,97,114,105,97,98,108,101]⟩,true,true,⟨#[99]⟩,⟨#[105]⟩,1,7),
 (61,⟨#[79,112,76,111,97,100]⟩,true,true,⟨#[105]⟩,⟨#[]⟩,0,8),
 (62,⟨#[79,112,83,116,111,114,101]⟩,false,false,⟨#[105,105]⟩,⟨#[]⟩,0,8),
 (65,⟨#[79,112,65,99,99,101,115,115,67,104,97,105,110]⟩,true,true,⟨#[105]⟩,⟨#[105]⟩,0,8),
 (71,⟨#[79,112,68,101,99,111,114,97,116,101]⟩,false,false,⟨#[105,100]⟩,⟨#[110]⟩,0,6),
 (77,⟨#[79,112,86,101,99,116,111,114,69,120,116,114,97,99,116,68,121,110,97,109,105,99]⟩,true,true,⟨#[105,105]⟩,⟨#[]⟩,0,8),
 (78,⟨#[79,112,86,101,99,116,111,114,73,110,115,101,114,116,68,121,110,97,109,105,99]⟩,true,true,⟨#[105,105,105]⟩,⟨#[]⟩,0,8),
 (79,⟨#[79,112,86,101,99,116,111,114,83,104,117,102,102,108,101]⟩,true,true,⟨#[105,105]⟩,⟨#[110]⟩,0,8),
 (80,⟨#[79,112,67,111,109,112,111,115,105,116,101,67,111,110,115,116,114,117,99,116]⟩,true,true,⟨#[]⟩,⟨#[105]⟩,0,8),
 (81,⟨#[79,112,67,111,109,112,111,115,105,116,101,69,120,116,114,97,99,116]⟩,true,true,⟨#[105]⟩,⟨#[110]⟩,0,8),
 (82,⟨#[79,112,67,111,109,112,111,115,105,116,101,73,110,115,101,114,116]⟩,true,true,⟨#[105,105]⟩,⟨#[110]⟩,0,8),
 (83,⟨#[79,112,67,111,112,121,79,98,106,101,99,116]⟩,true,true,⟨#[105]⟩,⟨#[]⟩,0,8),
 (124,⟨#[79,112,66,105,116,99,97,115,116]⟩,true,true,⟨#[105]⟩,⟨#[]⟩,0,8),
 (126,⟨#[79,112,83,78,101,103,97,116,101]⟩,true,true,⟨#[105]⟩,⟨#[]⟩,0,8),
 (128,⟨#[79,112,73,65,100,100]⟩,true,true,⟨#[105,105]⟩,⟨#[]⟩,0,8),
 (130,⟨#[79,112,73,83,117,98]⟩,true,true,⟨#[105,105]⟩,⟨#[]⟩,0,8),
 (132,⟨#[79,112,73,77,117,108]⟩,true,true,⟨#[105,105]⟩,⟨#[]⟩,0,8),
 (134,⟨#[79,112,85,68,105,118]⟩,true,true,⟨#[105,105]⟩,⟨#[]⟩,0,8),
 (135,⟨#[79,112,83,68,105,118]⟩,true,true,⟨#[105,105]⟩,⟨#[]⟩,0,8),
 (137,⟨#[79,112,85,77,111,100]⟩,true,true,⟨#[105,105]⟩,⟨#[]⟩,0,8),
 (138,⟨#[79,112,83,82,101,109]⟩,true,true,⟨#[105,105]⟩,⟨#[]⟩,0,8),
 (139,⟨#[79,112,83,77,111,100]⟩,true,true,⟨#[105,105]⟩,⟨#[]⟩,0,8),
 (149,⟨#[79,112,73,65,100,100,67,97,114,114,121]⟩,true,true,⟨#[105,105]⟩,⟨#[]⟩,0,8),
 (150,⟨#[79,112,73,83,117,98,66,111,114,114,111,119]⟩,true,true,⟨#[105,105]⟩,⟨#[]⟩,0,8),
 (151,⟨#[79,112,85,77,117,108,69,120,116,101,110,100,101,100]⟩,true,true,⟨#[105,105]⟩,⟨#[]⟩,0,8),
 (152,⟨#[79,112,83,77,117,108,69,120,116,101,110,100,101,100]⟩,true,true,⟨#[105,105]⟩,⟨#[]⟩,0,8),
 (154,⟨#[79,112,65,110,121]⟩,true,true,⟨#[105]⟩,⟨#[]⟩,0,8),
 (155,⟨#[79,112,65,108,108]⟩,true,true,⟨#[105]⟩,⟨#[]⟩,0,8),
 (164,⟨#[79,112,76,111,103,105,99,97,108,69,113,117,97,108]⟩,true,true,⟨#[105,105]⟩,⟨#[]⟩,0,8),
 (165,⟨#[79,112,76,111,103,105,99,97,108,78,111,116,69,113,117,97,108]⟩,true,true,⟨#[105,105]⟩,⟨#[]⟩,0,8),
 (166,⟨#[79,112,76,111,103,105,99,97,108,79,114]⟩,true,true,⟨#[105,105]⟩,⟨#[]⟩,0,8),
 (167,⟨#[79,112,76,111,103,105,99,97,108,65,110,100]⟩,true,true,⟨#[105,105]⟩,⟨#[]⟩,0,8),
 (168,⟨#[79,112,76,111,103,105,99,97,108,78,111,116]⟩,true,true,⟨#[105]⟩,⟨#[]⟩,0,8),
 (169,⟨#[79,112,83,101,108,101,99,116]⟩,true,true,⟨#[105,105,105]⟩,⟨#[]⟩,0,8),
 (170,⟨#[79,112,73,69,113,117,97,108]⟩,true,true,⟨#[105,105]⟩,⟨#[]⟩,0,8),
 (171,⟨#[79,112,73,78,111,116,69,113,117,97,108]⟩,true,true,⟨#[105,105]⟩,⟨#[]⟩,0,8),
 (172,⟨#[79,112,85,71,114,101,97,116,101,114,84,104,97,110]⟩,true,true,⟨#[105,105]⟩,⟨#[]⟩,0,8),
 (173,⟨#[79,112,83,71,114,101,97,116,101,114,84,104,97,110]⟩,true,true,⟨#[105,105]⟩,⟨#[]⟩,0,8),
 (174,⟨#[79,112,85,71,114,101,97,116,101,114,84,104,97,110,69,113,117,97,108]⟩,true,true,⟨#[105,105]⟩,⟨#[]⟩,0,8),
 (175,⟨#[79,112,83,71,114,101,97,116,101,114,84,104,97,110,69,113,117,97,108]⟩,true,true,⟨#[105,105]⟩,⟨#[]⟩,0,8),
 (176,⟨#[79,112,85,76,101,115,115,84,104,97,110]⟩,true,true,⟨#[105,105]⟩,⟨#[]⟩,0,8),
 (177,⟨#[79,112,83,76,101,115,115,84,104,97,110]⟩,true,true,⟨#[105,105]⟩,⟨#[]⟩,0,8),
 (178,⟨#[79,112,85,76,101,115,115,84,104,97,110,69,113,117,97,108]⟩,true,true,⟨#[105,105]⟩,⟨#[]⟩,0,8),
 (179,⟨#[79,112,83,76,101,115,115,84,104,97,110,69,113,117,97,108]⟩,true,true,⟨#[105,105]⟩,⟨#[]⟩,0,8),
 (194,⟨#[79,112,83,104,105,102,116,82,105,103,104,116,76,111,103,105,99,97,108]⟩,true,true,⟨#[105,105]⟩,⟨#[]⟩,0,8),
 (195,⟨#[79,112,83,104,105,102,116,82,105,103,104,116,65,114,105,116,104,109,101,116,105,99]⟩,true,true,⟨#[105,105]⟩,⟨#[]⟩,0,8),
 (196,⟨#[79,112,83,104,105,102,116,76,101,102,116,76,111,103,105,99,97,108]⟩,true,true,⟨#[105,105]⟩,⟨#[]⟩,0,8),
 (197,⟨#[79,112,66,105,116,119,105,115,101,79,114]⟩,true,true,⟨#[105,105]⟩,⟨#[]⟩,0,8),
 (198,⟨#[79,112,66,105,116,119,105,115,101,88,111,114]⟩,true,true,⟨#[105,105]⟩,⟨#[]⟩,0,8),
 (199,⟨#[79,112,66,105,116,119,105,115,101,65,110,100]⟩,true,true,⟨#[105,105]⟩,⟨#[]⟩,0,8),
 (200,⟨#[79,112,78,111,116]⟩,true,true,⟨#[105]⟩,⟨#[]⟩,0,8),
 (201,⟨#[79,112,66,105,116,70,105,101,108,100,73,110,115,101,114,116]⟩,true,true,⟨#[105,105,105,105]⟩,⟨#[]⟩,0,8),
 (202,⟨#[79,112,66,105,116,70,105,101,108,100,83,69,120,116,114,97,99,116]⟩,true,true,⟨#[105,105,105]⟩,⟨#[]⟩,0,8),
 (203,⟨#[79,112,66,105,116,70,105,101,108,100,85,69,120,116,114,97,99,116]⟩,true,true,⟨#[105,105,105]⟩,⟨#[]⟩,0,8),
 (204,⟨#[79,112,66,105,116,82,101,118,101,114,115,101]⟩,true,true,⟨#[105]⟩,⟨#[]⟩,0,8),
 (205,⟨#[79,112,66,105,116,67,111,117,110,116]⟩,true,true,⟨#[105]⟩,⟨#[]⟩,0,8),
 (245,⟨#[79,112,80,104,105]⟩,true,true,⟨#[]⟩,⟨#[105,105]⟩,0,8),
 (246,⟨#[79,112,76,111,111,112,77,101,114,103,101]⟩,false,false,⟨#[105,105,103]⟩,⟨#[]⟩,0,8),
 (247,⟨#[79,112,83,101,108,101,99,116,105,111,110,77,101,114,103,101]⟩,false,false,⟨#[105,104]⟩,⟨#[]⟩,0,8),
 (248,⟨#[79,112,76,97,98,101,108]⟩,false,true,⟨#[]⟩,⟨#[]⟩,0,8),
 (249,⟨#[79,112,66,114,97,110,99,104]⟩,false,false,⟨#[105]⟩,⟨#[]⟩,0,8),
 (250,⟨#[79,112,66,114,97,110,99,104,67,111,110,100,105,116,105,111,110,97,108]⟩,false,false,⟨#[105,105,105]⟩,⟨#[]⟩,0,8),
 (251,⟨#[79,112,83,119,105,116,99,104]⟩,false,false,⟨#[105,105]⟩,⟨#[110,105]⟩,0,8),
 (252,⟨#[79,112,75,105,108,108]⟩,false,false,⟨#[]⟩,⟨#[]⟩,0,8),
 (253,⟨#[79,112,82,101,116,117,114,110]⟩,false,false,⟨#[]⟩,⟨#[]⟩,0,8),
 (254,⟨#[79,112,82,101,116,117,114,110,86,97,108,117,101]⟩,false,false,⟨#[105]⟩,⟨#[]⟩,0,8),
 (255,⟨#[79,112,85,110,114,101,97,99,104,97,98,108,101]⟩,false,false,⟨#[]⟩,⟨#[]⟩,0,8)]
def sgn (s:ByteArray) (k:Nat):Int:=((s.data.toList.getD k 0).toNat:Int)
theorem sgn_at (s:ByteArray) (k:Nat) (h:k<s.size):((s[k]'h).toNat:Int)=sgn s k:=by
 have h':k<s.data.toList.length:=by simpa using h
 unfold sgn
 rw [List.getD_eq_getElem?_getD,List.getElem?_eq_getElem h']
 rfl
abbrev RdSt:=Int×Int×Frm
def rdStep (s:ByteArray) (k:Nat) (c:Int) (x:RdSt):RdSt :=
 match x with
 | (col,fr,nm,t,r,fx,rs,mo,pa) =>
  if c=47 then (col+1,k+1,nm,t,r,fx,rs,mo,pa)
  else if col=0 then (col,fr,s.extract fr.toNat (k+1),t,r,fx,rs,mo,pa)
  else if col=1 then (col,fr,nm,t || (c==116),r || (c==114),fx,rs,mo,pa)
  else if col=2 then (col,fr,nm,t,r,s.extract fr.toNat (k+1),rs,mo,pa)
  else if col=3 then (col,fr,nm,t,r,fx,s.extract fr.toNat (k+1),mo,pa)
  else if col=4 then (col,fr,nm,t,r,fx,rs,10 * mo+(c - 48),pa)
  else (col,fr,nm,t,r,fx,rs,mo,c - 48)
def rdTo (s:ByteArray):Nat→RdSt
 | 0=>(0,0,⟨#[]⟩,false,false,⟨#[]⟩,⟨#[]⟩,0,0)
 | k+1=>rdStep s k (sgn s k) (rdTo s k)
def rdOk (k:Nat) (c:Int) (x:RdSt):Bool :=
 decide (c<128∧0≤c∧0≤x.1∧x.1≤5∧0≤x.2.1∧x.2.1≤k∧0≤x.2.2.2.2.2.2.2.1∧x.2.2.2.2.2.2.2.1≤1000∧(x.1=4→c≠47→48≤c)∧(x.1=5→c≠47→48≤c))
def goodT (s:ByteArray):Bool:=(List.range s.size).all fun k=>rdOk k (sgn s k) (rdTo s k)
theorem goodT_at {s:ByteArray} (h:goodT s=true) {k:Nat} (hk:k<s.size):rdOk k (sgn s k) (rdTo s k)=true:=List.all_eq_true.1 h k (List.mem_range.2 hk)
def rdF (s:ByteArray):Frm:=(rdTo s s.size).2.2
def ftxt (n:Int):ByteArray:=if n<41 then lookT namingT n else if n<124 then lookT makingT n else if n<164 then lookT countingT n else if n<194 then lookT comparingT n else if n<245 then lookT bitT n else lookT flowT n
def formV (op:Int) (f:Frm):Value:=.agg #[.int .u16 op,.string f.1,.bool f.2.1,.bool f.2.2.1,.string f.2.2.2.1,.string f.2.2.2.2.1,.int .i64 f.2.2.2.2.2.1,.int .u8 f.2.2.2.2.2.2]
def noFrm:Frm:=(⟨#[]⟩,false,false,⟨#[]⟩,⟨#[]⟩,0,0)
theorem one_block {w:World} {B T:Nat} {cs:Array Value} (h:w.heap[B]?=some (.cells cs T (0,0))):(∀ i,w.cell? ⟨B,i,none⟩=cs[i]?)∧(∀ i,w.frozen? ⟨B,i,none⟩=false):=by
 refine⟨fun i=>?_,fun i=>?_⟩
 ·simp [World.cell?,h]
 ·simp [World.frozen?,h]
theorem alloc_new (w:World) (cs:Array Value) (T:Nat):(w.alloc (.cells cs T)).heap[w.heap.size]?=some (.cells cs T (0,0)):=heap_alloc_new w _
theorem eight_set {w:World} {B T:Nat} {z0 z1 z2 z3 z4 z5 z6 z7:Value} (h:w.heap[B]?=some (.cells #[z0,z1,z2,z3,z4,z5,z6,z7] T (0,0))) (u0 u1 u2 u3 u4 u5 u6 u7:Value) :
  ((((((((w.setCell ⟨B,0,none⟩ u0).setCell ⟨B,1,none⟩ u1).setCell ⟨B,2,none⟩ u2).setCell ⟨B,3,none⟩ u3).setCell ⟨B,4,none⟩ u4).setCell ⟨B,5,none⟩ u5).setCell ⟨B,6,none⟩ u6).setCell ⟨B,7,none⟩ u7).heap[B]?=some (.cells #[u0,u1,u2,u3,u4,u5,u6,u7] T (0,0)):=by
 simp only [World.setCell,Array.getElem?_modify,h];simp
theorem eight_below (w:World) (B:Nat) (u0 u1 u2 u3 u4 u5 u6 u7:Value) :
  Below B w ((((((((w.setCell ⟨B,0,none⟩ u0).setCell ⟨B,1,none⟩ u1).setCell ⟨B,2,none⟩ u2).setCell ⟨B,3,none⟩ u3).setCell ⟨B,4,none⟩ u4).setCell ⟨B,5,none⟩ u5).setCell ⟨B,6,none⟩ u6).setCell ⟨B,7,none⟩ u7) :=
 ((((((((Below.refl B w).setCell (Nat.le_refl _) _).setCell (Nat.le_refl _) _).setCell (Nat.le_refl _) _).setCell (Nat.le_refl _) _).setCell (Nat.le_refl _) _).setCell (Nat.le_refl _) _).setCell (Nat.le_refl _) _).setCell (Nat.le_refl _) _
def frmCells (n:Int) (f:Frm):Array Value:=#[.int .u16 n,.string f.1,.bool f.2.1,.bool f.2.2.1,.string f.2.2.2.1,.string f.2.2.2.2.1,.int .i64 f.2.2.2.2.2.1,.int .u8 f.2.2.2.2.2.2]
theorem frm_cells {w:World} {B T:Nat} {n:Int} {f:Frm} (h:w.heap[B]?=some (.cells (frmCells n f) T (0,0))) :
  w.cell? ⟨B,0,none⟩=some (.int .u16 n)∧w.cell? ⟨B,1,none⟩=some (.string f.1)∧w.cell? ⟨B,2,none⟩=some (.bool f.2.1)∧w.cell? ⟨B,3,none⟩=some (.bool f.2.2.1)∧w.cell? ⟨B,4,none⟩=some (.string f.2.2.2.1)∧w.cell? ⟨B,5,none⟩=some (.string f.2.2.2.2.1)∧w.cell? ⟨B,6,none⟩=some (.int .i64 f.2.2.2.2.2.1)∧w.cell? ⟨B,7,none⟩=some (.int .u8 f.2.2.2.2.2.2)∧∀ i,w.frozen? ⟨B,i,none⟩=false:=by
 obtain⟨hc,hf⟩:=one_block h
 exact⟨hc 0,hc 1,hc 2,hc 3,hc 4,hc 5,hc 6,hc 7,hf⟩
def lookF:List (Int×Frm)→Int→Frm×Bool
 | [],_=>(noFrm,false)
 | (k,s) :: l,n=>if n=k then (s,true) else lookF l n
def ofV (n:Int):Value:=if (lookF refT n).2 then formV n (lookF refT n).1 else formV 0 noFrm
theorem namingText_any (n:Int) (w:World):Calls Tryz.prog 49 #[.int .u16 n] w fun e w'=>e=.returned (.string (lookT namingT n))∧w=w' :=
 calls_textSwitch Tryz.func49 rfl rfl (by decide) rfl (by kernel_rfl) (by decide +kernel) n w
theorem makingText_any (n:Int) (w:World):Calls Tryz.prog 50 #[.int .u16 n] w fun e w'=>e=.returned (.string (lookT makingT n))∧w=w' :=
 calls_textSwitch Tryz.func50 rfl rfl (by decide) rfl (by kernel_rfl) (by decide +kernel) n w
theorem countingText_any (n:Int) (w:World):Calls Tryz.prog 51 #[.int .u16 n] w fun e w'=>e=.returned (.string (lookT countingT n))∧w=w' :=
 calls_textSwitch Tryz.func51 rfl rfl (by decide) rfl (by kernel_rfl) (by decide +kernel) n w
theorem comparingText_any (n:Int) (w:World):Calls Tryz.prog 52 #[.int .u16 n] w fun e w'=>e=.returned (.string (lookT comparingT n))∧w=w' :=
 calls_textSwitch Tryz.func52 rfl rfl (by decide) rfl (by kernel_rfl) (by decide +kernel) n w
theorem bitText_any (n:Int) (w:World):Calls Tryz.prog 53 #[.int .u16 n] w fun e w'=>e=.returned (.string (lookT bitT n))∧w=w' :=
 calls_textSwitch Tryz.func53 rfl rfl (by decide) rfl (by kernel_rfl) (by decide +kernel) n w
theorem flowText_any (n:Int) (w:World):Calls Tryz.prog 54 #[.int .u16 n] w fun e w'=>e=.returned (.string (lookT flowT n))∧w=w' :=
 calls_textSwitch Tryz.func54 rfl rfl (by decide) rfl (by kernel_rfl) (by decide +kernel) n w
end Go.Proofs.YtonhnflilfjkbaaGreat
