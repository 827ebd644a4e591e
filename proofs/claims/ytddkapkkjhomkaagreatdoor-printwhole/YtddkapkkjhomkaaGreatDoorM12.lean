/-
  Texts laid together in one: FrameMeasure, MathRW, MathWR, MathD, WordsSplit, FrameWrite, CodeFronts.
-/
import Derived.WalkSpells
import Derived.BigRegion
import Derived.Deep.QuietTactic
import Derived.BigQuiet
import Derived.Test.YtddkapkkjhomkaaGreatDoorM01
import Derived.Test.YtddkapkkjhomkaaGreatDoorM02
import Derived.Test.YtddkapkkjhomkaaGreatDoorM07
import Derived.Test.YtddkapkkjhomkaaGreatDoorM11
import Derived.Deep.RegionWith
import Derived.Deep.DrawnRows
import Derived.Test.YtddkapkkjhomkaaGreatDoorProg
import Derived.Test.YtddkapkkjhomkaaGreatDoorM05
import Derived.Deep.RegionLaw
import Derived.Deep.AppendLies
set_option linter.unusedVariables false
set_option linter.unusedSimpArgs false
set_option maxRecDepth 10000
/-
  What measure and Size of frame return: how many words the head and the instructions have, or the first instruction that may not be.
-/
namespace Go.Proofs.YtddkapkkjhomkaaGreatDoor
open Go.RowKit

theorem fault_any (rs:List (Int × List Int)):fault rs 0=(0,0) ∨ (fault rs 0).1≠0:=by
 have key:∀ f k,faultF rs f k=(0,0) ∨ (faultF rs f k).1≠0:=by
  intro f
  induction f with
  | zero=>intro k;exact .inl rfl
  | succ f ih =>
   intro k
   rw [faultF]
   split
   ·split
    ·exact .inr (by simp)
    ·split
     ·exact .inr (by simp)
     ·exact ih (k+1)
   ·exact .inl rfl
 exact key _ _
theorem spot_set {w:World} {g T:Nat} {a b:Value} (h:w.heap[g]?=some (.cells #[a,b] T (0,0))) (u0 u1:Value) :
  ((w.setCell ⟨g,0,none⟩ u0).setCell ⟨g,1,none⟩ u1).cell? ⟨g,0,none⟩=some u0∧((w.setCell ⟨g,0,none⟩ u0).setCell ⟨g,1,none⟩ u1).cell? ⟨g,1,none⟩=some u1:=by
 have hfin:((w.setCell ⟨g,0,none⟩ u0).setCell ⟨g,1,none⟩ u1).heap[g]?=some (.cells #[u0,u1] T (0,0)):=by
  simp only [World.setCell,Array.getElem?_modify,h];simp
 obtain ⟨z0,z1,_⟩:=cell_of_two hfin
 exact ⟨z0,z1⟩
theorem cell_past {w:World} {g j:Nat} {o:Obj} {v:Value} (h:w.cell? ⟨g,j,none⟩=some v):(w.alloc o).cell? ⟨g,j,none⟩=some v:=by
 rw [World.cell?_alloc_past _ _ _ (World.block_lt_of_cell? _ _ h)];exact h
set_option maxRecDepth 100000 in
set_option maxHeartbeats 2000000 in
theorem measure_any (a:Option Addr) (n cap:Nat) (rs:List (Int × List Int)) (w:World) (ha:RawsV w a rs) (hok:RawsOk rs) (hl:rs.length=n) (hn:32 * n≤140737488351232) :
  Calls Tryz.prog 94 #[.slice a n cap] w fun e w'=>e=.returned (.tuple #[.int .i64 (sizeOut rs),.agg #[.int .i64 (fault rs 0).1,.int .i64 (fault rs 0).2]])∧Below w.heap.size w w':=by
 have HL:Hid (rs.length=n):=hl
 clear hl
 go_enter Tryz.func94,Tryz.ntmps94
 go_wp2
 go_loopw [4,9] (fun s i wr=>∃ k:Nat,k≤n∧i=.int .i64 k∧s=.int .i64 (sizeTo rs k)∧sizeTo rs k≤1048576∧fault rs 0=fault rs k∧wr.heap[w.heap.size]?=some (.cells #[.int .i64 0,.int .i64 0] 28 (0,0))∧Below w.heap.size w wr) (fun _ i _=>n - (intOf i).toNat)
 case atStart=>exact ⟨0,Nat.zero_le _,rfl,rfl,by rw [sizeTo_zero];omega,rfl,heap_alloc_new w _,(Below.refl _ _).alloc (Nat.le_refl _) _⟩
 case round =>
  obtain ⟨k,hk,rfl,rfl,hsz,hfe,hbox,hnx⟩:=hrel
  have HF:Hid (fault rs 0=fault rs k):=hfe
  clear hfe
  have hlt0:w.heap.size < wr.heap.size:=(Array.getElem?_eq_some_iff.1 hbox).1
  by_cases hlt:k < n
  ·obtain ⟨b,off,aj,cj,nj,rfl,hbs,p1,p2,p3,_,_⟩:=ha k (by rw [HL.out];exact hlt)
   obtain ⟨_,_,_,h4⟩:=hok k (by rw [HL.out];exact hlt)
   rw [p3] at h4
   have HS:Hid (sizeTo rs (k+1)=sizeTo rs k+1+(nthR rs k).2.length):=sizeTo_succ rs k (by rw [HL.out];exact hlt)
   have HT:=fault_step rs k (by rw [HL.out];exact hlt)
   rw [p3] at HT HS
   have HT':Hid (fault rs k=if 65535≤nj then (25,k) else if 1048576 < sizeTo rs (k+1) then (4,k) else fault rs (k+1)):=HT
   have q1:=(hnx.cell (p:=⟨b,off+k * 2,none⟩) hbs).trans p1
   have q2:=(hnx.cell (p:=⟨b,off+k * 2+1,none⟩) hbs).trans p2
   generalize sizeTo rs k=s at hsz HS
   have hki:(k:Int) < (n:Int):=by omega
   have hk0:(0:Int)≤(k:Int):=by omega
   have hW:=fun op w=>wordsOf_any op aj nj cj w (by omega)
   generalize (nthR rs k).1=op at q1 p1
   clear HT ha p1 p2 p3 hok
   obtain ⟨R1,hR1⟩:∃ o,o=Obj.cells #[.int .u16 op,.slice aj nj cj] 60 (0,0):=⟨_,rfl⟩
   have hbx1:((wr.alloc R1).alloc R1).heap[w.heap.size]?=some (.cells #[.int .i64 0,.int .i64 0] 28 (0,0)):=(Below.heap_alloc _ _ _ (by simp;omega)).trans ((Below.heap_alloc _ _ _ hlt0).trans hbox)
   obtain ⟨c0,c1,f1⟩:=cell_of_two hbox
   have f0:wr.frozen? ⟨w.heap.size,0,none⟩=false:=by simp [World.frozen?,hbox]
   by_cases h1:65535≤nj
   ·have b1:decide ((65535:Int) < (nj:Int)+1)=true:=decide_eq_true (by omega)
    have HE:Hid (fault rs 0=(25,k)):=by show _=_;rw [HF.out,HT'.out,if_pos h1]
    have HO:Hid (sizeOut rs=0):=by show _=_;unfold sizeOut;rw [HE.out];rfl
    have hf0:=spot_set hbox (.int .i64 25) (.int .i64 k)
    have hf:=And.intro (cell_past (o:=R1) (cell_past (o:=R1) hf0.1)) (cell_past (o:=R1) (cell_past (o:=R1) hf0.2))
    have HZ:Hid (_∧_):=hf
    have HB:Hid (Below w.heap.size w ((((wr.setCell ⟨w.heap.size,0,none⟩ (.int .i64 25)).setCell ⟨w.heap.size,1,none⟩ (.int .i64 k)).alloc R1).alloc R1)):=(((hnx.setCell (by simp) _).setCell (by simp) _).alloc (by simp;omega) _).alloc (by simp;omega) _
    clear hf hf0 hbx1 hbox
    subst hR1
    go_wp2_with (go_at_call 88;refine (hW _ _).mono ?_;rintro e w' ⟨rfl,rfl⟩)
    exact bodyPost_ret (v:=.tuple #[.int .i64 0,.agg #[.int .i64 25,.int .i64 k]]) (by simp [results,Tryz.results94,go_sem,HZ.out.1,HZ.out.2]) rfl ⟨by rw [HE.out,HO.out],HB.out⟩
   ·have b1:decide ((65535:Int) < (nj:Int)+1)=false:=decide_eq_false (by omega)
    have hbx2:(((wr.alloc R1).alloc R1).alloc R1).heap[w.heap.size]?=some (.cells #[.int .i64 0,.int .i64 0] 28 (0,0)):=(Below.heap_alloc _ _ _ (by simp;omega)).trans hbx1
    have HB2:Hid (Below w.heap.size w (((wr.alloc R1).alloc R1).alloc R1)):=((hnx.alloc hnx.size _).alloc (by simp;omega) _).alloc (by simp;omega) _
    by_cases h2:1048576 < s+1+nj
    ·have b2:decide ((1048576:Int) < (s:Int)+((nj:Int)+1))=true:=decide_eq_true (by omega)
     have HE:Hid (fault rs 0=(4,k)):=by show _=_;rw [HF.out,HT'.out,if_neg h1,if_pos (by rw [HS.out];exact h2)]
     have HO:Hid (sizeOut rs=0):=by show _=_;unfold sizeOut;rw [HE.out];rfl
     have hf:=spot_set hbx2 (.int .i64 4) (.int .i64 k)
     obtain ⟨c0',c1',f1'⟩:=cell_of_two hbx2
     have f0':(((wr.alloc R1).alloc R1).alloc R1).frozen? ⟨w.heap.size,0,none⟩=false:=by simp only [World.frozen?,hbx2];rfl
     have HZ:Hid (_∧_):=hf
     have HB:Hid (Below w.heap.size w (((((wr.alloc R1).alloc R1).alloc R1).setCell ⟨w.heap.size,0,none⟩ (.int .i64 4)).setCell ⟨w.heap.size,1,none⟩ (.int .i64 k))):=(HB2.out.setCell (by simp) _).setCell (by simp) _
     clear hf hbx1 hbx2 hbox
     subst hR1
     go_wp2_with (go_at_call 88;refine (hW _ _).mono ?_;rintro e w' ⟨rfl,rfl⟩)
     exact bodyPost_ret (v:=.tuple #[.int .i64 0,.agg #[.int .i64 4,.int .i64 k]]) (by simp [results,Tryz.results94,go_sem,HZ.out.1,HZ.out.2]) rfl ⟨by rw [HE.out,HO.out],HB.out⟩
    ·have b2:decide ((1048576:Int) < (s:Int)+((nj:Int)+1))=false:=decide_eq_false (by omega)
     have HE:Hid (fault rs 0=fault rs (k+1)):=by show _=_;rw [HF.out,HT'.out,if_neg h1,if_neg (by rw [HS.out];exact h2)]
     have HX:Hid _:=hbx2
     clear hbx1 hbx2 hbox
     subst hR1
     go_wp2_with (go_at_call 88;refine (hW _ _).mono ?_;rintro e w' ⟨rfl,rfl⟩)
     go_roundw
     case rel=>exact ⟨k+1,by omega,by go_num,by rw [HS.out];go_num,by rw [HS.out];omega,HE.out,HX.out,HB2.out⟩
     case measure=>simp [intOf];omega
  ·obtain rfl:k=n:=by omega
   have HE:Hid (fault rs 0=(0,0)):=by show _=_;rw [HF.out];exact fault_end rs k (by rw [HL.out];omega)
   have HO:Hid (sizeOut rs=sizeTo rs k):=by show _=_;unfold sizeOut;rw [HE.out,if_pos rfl,HL.out]
   have hf:=spot_set hbox (.int .i64 0) (.int .i64 0)
   obtain ⟨c0,c1,f1⟩:=cell_of_two hbox
   have f0:wr.frozen? ⟨w.heap.size,0,none⟩=false:=by simp [World.frozen?,hbox]
   have HZ:Hid (_∧_):=hf
   have HB:Hid (Below w.heap.size w ((wr.setCell ⟨w.heap.size,0,none⟩ (.int .i64 0)).setCell ⟨w.heap.size,1,none⟩ (.int .i64 0))):=(hnx.setCell (by simp) _).setCell (by simp) _
   clear hf hbox ha hok
   go_wp2
   exact bodyPost_ret (v:=.tuple #[.int .i64 (sizeTo rs k),.agg #[.int .i64 0,.int .i64 0]]) (by simp [results,Tryz.results94,go_sem,HZ.out.1,HZ.out.2]) rfl ⟨by rw [HE.out,HO.out];rfl,HB.out⟩
end Go.Proofs.YtddkapkkjhomkaaGreatDoor
/-
  What is written is read as it was, and what is read is written as it was: on lists.
-/
namespace Go.Proofs.YtddkapkkjhomkaaGreatDoor
open Go.RowKit

theorem writeTo_within (gen bound:Int) (hg0:0≤gen) (hg1:gen < 4294967296) (hb0:0≤bound) (hb1:bound < 4294967296) (rs:List (Int × List Int)) (hok:RawsOk rs) (hsm:∀ j,j < rs.length→(nthR rs j).2.length < 65535):Within 4294967296 (writeTo gen bound rs rs.length):=by
 intro z hz
 unfold writeTo at hz
 rw [List.take_length,List.mem_append] at hz
 rcases hz with hz | hz
 ·simp at hz;omega
 ·obtain ⟨r,hr,hz⟩:=List.mem_flatMap.1 hz
  obtain ⟨j,hj,rfl⟩:=List.mem_iff_getElem.1 hr
  have e:nthR rs j=rs[j]:=by simp [nthR,List.getD,hj]
  obtain ⟨o1,o2,o3,_⟩:=hok j hj
  have h1:=hsm j hj
  rw [e] at o1 o2 o3 h1
  simp only [rawW,List.mem_cons] at hz
  rcases hz with rfl | hz
  ·constructor <;> omega
  ·exact o3 z hz
end Go.Proofs.YtddkapkkjhomkaaGreatDoor
/-
  What is read is written as it was, and its instructions lie one behind the other: on lists.
-/
namespace Go.Proofs.YtddkapkkjhomkaaGreatDoor
open Go.RowKit

theorem readR_len (zs:List Int):(readR zs).length=(rest zs 5).length:=by simp [readR]
theorem headE_ok (zs:List Int) (h:(headE zs 0).1=0):5≤zs.length∧zs.take 5=[119734787,65536,nth zs 2,nth zs 3,0]∧nth zs 3≠0∧¬ 65536 < nth zs 3:=by
 by_cases l0:zs.length≤0
 ·rw [headE_step _ 0 (by omega),if_pos l0] at h;simp at h
 by_cases w0:wrongE 0 (nth zs 0)≠0
 ·rw [headE_step _ 0 (by omega),if_neg l0,if_pos w0] at h;exact absurd h w0
 rw [headE_step _ 0 (by omega),if_neg l0,if_neg w0] at h
 by_cases l1:zs.length≤1
 ·rw [headE_step _ 1 (by omega),if_pos l1] at h;simp at h
 by_cases w1:wrongE 1 (nth zs 1)≠0
 ·rw [headE_step _ 1 (by omega),if_neg l1,if_pos w1] at h;exact absurd h w1
 rw [headE_step _ 1 (by omega),if_neg l1,if_neg w1] at h
 by_cases l2:zs.length≤2
 ·rw [headE_step _ 2 (by omega),if_pos l2] at h;simp at h
 by_cases w2:wrongE 2 (nth zs 2)≠0
 ·rw [headE_step _ 2 (by omega),if_neg l2,if_pos w2] at h;exact absurd h w2
 rw [headE_step _ 2 (by omega),if_neg l2,if_neg w2] at h
 by_cases l3:zs.length≤3
 ·rw [headE_step _ 3 (by omega),if_pos l3] at h;simp at h
 by_cases w3:wrongE 3 (nth zs 3)≠0
 ·rw [headE_step _ 3 (by omega),if_neg l3,if_pos w3] at h;exact absurd h w3
 rw [headE_step _ 3 (by omega),if_neg l3,if_neg w3] at h
 by_cases l4:zs.length≤4
 ·rw [headE_step _ 4 (by omega),if_pos l4] at h;simp at h
 by_cases w4:wrongE 4 (nth zs 4)≠0
 ·rw [headE_step _ 4 (by omega),if_neg l4,if_pos w4] at h;exact absurd h w4
 have w0':wrongE 0 (nth zs 0)=0:=Decidable.not_not.1 w0
 have w1':wrongE 1 (nth zs 1)=0:=Decidable.not_not.1 w1
 have w3':wrongE 3 (nth zs 3)=0:=Decidable.not_not.1 w3
 have w4':wrongE 4 (nth zs 4)=0:=Decidable.not_not.1 w4
 have e0:nth zs 0=119734787:=by
  unfold wrongE at w0';rw [if_pos rfl] at w0'
  split at w0'
  ·simp at w0'
  ·split at w0'
   ·assumption
   ·simp at w0'
 have e1:nth zs 1=65536:=by
  unfold wrongE at w1';rw [if_neg (by omega),if_pos rfl] at w1'
  split at w1'
  ·assumption
  ·simp at w1'
 have e3:nth zs 3≠0∧¬ 65536 < nth zs 3:=by
  unfold wrongE at w3';rw [if_neg (by omega),if_neg (by omega),if_pos rfl] at w3'
  split at w3'
  ·simp at w3'
  ·split at w3'
   ·simp at w3'
   ·exact ⟨by assumption,by assumption⟩
 have e4:nth zs 4=0:=by
  unfold wrongE at w4';rw [if_neg (by omega),if_neg (by omega),if_neg (by omega),if_pos rfl] at w4'
  split at w4'
  ·assumption
  ·simp at w4'
 refine ⟨by omega,?_,e3.1,e3.2⟩
 rw [take_snoc zs 4 (by omega),take_snoc zs 3 (by omega),take_snoc zs 2 (by omega),take_snoc zs 1 (by omega),take_snoc zs 0 (by omega),e0,e1,e4]
 rfl
theorem readE_ok (zs:List Int) (h:(readE zs).1=0):zs.length≤1048576∧(headE zs 0).1=0∧zs.length≤stop zs 5:=by
 unfold readE at h
 by_cases h1:1048576 < zs.length
 ·rw [if_pos h1] at h;simp at h
 ·rw [if_neg h1] at h
  by_cases h2:(headE zs 0).1≠0
  ·rw [if_pos h2] at h;exact absurd h h2
  ·rw [if_neg h2] at h
   by_cases h3:stop zs 5 < zs.length
   ·rw [if_pos h3] at h;simp at h
   ·exact ⟨by omega,Decidable.not_not.1 h2,by omega⟩
theorem rest_nil_stop (zs:List Int) (p:Nat) (h:rest zs p=[]):stop zs p=p:=by
 by_cases hp:p < zs.length
 ·cases hb:badB zs p with
  | true=>exact stop_bad zs p hp hb
  | false=>rw [rest_go zs p hp hb] at h;simp at h
 ·exact stop_end zs p (by omega)
theorem rest_cons_at (zs:List Int) (p q:Nat) (l:List Nat) (h:rest zs p=q :: l):p=q∧p < zs.length∧badB zs p=false∧rest zs (p+cntN zs p)=l:=by
 by_cases hp:p < zs.length
 ·cases hb:badB zs p with
  | true=>rw [rest_bad zs p hp hb] at h;simp at h
  | false =>
   rw [rest_go zs p hp hb] at h
   injection h with h1 h2
   exact ⟨h1,hp,rfl,h2⟩
 ·rw [rest_end zs p (by omega)] at h;simp at h
theorem rawW_at (zs:List Int) (hw:Within 4294967296 zs) (p:Nat) (hp:p < zs.length) (hb:badB zs p=false):zs.take p ++ rawW (rawAt zs p)=zs.take (p+cntN zs p):=by
 have h1:=cnt_pos hb
 have h2:=cnt_fits hb
 have hx:0≤nth zs p:=(hw.at hp).1
 have hl:(midL zs (p+1) (cntN zs p - 1)).length=cntN zs p - 1:=midL_len zs _ _ (by omega)
 have hv:(((rawAt zs p).2.length:Int)+1) * 65536+(rawAt zs p).1=nth zs p:=by
  show (((midL zs (p+1) (cntN zs p - 1)).length:Int)+1) * 65536+opI zs p=_
  rw [hl]
  have:=cntN_int zs p hx
  unfold opI
  omega
 have e:zs.take (p+cntN zs p)=zs.take (p+1) ++ midL zs (p+1) (cntN zs p - 1):=by
  rw [show p+cntN zs p=(p+1)+(cntN zs p - 1) by omega,List.take_add];rfl
 rw [e,take_snoc zs p hp,rawW,hv,List.append_assoc]
 rfl
theorem back_to (zs:List Int) (hw:Within 4294967296 zs) (hh:(headE zs 0).1=0):∀ k,k≤(rest zs 5).length →
  sizeTo (readR zs) k≤zs.length∧rest zs (sizeTo (readR zs) k)=(rest zs 5).drop k∧stop zs (sizeTo (readR zs) k)=stop zs 5∧writeTo (nth zs 2) (nth zs 3) (readR zs) k=zs.take (sizeTo (readR zs) k)
 | 0,_=>by
  obtain ⟨h1,h2,_⟩:=headE_ok zs hh
  rw [sizeTo_zero]
  exact ⟨h1,rfl,rfl,by rw [h2];simp [writeTo]⟩
 | k+1,hk=>by
  obtain ⟨i1,i2,i3,i4⟩:=back_to zs hw hh k (by omega)
  have hc:(rest zs 5).drop k=(rest zs 5).getD k 0 :: (rest zs 5).drop (k+1):=by
   rw [List.drop_eq_getElem_cons (by omega)];simp [List.getD,show k < (rest zs 5).length by omega]
  rw [hc] at i2
  obtain ⟨e,hp,hb,hn⟩:=rest_cons_at zs _ _ _ i2
  have hkr:k < (readR zs).length:=by rw [readR_len];omega
  have hr:nthR (readR zs) k=rawAt zs (sizeTo (readR zs) k):=by
   rw [e];unfold readR;exact nthR_map _ _ _ (by omega)
  have h1:=cnt_pos hb
  have h2:=cnt_fits hb
  have hs:sizeTo (readR zs) (k+1)=sizeTo (readR zs) k+cntN zs (sizeTo (readR zs) k):=by
   rw [sizeTo_succ _ _ hkr,hr]
   show _+1+(midL zs _ _).length=_
   rw [midL_len zs _ _ (by omega)];omega
  rw [hs]
  refine ⟨h2,hn,?_,?_⟩
  ·rw [← stop_go zs _ hp hb];exact i3
  ·rw [writeTo_succ _ _ _ _ hkr,i4,hr];exact rawW_at zs hw _ hp hb
theorem back_fault (zs:List Int) (hw:Within 4294967296 zs) (hh:(headE zs 0).1=0) (hl:zs.length≤1048576):∀ d k,(readR zs).length - k=d→fault (readR zs) k=(0,0)
 | 0,k,h=>fault_end _ _ (by omega)
 | d+1,k,h=>by
  have hk:k < (readR zs).length:=by omega
  have hk':k < (rest zs 5).length:=by rw [← readR_len];exact hk
  rw [fault_step _ _ hk,if_neg,if_neg,back_fault zs hw hh hl d (k+1) (by omega)]
  ·have:=(back_to zs hw hh (k+1) (by omega)).1;omega
  ·have hr:nthR (readR zs) k=rawAt zs ((rest zs 5).getD k 0):=by unfold readR;exact nthR_map _ _ _ hk'
   obtain ⟨_,h2,h3⟩:=rest_mem zs 5 ((rest zs 5).getD k 0) (by simp [List.getD,hk'])
   have hx:=(hw.at h2).2
   have h4:=cnt_fits h3
   have h5:=cnt_pos h3
   rw [hr]
   show ¬ 65535≤(midL zs _ _).length
   rw [midL_len zs _ _ (by omega)]
   unfold cntN at *
   omega
theorem write_read (zs:List Int) (hw:Within 4294967296 zs) (h:(readE zs).1=0) :
  5≤zs.length∧nth zs 3≠0∧¬ 65536 < nth zs 3∧fault (readR zs) 0=(0,0)∧sizeTo (readR zs) (readR zs).length=zs.length∧writeTo (nth zs 2) (nth zs 3) (readR zs) (readR zs).length=zs:=by
 obtain ⟨h1,h2,h3⟩:=readE_ok zs h
 obtain ⟨h4,_,h5,h6⟩:=headE_ok zs h2
 obtain ⟨i1,i2,i3,i4⟩:=back_to zs hw h2 (rest zs 5).length (Nat.le_refl _)
 rw [List.drop_length] at i2
 have hs:sizeTo (readR zs) (rest zs 5).length=zs.length:=by
  have:=rest_nil_stop zs _ i2
  omega
 rw [readR_len]
 refine ⟨h4,h5,h6,back_fault zs hw h2 h1 _ 0 rfl,hs,?_⟩
 rw [i4,hs,List.take_length]
end Go.Proofs.YtddkapkkjhomkaaGreatDoor
/-
  Plain facts on bytes that say a module: what Decode answers, as functions of the bytes; bytes to module and back, and the other way.
-/
namespace Go.Proofs.YtddkapkkjhomkaaGreatDoor
open Go.RowKit

def instAt (zs : List Int) (b : Int) (p : Nat) : InstT × Int := instI (rawAt zs p).1 (rawAt zs p).2 b
def decF (zs : List Int) (b : Int) : List Nat → Int × Nat
  | [] => (0, 0)
  | p :: ps => if (instAt zs b p).2 ≠ 0 then ((instAt zs b p).2, p) else decF zs b ps
def decE (bs : List Int) : Int × Nat :=
  if splitErr bs ≠ 0 then (splitErr bs, 0) else if (readE (splitL bs)).1 ≠ 0 then readE (splitL bs) else decF (splitL bs) (nth (splitL bs) 3) (rest (splitL bs) 5)
def instsAt (zs : List Int) (b : Int) (ps : List Nat) : List InstT := ps.map fun p => (instAt zs b p).1
def decL (bs : List Int) : List InstT := if (decE bs).1 = 0 then instsAt (splitL bs) (nth (splitL bs) 3) (rest (splitL bs) 5) else []
def decH (bs : List Int) (i : Nat) : Int := if (decE bs).1 = 0 then nth (splitL bs) i else 0
theorem decF_app (zs:List Int) (b:Int):∀ (l m:List Nat),(∀ p ∈ l,(instAt zs b p).2=0)→decF zs b (l ++ m)=decF zs b m
 | [],m,_=>rfl
 | p :: l,m,h=>by
  rw [List.cons_append,decF,if_neg (by simp [h p (by simp)])]
  exact decF_app zs b l m fun q hq=>h q (by simp [hq])
theorem decF_all (zs:List Int) (b:Int) (l:List Nat) (h:∀ p ∈ l,(instAt zs b p).2=0):decF zs b l=(0,0):=by
 have:=decF_app zs b l [] h
 simpa [decF] using this
theorem decF_any (zs:List Int) (b:Int):∀ l:List Nat,(decF zs b l=(0,0)∧∀ p ∈ l,(instAt zs b p).2=0) ∨ (decF zs b l).1≠0
 | []=>.inl ⟨rfl,fun p hp=>by simp at hp⟩
 | p :: l=>by
  rw [decF]
  by_cases h:(instAt zs b p).2=0
  ·rw [if_neg (by simp [h])]
   rcases decF_any zs b l with ⟨h1,h2⟩ | h1
   ·refine .inl ⟨h1,fun q hq=>?_⟩
    rcases List.mem_cons.1 hq with rfl | hq
    ·exact h
    ·exact h2 q hq
   ·exact .inr h1
  ·rw [if_pos h];exact .inr h
theorem readE_any (zs:List Int):readE zs=(0,0) ∨ (readE zs).1≠0:=by
 by_cases h:(readE zs).1=0
 ·left
  obtain ⟨h1,h2,h3⟩:=readE_ok zs h
  unfold readE
  rw [if_neg (by omega),if_neg (by simp [h2]),if_neg (by omega)]
 ·exact .inr h
theorem decE_any (bs:List Int):decE bs=(0,0) ∨ (decE bs).1≠0:=by
 unfold decE
 by_cases h1:splitErr bs=0
 ·rw [if_neg (by simp [h1])]
  by_cases h2:(readE (splitL bs)).1=0
  ·rw [if_neg (by simp [h2])]
   rcases decF_any (splitL bs) (nth (splitL bs) 3) (rest (splitL bs) 5) with ⟨h,_⟩ | h
   ·exact .inl h
   ·exact .inr h
  ·rw [if_pos h2];exact .inr h2
 ·rw [if_pos h1];exact .inr h1
theorem decE_ok {bs:List Int} (h:(decE bs).1=0):splitErr bs=0∧(readE (splitL bs)).1=0∧(∀ p ∈ rest (splitL bs) 5,(instAt (splitL bs) (nth (splitL bs) 3) p).2=0)∧decL bs=instsAt (splitL bs) (nth (splitL bs) 3) (rest (splitL bs) 5)∧decH bs 2=nth (splitL bs) 2∧decH bs 3=nth (splitL bs) 3:=by
 have h0:=h
 unfold decE at h0
 by_cases h1:splitErr bs=0
 ·rw [if_neg (by simp [h1])] at h0
  by_cases h2:(readE (splitL bs)).1=0
  ·rw [if_neg (by simp [h2])] at h0
   rcases decF_any (splitL bs) (nth (splitL bs) 3) (rest (splitL bs) 5) with ⟨h3,h4⟩ | h3
   ·exact ⟨h1,h2,h4,by unfold decL;rw [if_pos h],by unfold decH;rw [if_pos h],by unfold decH;rw [if_pos h]⟩
   ·exact absurd h0 h3
  ·rw [if_pos h2] at h0;exact absurd h0 h2
 ·rw [if_pos h1] at h0;exact absurd h0 h1
theorem rawAt_within {zs:List Int} (hw:Within 4294967296 zs) (p:Nat):Within 4294967296 (rawAt zs p).2:=by
 intro z hz
 unfold rawAt midL at hz
 exact hw z (List.mem_of_mem_drop (List.mem_of_mem_take hz))
/-! ### what is read lies within its bounds -/

theorem argI_ok {c b:Int} {zs:List Int} (hw:Within 4294967296 zs) (hl:zs.length≤1048576):ArgOk (argI c zs b).1:=by
 have h0:ArgOk noArg:=⟨by decide,by decide,by decide,by decide,by decide⟩
 unfold argI
 split
 ·exact h0
 ·rename_i h1
  split
  ·have h2:=(textI_range zs).2.2.2.2
   exact ⟨by simp,by simp,by simp,by simp,by simp only;omega⟩
  ·split
   ·exact h0
   ·split
    ·exact h0
    ·have hk:=kindI_range c
     have hn:=hw.at (k:=0) (by omega)
     exact ⟨by simp only;omega,by simp only;omega,hn.1,hn.2,by simp [ByteArray.size]⟩
theorem argsI_ok (f:Frm) (b:Int):∀ (fuel:Nat) (zs:List Int) (acc:List ArgT),Within 4294967296 zs→zs.length≤1048576→ArgsOk acc→ArgsOk (argsI f b fuel zs acc).1∧(argsI f b fuel zs acc).1.length≤acc.length+fuel
 | 0,zs,acc,_,_,_=>by rw [argsI];exact ⟨argsOk_nil,by simp⟩
 | fuel+1,zs,acc,hw,hl,ha=>by
  rw [argsI]
  split
  ·split
   ·exact ⟨ha,by simp only;omega⟩
   ·exact ⟨argsOk_nil,by simp⟩
  ·split
   ·exact ⟨argsOk_nil,by simp⟩
   ·have:=argsI_ok f b fuel (zs.drop (argI (letterI f acc.length) zs b).2.1.toNat) (acc ++ [(argI (letterI f acc.length) zs b).1]) (fun z hz=>hw z (List.mem_of_mem_drop hz)) (by rw [List.length_drop];omega) (argsOk_push ha (argI_ok hw hl))
    refine ⟨this.1,?_⟩
    have h2:=this.2
    rw [List.length_append,List.length_singleton] at h2
    omega
theorem instI_ok {op b:Int} {zs:List Int} (ho0:0≤op) (ho1:op < 65536) (hw:Within 4294967296 zs):InstOk (instI op zs b).1:=by
 have h0:InstOk noInst:=⟨by decide,by decide,by decide,by decide,by decide,by decide,argsOk_nil,by decide⟩
 unfold instI
 by_cases h1:65535≤zs.length
 ·rw [if_pos h1];exact h0
 ·rw [if_neg h1]
  split
  ·exact h0
  ·generalize (lookF refT op).1=f
   unfold instF
   split
   ·exact h0
   ·split
    ·exact h0
    ·split
     ·exact h0
     ·have ha:=argsI_ok f b (zs.length+1) (zs.drop (f.2.1.toNat+f.2.2.1.toNat)) [] (fun z hz=>hw z (List.mem_of_mem_drop hz)) (by rw [List.length_drop];omega) argsOk_nil
      have hty:0≤(headTy f.2.1 zs b).1∧(headTy f.2.1 zs b).1 < 4294967296:=by
       unfold headTy
       split
       ·split
        ·simp
        ·exact hw.at (by omega)
       ·simp
      have hre:0≤(headRes f.2.2.1 zs b f.2.1.toNat).1∧(headRes f.2.2.1 zs b f.2.1.toNat).1 < 4294967296:=by
       unfold headRes
       split
       ·split
        ·simp
        ·exact hw.at (by omega)
       ·simp
      refine ⟨ho0,ho1,hty.1,hty.2,hre.1,hre.2,ha.1,?_⟩
      have:=ha.2
      simp only [List.length_nil,Nat.zero_add] at this ⊢
      omega
theorem instAt_ok {zs:List Int} (hw:Within 4294967296 zs) (b:Int) (p:Nat):InstOk (instAt zs b p).1:=instI_ok (opI_lo _ _) (opI_hi _ _) (rawAt_within hw p)
theorem instsAt_ok {zs:List Int} (hw:Within 4294967296 zs) (b:Int) (ps:List Nat):InstsOk (instsAt zs b ps):=by
 intro j hj
 rw [nthI_lt _ _ hj]
 simp only [instsAt,List.getElem_map]
 exact instAt_ok hw b _
theorem decL_ok {bs:List Int} (hw:Within 256 bs):InstsOk (decL bs):=by
 unfold decL
 split
 ·exact instsAt_ok (splitL_within bs hw) _ _
 ·exact instsOk_nil
theorem nth_range32 {zs:List Int} (hw:Within 4294967296 zs) (i:Nat):0≤nth zs i∧nth zs i < 4294967296:=by
 by_cases h:i < zs.length
 ·exact hw.at h
 ·simp [nth,List.getD,List.getElem?_eq_none (by omega:zs.length≤i)]
theorem decH_range {bs:List Int} (hw:Within 256 bs) (i:Nat):0≤decH bs i∧decH bs i < 4294967296:=by
 unfold decH
 split
 ·exact nth_range32 (splitL_within bs hw) i
 ·simp
end Go.Proofs.YtddkapkkjhomkaaGreatDoor
/-
  What Split of the words package returns, for every list of bytes: its error, and its words in new memory; nothing that was there has turned.
-/
namespace Go.Proofs.YtddkapkkjhomkaaGreatDoor
open Go.RowKit

theorem Split.info:(Tryz.prog.info? 22).map (fun i=>(i.zero,i.size,i.bytes))=some (some (.int .u32 0),1,4):=by kernel_rfl
theorem split_large (a:Option Addr) (n cap:Nat) (w:World) (h:4194304 < n) :
  Calls Tryz.prog 42 #[.slice a n cap] w fun e w'=>e=.returned (.tuple #[.slice none 0 0,.int .i64 4])∧w=w':=by
 have h':(4194304:Int) < (n:Int):=by omega
 go_enter Tryz.func42,Tryz.ntmps42
 go_wp2
 go_ret2
 exact ⟨rfl,rfl⟩
theorem split_odd (a:Option Addr) (n cap:Nat) (w:World) (h:¬ 4194304 < n) (h2:¬ n % 4=0) :
  Calls Tryz.prog 42 #[.slice a n cap] w fun e w'=>e=.returned (.tuple #[.slice none 0 0,.int .i64 10])∧w=w':=by
 have h':¬ (4194304:Int) < (n:Int):=by omega
 have h2':(((n:Int) % 4) == 0)=false:=by simp;omega
 go_enter Tryz.func42,Tryz.ntmps42
 go_wp2
 go_ret2
 exact ⟨rfl,rfl⟩
set_option maxHeartbeats 1000000 in
theorem split_ok (a:Option Addr) (m cap:Nat) (zs:List Int) (w:World) (ha:View .u8 w a zs) (hl:zs.length=4 * m) (hw:Within 256 zs) (h:¬ 4194304 < 4 * m) :
  Calls Tryz.prog 42 #[.slice a (4 * m) cap] w fun e w'=>e=.returned (.tuple #[.slice (some ⟨w.heap.size,0,none⟩) m m,.int .i64 0]) ∧
   w'.ownsRow w.heap.size 22 1 (.slice (some ⟨w.heap.size,0,none⟩) m m) m ((splitL zs).map (Value.int .u32))∧Below w.heap.size w w':=by
 obtain ⟨i0,hi,hz0,hz1,hz2⟩:=info_parts Split.info
 have HL:Hid (zs.length=4 * m):=hl
 clear hl
 have h':¬ (4194304:Int) < 4 * (m:Int):=by omega
 go_enter Tryz.func42,Tryz.ntmps42
 go_wp2_with (at_make;refine wpList_make_full _ rfl _ _ 58 rfl w.heap.size 22 i0 (.int .u32 0) 1 Tryz.underlying58 hi hz0 hz1 _ _ _ _ m rfl rfl (by omega) (by omega) (by rw [hz2];omega) (by unfold maxLen;omega) (Nat.le_refl _) ?_)
 intro w1 hown1 hgrow1
 have hb1:Below w.heap.size w w1:=(Below.refl _ w).grown hgrow1 (Nat.le_refl _) (by simp)
 have hr1:=made_row zs hown1
 rw [← partL_zero zs zs] at hr1
 clear hown1 hgrow1
 go_wp2
 go_loopw [20] (fun i wr=>∃ k:Nat,k≤4 * m∧i=.int .i64 k∧wr.ownsRow w.heap.size 22 1 (.slice (some ⟨w.heap.size,0,none⟩) m m) m ((partL zs k m).map (Value.int .u32))∧Below w.heap.size w wr)
  (fun i _=>4 * m - (intOf i).toNat)
 case atStart=>exact ⟨0,Nat.zero_le _,rfl,hr1,hb1⟩
 case round =>
  obtain ⟨k,hk,rfl,hown,hnx⟩:=hrel
  clear hr1 hb1
  by_cases hlt:k < 4 * m
  ·obtain ⟨b,off,rfl,hbs,hc⟩:=ha k (by rw [HL.out];exact hlt)
   have hx:=hw.at (k:=k) (by rw [HL.out];exact hlt)
   have hcr:wr.cell? ⟨b,off+k,none⟩=some (.int .u8 (nth zs k)):=(hnx.cell (p:=⟨b,off+k,none⟩) hbs).trans hc
   have hpb:=partW_bounds zs k (k / 4) hw (by rw [HL.out];omega)
   have HP:Hid (bits .or .u32 (partW zs k (k / 4)) (plc (nth zs k) (k % 4))=partW zs (k+1) (k / 4)):=partW_step zs k hw (by rw [HL.out];exact hlt)
   have hd:wr.cell? ⟨w.heap.size,k / 4,none⟩=some (.int .u32 (partW zs k (k / 4))):=by
    rw [hown.cellAt (k / 4) (by omega)]
    have:k / 4 < m:=by omega
    simp [partL,this]
   have hf:wr.frozen? ⟨w.heap.size,k / 4,none⟩=false:=hown.frozenAt _
   have hs:=(hown.stored (k / 4) (.int .u32 (partW zs (k+1) (k / 4)))).1
   rw [← List.map_set,partL_set] at hs
   generalize nth zs k=x at hx hcr HP
   generalize partW zs k (k / 4)=y at hpb hd HP
   have hx0:=hx.1
   have hx1:=hx.2
   have hy0:=hpb.1
   have hy1:=hpb.2
   have hk0:(0:Int)≤(k:Int) / 4:=by omega
   have hk4:(k:Int) / 4 < (m:Int):=by omega
   have eq:(k:Int).tdiv 4=((k / 4:Nat):Int):=by rw [Int.tdiv_eq_ediv_of_nonneg (by omega)];omega
   have em:(k:Int).tmod 4=((k % 4:Nat):Int):=by rw [Int.tmod_eq_emod_of_nonneg (by omega)];omega
   have eq':(k:Int) / 4=((k / 4:Nat):Int):=by omega
   have em':(k:Int) % 4=((k % 4:Nat):Int):=by omega
   have hj:k / 4 < m:=by omega
   have hr:k % 4 < 4:=by omega
   have HS:Hid ((wr.setCell ⟨w.heap.size,k / 4,none⟩ (.int .u32 (bits .or .u32 y (plc x (k % 4))))).ownsRow w.heap.size 22 1 (.slice (some ⟨w.heap.size,0,none⟩) m m) m ((partL zs (k+1) m).map (Value.int .u32))):=by rw [HP.out];exact hs
   clear hc hx hpb hown ha hs HP hk0 hk4
   generalize k / 4=j at *
   generalize k % 4=r at *
   have hA:=fun wx=>atPlace_any x (r:Int) wx hx0 hx1 (by omega) (by omega)
   have hj0:(0:Int)≤(j:Int):=by omega
   have hj1:(j:Int) < (m:Int):=by omega
   have hwj:IntKind.i64.wrap (j:Int)=(j:Int):=by rw [IntKind.wrap_i64];omega
   go_wp2
   go_region_with (go_at_call 84;refine (hA _).mono ?_;rintro e w' ⟨rfl,rfl⟩)
   all_goals
    go_wp2
    go_roundw
    case rel=>exact ⟨k+1,by omega,by go_num,HS.out.drew,(hnx.setCell (Nat.le_refl _) _).drew⟩
    case measure=>simp [intOf];omega
  ·go_wp2
   go_ret2
   obtain rfl:k=4 * m:=by omega
   have e:=partL_whole zs (by rw [HL.out];omega)
   rw [HL.out,show 4 * m / 4=m by omega] at e
   rw [e] at hown
   exact ⟨rfl,hown,hnx⟩
theorem split_any (a:Option Addr) (n cap:Nat) (zs:List Int) (w:World) (ha:View .u8 w a zs) (hl:zs.length=n) (hw:Within 256 zs) :
  Calls Tryz.prog 42 #[.slice a n cap] w fun e w'=>∃ ax m,e=.returned (.tuple #[.slice ax m m,.int .i64 (splitErr zs)])∧(splitOut zs).length=m∧View .u32 w' ax (splitOut zs)∧NewAt w.heap.size ax∧Below w.heap.size w w':=by
 by_cases h:4194304 < n
 ·refine (split_large a n cap w h).mono ?_
  rintro e w' ⟨rfl,rfl⟩
  rw [splitErr_large zs (by omega),splitOut_large zs (by omega)]
  exact ⟨none,0,rfl,rfl,view_nil,newAt_none,Below.refl _ _⟩
 ·by_cases h2:n % 4=0
  ·obtain ⟨m,rfl⟩:∃ m,n=4 * m:=⟨n / 4,by omega⟩
   refine (split_ok a m cap zs w ha hl hw h).mono ?_
   rintro e w' ⟨rfl,hown,hb⟩
   rw [splitErr_ok zs (by omega) (by omega),splitOut_ok zs (by omega) (by omega)]
   have hs:(splitL zs).length=m:=by rw [splitL_len,hl];omega
   exact ⟨_,m,rfl,hs,View.ofRow hown hs,newAt_mk (Nat.le_refl _),hb⟩
  ·refine (split_odd a n cap w h h2).mono ?_
   rintro e w' ⟨rfl,rfl⟩
   rw [splitErr_odd zs (by omega) (by omega),splitOut_odd zs (by omega) (by omega)]
   exact ⟨none,0,rfl,rfl,view_nil,newAt_none,Below.refl _ _⟩
end Go.Proofs.YtddkapkkjhomkaaGreatDoor
/-
  What Write of frame returns, for every head and every list of instructions: its error and its place, or the words, in new memory.
-/
namespace Go.Proofs.YtddkapkkjhomkaaGreatDoor
open Go.RowKit

theorem write_bound (gen bound:Int) (a:Option Addr) (n cap:Nat) (w:World) (hb0:0≤bound) (hb1:bound < 4294967296) (hb:bound=0 ∨ 65536 < bound) :
  Calls Tryz.prog 46 #[.agg #[.int .u32 gen,.int .u32 bound],.slice a n cap] w fun e w'=>e=.returned (.tuple #[.slice none 0 0,.agg #[.int .i64 24,.int .i64 0]])∧Below w.heap.size w w':=by
 have hM:=fun w=>mayBeBound_any bound w hb0 hb1
 have e1:(!(decide (bound=0) || decide (65536 < bound)))=false:=by rcases hb with h1 | h1 <;> simp [h1]
 rw [e1] at hM
 clear hb e1
 go_enter Tryz.func46,Tryz.ntmps46
 go_wp2_with (go_at_call 93;refine (hM _).mono ?_;rintro e w' ⟨rfl,rfl⟩)
 exact bodyPost_ret (v:=.tuple #[.slice none 0 0,.agg #[.int .i64 24,.int .i64 0]]) (by simp [results,Tryz.results46,go_sem]) rfl ⟨rfl,((Below.refl _ _).alloc (Nat.le_refl _) _).alloc (by simp) _⟩
theorem bound_ok {bound:Int} (hb1:¬ bound=0) (hb2:¬ 65536 < bound):(!(decide (bound=0) || decide (65536 < bound)))=true:=by simp [hb1];omega
set_option maxRecDepth 100000 in
set_option maxHeartbeats 4000000 in
theorem write_fault (gen bound:Int) (a:Option Addr) (n cap:Nat) (rs:List (Int × List Int)) (w:World) (hb0:0≤bound) (hb1:¬ bound=0) (hb2:¬ 65536 < bound) (ha:RawsV w a rs) (hok:RawsOk rs) (hl:rs.length=n) (hn:32 * n≤140737488351232) (hz:¬ (fault rs 0).1=0) :
  Calls Tryz.prog 46 #[.agg #[.int .u32 gen,.int .u32 bound],.slice a n cap] w fun e w'=>e=.returned (.tuple #[.slice none 0 0,.agg #[.int .i64 (fault rs 0).1,.int .i64 (fault rs 0).2]])∧Below w.heap.size w w':=by
 have hF:=fun wx (hb:Below w.heap.size w wx)=>measure_any a n cap rs wx (ha.below hb) hok hl hn
 have hM:=fun w=>mayBeBound_any bound w hb0 (by omega)
 rw [bound_ok hb1 hb2] at hM
 have hzb:((fault rs 0).1 == 0)=false:=by simpa using hz
 clear hz
 generalize (fault rs 0).1=er at hF hzb ⊢
 generalize (fault rs 0).2=at_ at hF ⊢
 generalize sizeOut rs=so at hF
 clear hl hb1 hb2
 go_enter Tryz.func46,Tryz.ntmps46
 go_wp2_with (go_at_call 93;refine (hM _).mono ?_;rintro e w' ⟨rfl,rfl⟩)
 refine (hF _ (((Below.refl _ w).alloc (Nat.le_refl _) (.cells #[.int .u32 gen,.int .u32 bound] 80)).alloc (by simp) (.cells #[.int .i64 0,.int .i64 0] 28))).mono ?_
 rintro e w1 ⟨rfl,hbF⟩
 have hres1:w1.heap[w.heap.size+1]?=some (.cells #[.int .i64 0,.int .i64 0] 28 (0,0)):=by
  rw [hbF.block _ (by simp)]
  have:=heap_alloc_new (w.alloc (.cells #[.int .u32 gen,.int .u32 bound] 80)) (.cells #[.int .i64 0,.int .i64 0] 28)
  simpa using this
 have s1:w.heap.size+2≤w1.heap.size:=by have:=hbF.size;simp at this;omega
 have hbw1:Below w.heap.size w w1:=(((Below.refl _ w).alloc (Nat.le_refl _) _).alloc (by simp) _).trans (hbF.mono (by simp;omega))
 have hres2:=(Below.heap_alloc w1 (.cells #[.int .i64 er,.int .i64 at_] 28) _ (by omega)).trans hres1
 have hbw2:=hbw1.alloc (by omega) (.cells #[.int .i64 er,.int .i64 at_] 28)
 obtain ⟨c0,c1,f1⟩:=cell_of_two hres2
 have f0:(w1.alloc (.cells #[.int .i64 er,.int .i64 at_] 28)).frozen? ⟨w.heap.size+1,0,none⟩=false:=by simp [World.frozen?,hres2]
 have hz:=spot_set hres2 (.int .i64 er) (.int .i64 at_)
 have HZ:Hid (_∧_):=hz
 have HB:Hid _:=hbw2
 clear hz hres1 hres2 hbw1 hbF hF hbw2 hM
 go_wp2
 go_region
 all_goals
  go_wp2
  exact bodyPost_ret (v:=.tuple #[.slice none 0 0,.agg #[.int .i64 er,.int .i64 at_]]) (by simp [results,Tryz.results46,go_sem,HZ.out.1,HZ.out.2]) rfl ⟨rfl,by first | exact ((HB.out.setCell (by simp) _).setCell (by simp) _).drew | exact ((HB.out.drew.setCell (by simp) _).setCell (by simp) _) | exact ((HB.out.setCell (by simp) _).setCell (by simp) _)⟩
set_option maxRecDepth 100000 in
set_option maxHeartbeats 4000000 in
theorem write_ok (gen bound:Int) (a:Option Addr) (n cap:Nat) (rs:List (Int × List Int)) (w:World) (hb0:0≤bound) (hb1:¬ bound=0) (hb2:¬ 65536 < bound) (ha:RawsV w a rs) (hok:RawsOk rs) (hl:rs.length=n) (hn:32 * n≤140737488351232) (hz:fault rs 0=(0,0)) :
  Calls Tryz.prog 46 #[.agg #[.int .u32 gen,.int .u32 bound],.slice a n cap] w fun e w'=>∃ ax cx m,e=.returned (.tuple #[.slice ax m cx,.agg #[.int .i64 0,.int .i64 0]])∧(writeTo gen bound rs n).length=m ∧
   w'.ownsRow w.heap.size 22 1 (.slice ax m cx) m ((writeTo gen bound rs n).map (Value.int .u32))∧Below w.heap.size w w':=by
 obtain ⟨i0,hi,hz0,hz1,hz2⟩:=info_parts RefWrite.info
 have HL:Hid (rs.length=n):=hl
 have HN:Hid (∀ k,k≤n→sizeTo rs k≤1048576∧∀ j,j < k→(nthR rs j).2.length < 65535):=by
  have:=fault_none rs (by rw [hz])
  rw [hl] at this
  exact this
 have HWL:Hid (∀ k,k≤n→(writeTo gen bound rs k).length=sizeTo rs k):=fun k hk=>writeTo_len gen bound rs k (by omega)
 have HWS:Hid (∀ k,k < n→writeTo gen bound rs (k+1)=writeTo gen bound rs k ++ rawW (nthR rs k)):=fun k hk=>writeTo_succ gen bound rs k (by omega)
 have hF:=fun wx (hb:Below w.heap.size w wx)=>measure_any a n cap rs wx (ha.below hb) hok hl hn
 have hM:=fun w=>mayBeBound_any bound w hb0 (by omega)
 rw [bound_ok hb1 hb2] at hM
 have hso:sizeOut rs=(sizeTo rs n:Int):=by unfold sizeOut;rw [hz,if_pos rfl,hl]
 rw [hz,hso] at hF
 have hsn:=(HN.out n (Nat.le_refl _)).1
 generalize hsn':sizeTo rs n=sn at hsn hF
 clear hl hz hb1 hb2 hso
 go_enter Tryz.func46,Tryz.ntmps46
 go_wp2_with (go_at_call 93;refine (hM _).mono ?_;rintro e w' ⟨rfl,rfl⟩)
 refine (hF _ (((Below.refl _ w).alloc (Nat.le_refl _) (.cells #[.int .u32 gen,.int .u32 bound] 80)).alloc (by simp) (.cells #[.int .i64 0,.int .i64 0] 28))).mono ?_
 rintro e w1 ⟨rfl,hbF⟩
 have hres1:w1.heap[w.heap.size+1]?=some (.cells #[.int .i64 0,.int .i64 0] 28 (0,0)):=by
  rw [hbF.block _ (by simp)]
  have:=heap_alloc_new (w.alloc (.cells #[.int .u32 gen,.int .u32 bound] 80)) (.cells #[.int .i64 0,.int .i64 0] 28)
  simpa using this
 have hbox1:w1.heap[w.heap.size]?=some (.cells #[.int .u32 gen,.int .u32 bound] 80 (0,0)):=by
  rw [hbF.block _ (by simp;omega),Below.heap_alloc _ _ _ (by simp)]
  exact heap_alloc_new w _
 have s1:w.heap.size+2≤w1.heap.size:=by have:=hbF.size;simp at this;omega
 have hbw1:Below w.heap.size w w1:=(((Below.refl _ w).alloc (Nat.le_refl _) _).alloc (by simp) _).trans (hbF.mono (by simp;omega))
 clear hF hbF hM
 go_wp2_with (at_make;refine wpList_make_own _ rfl _ _ 58 rfl (w.heap.size+2) 22 i0 (.int .u32 0) 1 Tryz.underlying58 hi hz0 hz1 _ _ _ sn rfl rfl (by omega) (by rw [hz2];omega) (by unfold maxLen;omega) (by simp;omega) ?_)
 intro w2 hown2 hgrow2
 have s2:=hgrow2.size
 simp only [World.size_alloc] at hown2 s2
 have hres2:w2.heap[w.heap.size+1]?=some (.cells #[.int .i64 0,.int .i64 0] 28 (0,0)):=(hgrow2.block _ (by simp;omega) (by simp)).trans ((Below.heap_alloc w1 _ _ (by omega)).trans hres1)
 have hbox2:=(hgrow2.block w.heap.size (by simp;omega) (by simp)).trans ((Below.heap_alloc w1 _ _ (by omega)).trans hbox1)
 have hbw2:Below w.heap.size w w2:=(hbw1.alloc (by omega) _).grown hgrow2 (by simp;omega) (fun k hk=>by cases hk)
 obtain ⟨c0,c1,_⟩:=cell_of_two hbox2
 clear hgrow2 hres1 hbox1 hbox2 hbw1
 generalize w1.heap.size=G at *
 go_wp2_with (at_builtin;refine wpList_append_lies _ rfl (.tmp 27) (.tmp 32) 58 rfl (w.heap.size+2) 22 i0 (.int .u32 0) 1 4 Tryz.underlying58 hi hz0 hz1 hz2 rfl (by omega) (.slice (some ⟨G+1,0,none⟩) 0 sn) 0 [] rfl (hown2.alloc _) ⟨w2.heap.size,0,none⟩ 5 5 [.int .u32 119734787,.int .u32 65536,.int .u32 gen,.int .u32 bound,.int .u32 0] rfl rfl (World.news_of_block (cs:=#[.int .u32 119734787,.int .u32 65536,.int .u32 gen,.int .u32 bound,.int .u32 0]) (t:=22) (fr:=(0,0)) (heap_alloc_new w2 _)) (by simp [Value.oneCell']) (by omega) (by unfold maxLen;omega) (by omega) (by simp;omega) (w2.heap.size+1) (by simp) ?_)
 intro g3 cap3 w3 hown3 hgrow3 hat3 hlt3
 have hres3:=(hgrow3.block (w.heap.size+1) (by simp;omega) (fun e=>by simp [Value.ownBlock] at e;omega)).trans ((Below.heap_alloc w2 _ _ (by omega)).trans hres2)
 have hbw3:Below w.heap.size w w3:=(hbw2.alloc (by omega) _).grown hgrow3 (by simp;omega) (fun k hk=>by simp [Value.ownBlock] at hk;omega)
 clear hgrow3 hat3 hown2 hres2 hbw2 hlt3 c0 c1
 go_wp2
 go_loopw [8,36] (fun v i wr=>∃ (k:Nat),k≤n∧i=.int .i64 k∧wr.ownsRow (w.heap.size+2) 22 1 v (sizeTo rs k) ((writeTo gen bound rs k).map (Value.int .u32)) ∧
   wr.heap[w.heap.size+1]?=some (.cells #[.int .i64 0,.int .i64 0] 28 (0,0))∧Below w.heap.size w wr)
  (fun _ i _=>n - (intOf i).toNat)
 case atStart=>exact ⟨0,Nat.zero_le _,rfl,by simpa [writeTo,sizeTo] using hown3,hres3,hbw3⟩
 case round =>
  obtain ⟨k,hk,rfl,hown,hres,hnx⟩:=hrel
  obtain ⟨ax,cx,rfl⟩:=own_shape hown
  clear hown3 hres3 hbw3
  have hsz:=hnx.size
  have hlt1:w.heap.size+1 < wr.heap.size:=(Array.getElem?_eq_some_iff.1 hres).1
  have hob:∀ j,Value.ownBlock (.slice ax (sizeTo rs k) cx)=some j→w.heap.size+2≤j∧j < wr.heap.size:=fun j hj=>by
   rcases hown.2 with ⟨h1,_⟩ | ⟨g,c,cur,h1,h2,h3,_⟩
   ·rw [h1] at hj;simp [Value.ownBlock] at hj
   ·rw [h1] at hj;simp [Value.ownBlock] at hj;subst hj;exact ⟨h2,(Array.getElem?_eq_some_iff.1 h3).1⟩
  by_cases hlt:k < n
  ·obtain ⟨b,off,aj,cj,nj,rfl,hbs,p1,p2,p3,p4,_⟩:=ha k (by rw [HL.out];exact hlt)
   obtain ⟨o1,o2,_,_⟩:=hok k (by rw [HL.out];exact hlt)
   have HS:Hid (sizeTo rs (k+1)=sizeTo rs k+1+nj):=by show _=_;rw [sizeTo_succ rs k (by rw [HL.out];exact hlt),p3]
   have h1:=(HN.out k hk).1
   have h2:=(HN.out (k+1) hlt).1
   have h3:=(HN.out (k+1) hlt).2 k (by omega)
   rw [HS.out] at h2
   rw [p3] at h3
   have HWK:Hid (writeTo gen bound rs (k+1)=writeTo gen bound rs k ++ ((((nj:Int)+1) * 65536+(nthR rs k).1) :: (nthR rs k).2)):=by
    show _=_;rw [HWS.out k hlt,rawW,p3]
   have HP3:Hid ((nthR rs k).2.length=nj):=p3
   have q1:=(hnx.cell (p:=⟨b,off+k * 2,none⟩) hbs).trans p1
   have q2:=(hnx.cell (p:=⟨b,off+k * 2+1,none⟩) hbs).trans p2
   have hki:(k:Int) < (n:Int):=by omega
   have hk0:(0:Int)≤(k:Int):=by omega
   have hW:=fun wx=>firstWord_any (nthR rs k).1 aj nj cj wx h3 o1 o2
   clear p1 p2 p3 hok ha
   generalize hs:sizeTo rs k=s at *
   generalize writeTo gen bound rs k=ws at *
   generalize (nthR rs k).1=op at *
   generalize (nthR rs k).2=ms at *
   go_wp2_with fail
   refine (hW _).mono ?_
   rintro e w4 ⟨rfl,hb4⟩
   have s4:=hb4.size
   simp only [World.size_alloc] at s4
   have hown4:=own_below (hown.alloc (.cells #[.int .u16 op,.slice aj nj cj] 60)) hb4
   have hr4:=(hb4.block wr.heap.size (by simp)).trans (heap_alloc_new wr (.cells #[.int .u16 op,.slice aj nj cj] 60))
   have hres4:=(hb4.block (w.heap.size+1) (by simp;omega)).trans ((Below.heap_alloc wr _ _ hlt1).trans hres)
   have hbw4:Below w.heap.size w w4:=(hnx.alloc hsz _).trans (hb4.mono (by simp;omega))
   clear hb4 hW q1 q2 hown hres hnx
   go_wp2_with (at_builtin;refine wpList_append_lies _ rfl (.tmp 40) (.tmp 43) 58 rfl (w.heap.size+2) 22 i0 (.int .u32 0) 1 4 Tryz.underlying58 hi hz0 hz1 hz2 rfl (by omega) (.slice ax s cx) s _ rfl (hown4.alloc _) ⟨w4.heap.size,0,none⟩ 1 1 [.int .u32 (((nj:Int)+1) * 65536+op)] rfl rfl (World.news_of_block (cs:=#[.int .u32 (((nj:Int)+1) * 65536+op)]) (t:=22) (fr:=(0,0)) (heap_alloc_new w4 _)) (by simp [Value.oneCell']) (by omega) (by unfold maxLen;omega) (by omega) (by simp;omega) (w4.heap.size+1) (by simp) ?_)
   intro g5 cap5 w5 hown5 hgrow5 hat5 hlt5
   have hr5:=(hgrow5.block wr.heap.size (by simp;omega) (fun e=>by have:=(hob _ e.symm).2;omega)).trans ((Below.heap_alloc w4 _ _ (by omega)).trans hr4)
   have hres5:=(hgrow5.block (w.heap.size+1) (by simp;omega) (fun e=>by have:=(hob _ e.symm).1;omega)).trans ((Below.heap_alloc w4 _ _ (by omega)).trans hres4)
   have hbw5:Below w.heap.size w w5:=(hbw4.alloc (by omega) _).grown hgrow5 (by simp;omega) (fun k hk=>(by have:=(hob k hk).1;omega))
   have s5:=hgrow5.size
   simp only [World.size_alloc] at s5
   obtain ⟨d0,d1,_⟩:=cell_of_two hr5
   have hg5:w.heap.size+2≤g5:=by
    rcases hat5 with h | h
    ·exact (hob _ h).1
    ·omega
   clear hgrow5 hat5 hown4 hr4 hres4 hbw4 hob hr5
   have hown6:w5.ownsRow (w.heap.size+2) 22 1 (.slice (some ⟨g5,0,none⟩) (s+1) cap5) (s+1) ((ws ++ [((nj:Int)+1) * 65536+op]).map (Value.int .u32)):=by simpa using hown5
   clear hown5
   by_cases hnj:nj=0
   ·subst hnj
    have hms:ms=[]:=List.eq_nil_of_length_eq_zero HP3.out
    subst hms
    have hcap:s+1≤cap5:=by
     rcases hown6.2 with ⟨h,_⟩ | ⟨g,c',cur,h,_,_,h4,_⟩
     ·simp at h
     ·cases h;exact h4
    go_wp2_with (at_builtin;refine append_run _ rfl (.tmp 45) (.tmp 47) 58 rfl (.slice (some ⟨g5,0,none⟩) (s+1) cap5) (.slice aj 0 cj) _ _ rfl rfl (fun ty=>run_append_nothing _ _ ty 22 i0 Tryz.underlying58 hi (some ⟨g5,0,none⟩) (s+1) cap5 hcap aj cj) ?_)
    go_wp2
    go_roundw
    case rel=>exact ⟨k+1,by omega,by go_num,by rw [HWK.out,HS.out];simpa using hown6,hres5,hbw5⟩
    case measure=>simp [intOf];omega
   ·obtain ⟨b6,off6,rfl,_,_⟩:=p4 0 (by rw [HP3.out];omega)
    have hv5:=p4.below hbw5
    have hnews:∀ j u,(ms.map (Value.int .u32))[j]?=some u→w5.cell? ((⟨b6,off6,none⟩:Addr).add j)=some u:=by
     intro j u hj
     rw [List.getElem?_map] at hj
     have hjl:j < ms.length:=by
      rcases Nat.lt_or_ge j ms.length with h | h
      ·exact h
      ·rw [List.getElem?_eq_none h] at hj;simp at hj
     obtain ⟨b',off',e',_,hc'⟩:=hv5 j hjl
     simp at e'
     obtain ⟨rfl,rfl⟩:=e'
     rw [Addr.add_lit,hc',← hj,List.getElem?_eq_getElem hjl]
     simp [nth,List.getD,hjl]
    clear p4 hv5
    go_wp2_with (at_builtin;refine wpList_append_lies _ rfl (.tmp 45) (.tmp 47) 58 rfl (w.heap.size+2) 22 i0 (.int .u32 0) 1 4 Tryz.underlying58 hi hz0 hz1 hz2 rfl (by omega) (.slice (some ⟨g5,0,none⟩) (s+1) cap5) (s+1) _ rfl hown6 ⟨b6,off6,none⟩ nj cj (ms.map (Value.int .u32)) rfl (by rw [List.length_map,HP3.out];omega) hnews (ints_oneCell .u32 ms) (by omega) (by unfold maxLen;omega) (by omega) (by omega) w5.heap.size rfl ?_)
    intro g7 cap7 w7 hown7 hgrow7 hat7 hlt7
    have hres7:=(hgrow7.block (w.heap.size+1) (by omega) (fun e=>by simp [Value.ownBlock] at e;omega)).trans hres5
    have hbw7:Below w.heap.size w w7:=hbw5.grown hgrow7 hbw5.size (fun k hk=>by simp [Value.ownBlock] at hk;omega)
    clear hgrow7 hat7 hown6 hres5 hbw5 hnews d0 d1
    go_wp2
    go_roundw
    case rel=>exact ⟨k+1,by omega,by go_num,by rw [HWK.out,HS.out];simpa using hown7,hres7,hbw7⟩
    case measure=>simp [intOf];omega
  ·obtain rfl:k=n:=by omega
   obtain ⟨c0,c1,f1⟩:=cell_of_two hres
   have f0:wr.frozen? ⟨w.heap.size+1,0,none⟩=false:=by simp [World.frozen?,hres]
   have hz:=spot_set hres (.int .i64 0) (.int .i64 0)
   have HZ:Hid (_∧_):=hz
   clear hz hres ha hok hob
   go_wp2
   refine bodyPost_ret (v:=.tuple #[.slice ax (sizeTo rs k) cx,.agg #[.int .i64 0,.int .i64 0]]) (by simp [results,Tryz.results46,go_sem,HZ.out.1,HZ.out.2]) rfl ⟨ax,cx,_,rfl,HWL.out k hk,?_,?_⟩
   ·exact own_base (ownsRow_setCell_below (ownsRow_setCell_below hown (by simp) _) (by simp) _) (by omega)
   ·exact (hnx.setCell (by simp) _).setCell (by simp) _
theorem writeC:WriteC 46:=by
 intro gen bound a n cap rs w _ _ hb0 hb3 ha hok hl hn _
 by_cases h1:bound=0 ∨ 65536 < bound
 ·have e1:writeE bound rs=(24,0):=by unfold writeE;rw [if_pos h1]
  refine (write_bound gen bound a n cap w hb0 hb3 h1).mono ?_
  rintro e w' ⟨rfl,hb⟩
  refine ⟨hb,none,0,0,?_,?_,?_⟩
  ·simp [e1]
  ·simp [writeL,e1]
  ·simp only [writeL,e1];exact World.ownsRow_nil _ _ _ _
 ·have e1:writeE bound rs=fault rs 0:=by unfold writeE;rw [if_neg h1]
  have h2:¬ bound=0:=fun h=>h1 (.inl h)
  have h3:¬ 65536 < bound:=fun h=>h1 (.inr h)
  rcases fault_any rs with hz | hz
  ·refine (write_ok gen bound a n cap rs w hb0 h2 h3 ha hok hl hn hz).mono ?_
   rintro e w' ⟨ax,cx,m,rfl,h4,h5,hb⟩
   have e2:writeL gen bound rs=writeTo gen bound rs n:=by unfold writeL;rw [e1,hz,if_pos rfl,hl]
   refine ⟨hb,ax,cx,m,?_,?_,?_⟩
   ·rw [e1,hz];rfl
   ·rw [e2];exact h4
   ·rw [e2];exact h5
  ·refine (write_fault gen bound a n cap rs w hb0 h2 h3 ha hok hl hn hz).mono ?_
   rintro e w' ⟨rfl,hb⟩
   have e2:writeL gen bound rs=[]:=by unfold writeL;rw [e1,if_neg hz]
   refine ⟨hb,none,0,0,?_,?_,?_⟩
   ·rw [e1]
   ·rw [e2];rfl
   ·rw [e2];exact World.ownsRow_nil _ _ _ _
end Go.Proofs.YtddkapkkjhomkaaGreatDoor
/-
  headOf and frontOf of the package code: what they answer.
-/
namespace Go.Proofs.YtddkapkkjhomkaaGreatDoor
open Go.RowKit

theorem headOf_any (g b:Int) (a:Option Addr) (n c:Nat) (w:World) :
  Calls Tryz.prog 47 #[modV g b a n c] w fun e w'=>e=.returned (.agg #[.int .u32 g,.int .u32 b])∧Below w.heap.size w w':=by
 unfold modV
 go_enter Tryz.func47,Tryz.ntmps47
 go_wp2
 refine bodyPost_ret (v:=.agg #[.int .u32 g,.int .u32 b]) ?_ rfl ⟨rfl,?_⟩
 ·simp [results,Tryz.results47,go_sem]
 ·exact two_boxes w _ _
end Go.Proofs.YtddkapkkjhomkaaGreatDoor
