/-
  Texts in one: StringsIndexByte, WordsOfText, CodePut, MathI, Math2, MathR, Ref02Fault, Ref02Size, MathC, CodeIds, MathU, MathV, MathW, MathJ, LayoutKindO, LayoutKindA, LayoutKindB, LayoutKindC, LayoutKindD.
-/
import Derived.Test.YtlcaedibmlidlaaGreatB07
import Derived.Deep.DrawnRows
import Derived.KernelRfl
namespace Go.Proofs.YtlcaedibmlidlaaGreat
open Go.RowKit
set_option maxRecDepth 10000
theorem indexByte_any (s:ByteArray) (w:World) :
  Calls Tryz.prog 220 #[.string s,.int .u8 0] w fun e w'=>e=.returned (.int .i64 (Lib.indexByte s.data.toList (0:Int).toNat.toUInt8))∧w=w':=by
 have hx:=fun (w:World)=>run_callFunc_extern (P:=Tryz.prog) (f:=225) Tryz.func225 (by kernel_rfl) (by kernel_rfl) (by kernel_rfl) (e:=Extern.BytealgIndexByte.indexByte) (by kernel_rfl) #[.string s,.int .u8 0] w
 simp only [Lib.run_indexByteString,Result.andThen] at hx
 generalize Lib.indexByte s.data.toList (0:Int).toNat.toUInt8=r at hx
 go_enter Tryz.func220,Tryz.ntmps220
 go_wp2
 go_ret
 exact⟨rfl,rfl⟩
theorem OfText.info:(Tryz.prog.info? 22).map (fun i=>(i.zero,i.size,i.bytes))=some (some (.int .u32 0),1,4):=by kernel_rfl
theorem ofText_nul (s:ByteArray) (w:World) (k:Nat) (hk:k<s.size) (h:nth (strI s) k=0) :
  Calls Tryz.prog 216 #[.string s] w fun e w'=>e=.returned (.tuple #[.slice none 0 0,.int .i64 13])∧w=w':=by
 have hi:=index_some s k hk h
 have hI:=indexByte_any s w
 generalize Lib.indexByte s.data.toList (0:Int).toNat.toUInt8=r at hi hI
 clear h hk
 go_enter Tryz.func216,Tryz.ntmps216
 go_wp2_with fail
 refine hI.mono ?_
 rintro e w' ⟨rfl,rfl⟩
 go_wp2
 go_ret2
 exact⟨rfl,rfl⟩
theorem ofText_large (s:ByteArray) (w:World) (hs:s.size≤140737488351232) (h:NoNul s) (hl:65535<s.size / 4+1) :
  Calls Tryz.prog 216 #[.string s] w fun e w'=>e=.returned (.tuple #[.slice none 0 0,.int .i64 4])∧w=w':=by
 have hI:=indexByte_any s w
 rw [index_none s h] at hI
 have hl':(65535:Int)<(s.size:Int) / 4+1:=by omega
 clear h
 go_enter Tryz.func216,Tryz.ntmps216
 go_wp2_with fail
 refine hI.mono ?_
 rintro e w' ⟨rfl,rfl⟩
 go_wp2
 go_ret2
 exact⟨rfl,rfl⟩
theorem room_any (s:ByteArray) (w:World) (hs:s.size≤140737488351232) :
  Calls Tryz.prog 217 #[.string s] w fun e w'=>e=.returned (.int .i64 ((s.size / 4+1:Nat):Int))∧w=w':=by
 go_enter Tryz.func217,Tryz.ntmps217
 go_wp2
 go_ret
 exact⟨ret_int (by omega),rfl⟩
set_option maxRecDepth 10000 in
set_option maxHeartbeats 1000000 in
theorem ofText_ok (s:ByteArray) (w:World) (h:NoNul s) (hl:s.size / 4+1≤65535) :
  Calls Tryz.prog 216 #[.string s] w fun e w'=>e=.returned (.tuple #[.slice (some ⟨w.heap.size,0,none⟩) (s.size / 4+1) (s.size / 4+1),.int .i64 0]) ∧
   w'.ownsRow w.heap.size 22 1 (.slice (some ⟨w.heap.size,0,none⟩) (s.size / 4+1) (s.size / 4+1)) (s.size / 4+1) ((textW s).map (Value.int .u32))∧Below w.heap.size w w':=by
 obtain⟨i0,hi,hz0,hz1,hz2⟩:=info_parts OfText.info
 have hI:=indexByte_any s w
 rw [index_none s h] at hI
 have hR:=fun wx=>room_any s wx (by omega)
 have HT:Hid (partL (padI s) s.size (s.size / 4+1)=textW s):=partL_padI s
 clear h
 obtain⟨m,hm⟩:∃ m,m=s.size / 4+1:=⟨_,rfl⟩
 rw [← hm] at HT hR ⊢
 have HM:Hid (m=s.size / 4+1):=hm
 have hsz:s.size<4 * m:=by omega
 have hm2:m≤65535:=by omega
 have hl':¬ (65535:Int)<(m:Int):=by omega
 clear hm hl
 go_enter Tryz.func216,Tryz.ntmps216
 go_wp2_with fail
 refine hI.mono ?_
 rintro e w' ⟨rfl,rfl⟩
 go_wp2_with (first | (go_at_call 217;refine (hR _).mono ?_;rintro e w' ⟨rfl,rfl⟩) | (at_make;refine wpList_make_full _ rfl _ _ 126 rfl w.heap.size 22 i0 (.int .u32 0) 1 Tryz.underlying126 hi hz0 hz1 _ _ _ _ m rfl rfl (by omega) (by omega) (by rw [hz2];omega) (by unfold maxLen;omega) (Nat.le_refl _) ?_))
 intro w1 hown1 hgrow1
 have hb1:Below w.heap.size w w1:=(Below.refl _ w).grown hgrow1 (Nat.le_refl _) (by simp)
 have hr1:=made_row (padI s) hown1
 rw [← partL_zero (padI s) (padI s)] at hr1
 clear hown1 hgrow1
 go_wp2
 go_loopw [17] (fun i wr=>∃ k:Nat,k≤s.size∧i=.int .i64 k∧wr.ownsRow w.heap.size 22 1 (.slice (some ⟨w.heap.size,0,none⟩) m m) m ((partL (padI s) k m).map (Value.int .u32))∧Below w.heap.size w wr)
  (fun i _=>s.size - (intOf i).toNat)
 case atStart=>exact⟨0,Nat.zero_le _,rfl,hr1,hb1⟩
 case round =>
  obtain⟨k,hk,rfl,hown,hnx⟩:=hrel
  clear hr1 hb1
  by_cases hlt:k<s.size
  ·have hpb:=partW_bounds (padI s) k (k / 4) (padI_within s) (by rw [padI_len];omega)
   have HP:Hid (bits .or .u32 (partW (padI s) k (k / 4)) (plc (s[k].toNat:Int) (k % 4))=partW (padI s) (k+1) (k / 4)):=by
    have:=partW_step (padI s) k (padI_within s) (by rw [padI_len];omega)
    rw [padI_lo s k hlt,nth_strI s k hlt] at this
    exact this
   have hd:wr.cell? ⟨w.heap.size,k / 4,none⟩=some (.int .u32 (partW (padI s) k (k / 4))):=by
    rw [hown.cellAt (k / 4) (by omega)]
    have:k / 4<m:=by omega
    simp [partL,this]
   have hf:wr.frozen? ⟨w.heap.size,k / 4,none⟩=false:=hown.frozenAt _
   have hs:=(hown.stored (k / 4) (.int .u32 (partW (padI s) (k+1) (k / 4)))).1
   rw [← List.map_set,partL_set] at hs
   have hx1:(s[k].toNat:Int)<256:=by have:=s[k].toNat_lt;omega
   generalize partW (padI s) k (k / 4)=y at hpb hd HP
   have hy0:=hpb.1
   have hy1:=hpb.2
   have eq:(k:Int).tdiv 4=((k / 4:Nat):Int):=by rw [Int.tdiv_eq_ediv_of_nonneg (by omega)];omega
   have em:(k:Int).tmod 4=((k % 4:Nat):Int):=by rw [Int.tmod_eq_emod_of_nonneg (by omega)];omega
   have eq':(k:Int) / 4=((k / 4:Nat):Int):=by omega
   have em':(k:Int) % 4=((k % 4:Nat):Int):=by omega
   have hj:k / 4<m:=by omega
   have hr:k % 4<4:=by omega
   have HS:Hid ((wr.setCell ⟨w.heap.size,k / 4,none⟩ (.int .u32 (bits .or .u32 y (plc (s[k].toNat:Int) (k % 4))))).ownsRow w.heap.size 22 1 (.slice (some ⟨w.heap.size,0,none⟩) m m) m ((partL (padI s) (k+1) m).map (Value.int .u32))):=by rw [HP.out];exact hs
   clear hpb hown hs HP hl' hI hR
   generalize k / 4=j at *
   generalize k % 4=r at *
   have hA:=fun wx=>atPlace_any (s[k].toNat:Int) (r:Int) wx (by omega) hx1 (by omega) (by omega)
   have hj0:(0:Int)≤(j:Int):=by omega
   have hj1:(j:Int)<(m:Int):=by omega
   have hk0:(0:Int)≤(k:Int):=by omega
   have hk1:(k:Int)<(s.size:Int):=by omega
   have hwj:IntKind.i64.wrap (j:Int)=(j:Int):=by rw [IntKind.wrap_i64];omega
   go_wp2
   go_region_with (go_at_call 221;refine (hA _).mono ?_;rintro e w' ⟨rfl,rfl⟩)
   all_goals
    go_wp2
    go_roundw
    case rel=>exact⟨k+1,by omega,by go_num,HS.out.drew,(hnx.setCell (Nat.le_refl _) _).drew⟩
    case measure=>simp [intOf];omega
  ·go_wp2
   go_ret2
   obtain rfl:k=s.size:=by omega
   rw [HT.out] at hown
   exact⟨rfl,hown,hnx⟩
set_option linter.unusedVariables false
set_option linter.unusedSimpArgs false
theorem view_one {w:World} (n:Int):View .u32 (w.alloc (.cells #[.int .u32 n] 22)) (some ⟨w.heap.size,0,none⟩) [n]:=by
 intro j hj
 obtain rfl:j=0:=by simpa using hj
 refine⟨w.heap.size,0,rfl,by simp,?_⟩
 rw [Nat.zero_add,World.cell?_alloc_new]
 rfl
theorem Wrt.bound {w:World} {B:Nat} {o:Int} {f:Frm} {b:Int} {zs:List Int} {c:Int} (h:Wrt w B o f b zs c):w.cell? ⟨B,8,none⟩=some (.int .u32 b)∧w.cell? ⟨B,0,none⟩=some (.int .u16 o):=by
 obtain⟨⟨v,h1,h2⟩,h3⟩:=h
 obtain⟨hc,_⟩:=one_block h1
 exact⟨hc 8,hc 0⟩
set_option maxHeartbeats 1000000 in
theorem putWord_any (B:Nat) (o:Int) (f:Frm) (b:Int) (zs:List Int) (cn:Int) (c:Int) (x:ArgT) (w:World) (hW:Wrt w B o f b zs cn) (hc:cn+1<9223372036854775808) :
  Calls Tryz.prog 208 #[.pointer (some ⟨B,0,none⟩),.int .u8 c,argV x] w fun e w'=>e=.returned (.int .i64 (faultW c x.2.1 b))∧KeepW B w w'∧(faultW c x.2.1 b=0→Wrt w' B o f b (putL cn 1 zs [x.2.1]) (cn+1))∧(faultW c x.2.1 b≠0→Wrt w' B o f b zs cn):=by
 obtain⟨kd,n,st⟩:=x
 unfold argV
 simp only
 have hBl:=hW.lt
 have hW1:=hW.below ((Below.refl _ w).alloc (Nat.le_refl _) (.cells #[.int .u8 kd,.int .u32 n,.string st] 105))
 have hb1:Below w.heap.size w (w.alloc (.cells #[.int .u8 kd,.int .u32 n,.string st] 105)):=(Below.refl _ w).alloc (Nat.le_refl _) _
 have hl1:w.heap.size<(w.alloc (.cells #[.int .u8 kd,.int .u32 n,.string st] 105)).heap.size:=by simp
 have hN:(w.alloc (.cells #[.int .u8 kd,.int .u32 n,.string st] 105)).cell? ⟨w.heap.size,1,none⟩=some (.int .u32 n):=(one_block (alloc_new w #[.int .u8 kd,.int .u32 n,.string st] 105)).1 1
 obtain⟨r,hr⟩:∃ r,r=faultW c n b:=⟨_,rfl⟩
 by_cases h0:faultW c n b=0
 ·rw [h0]
  go_enter Tryz.func208,Tryz.ntmps208
  go_wp2_with fail
  generalize w.alloc (.cells #[.int .u8 kd,.int .u32 n,.string st] 105)=W at *
  have a1:=fun s:InC (Below W.heap.size W)=>s.cell (p:=⟨w.heap.size,1,none⟩) hl1 hN
  have hF:=fun s:InC (Below W.heap.size W)=>Calls.inC s (faultW_any B c n b s.w (by have:=s.ok.size;omega) (s.cell (p:=⟨B,8,none⟩) (by show B<_;omega) hW1.bound.1))
  rw [h0] at hF
  refine wp_region_class (C:=Below W.heap.size W) (by kernel_rfl) (by kernel_rfl) (below_drew W) ?_
  have hne:Nonempty (InC (Below W.heap.size W)):=⟨⟨W,Below.refl _ _⟩⟩
  repeat (go_big_quiet_step ((go_at_call 214;exact hF _)))
  refine wpQuiet_nil ?_
  rintro _ ⟨s,rfl⟩
  have a2:=a1 s
  have hW2:=hW1.below s.ok
  have hbs:=hb1.trans (s.ok.mono (by omega))
  have hss:=hbs.size
  obtain⟨s,hs⟩:=s
  simp only at *
  have hW3:=hW2.below ((Below.refl _ s).alloc (Nat.le_refl _) (.cells #[.int .u32 n] 22))
  have hA:=add_any B o f b zs cn 1 (some ⟨s.heap.size,0,none⟩) 1 1 [n] _ hW3 (view_one n) (newAt_mk (by omega)) rfl (by omega) hc
  have hK:=KeepW.of_below (hbs.trans (((Below.refl _ s).alloc (Nat.le_refl _) (.cells #[.int .u32 n] 22)).mono hss)) (show B≤w.heap.size by omega)
  clear hne hF a1 hN hW1 hW2 hW3 hs
  go_wp2_with fail
  refine hA.mono ?_
  rintro e w4 ⟨rfl,hk4,hW4⟩
  clear hA a2
  go_wp2
  go_ret
  exact⟨rfl,hK.trans hk4,fun _=>hW4,fun h=>absurd rfl h⟩
 ·have hr0:¬ r=0:=by rw [hr];exact h0
  rw [← hr]
  go_enter Tryz.func208,Tryz.ntmps208
  go_wp2_with fail
  generalize w.alloc (.cells #[.int .u8 kd,.int .u32 n,.string st] 105)=W at *
  have a1:=fun s:InC (Below W.heap.size W)=>s.cell (p:=⟨w.heap.size,1,none⟩) hl1 hN
  have hF:=fun s:InC (Below W.heap.size W)=>Calls.inC s (faultW_any B c n b s.w (by have:=s.ok.size;omega) (s.cell (p:=⟨B,8,none⟩) (by show B<_;omega) hW1.bound.1))
  rw [← hr] at hF
  have HR:Hid (r=faultW c n b):=hr
  clear hr h0
  refine wp_region_class (C:=Below W.heap.size W) (by kernel_rfl) (by kernel_rfl) (below_drew W) ?_
  have hne:Nonempty (InC (Below W.heap.size W)):=⟨⟨W,Below.refl _ _⟩⟩
  repeat (go_big_quiet_step ((go_at_call 214;exact hF _)))
  refine wpQuiet_nil ?_
  rintro _ ⟨s,rfl⟩
  have hbs:=hb1.trans (s.ok.mono (by omega))
  have hW2:=hW1.below s.ok
  clear hne hF a1 hN
  go_wp2
  go_ret
  exact⟨rfl,KeepW.of_below hbs (by omega),fun h=>absurd h hr0,fun _=>hW2⟩
theorem putText_nul (B:Nat) (o:Int) (f:Frm) (b:Int) (zs:List Int) (cn:Int) (c:Int) (x:ArgT) (w:World) (hW:Wrt w B o f b zs cn) (k:Nat) (hk:k<x.2.2.size) (h:nth (strI x.2.2) k=0) :
  Calls Tryz.prog 209 #[.pointer (some ⟨B,0,none⟩),.int .u8 c,argV x] w fun e w'=>e=.returned (.int .i64 13)∧KeepW B w w':=by
 obtain⟨kd,n,st⟩:=x
 unfold argV
 simp only at *
 have hO:=fun w=>ofText_nul st w k hk h
 have hBl:=hW.lt
 clear h
 go_enter Tryz.func209,Tryz.ntmps209
 go_wp2_with fail
 refine (hO _).mono ?_
 rintro e w1 ⟨rfl,rfl⟩
 go_wp2
 go_ret
 exact⟨rfl,KeepW.of_below ((Below.refl _ w).alloc (Nat.le_refl _) _) (by omega)⟩
theorem putText_ok (B:Nat) (o:Int) (f:Frm) (b:Int) (zs:List Int) (cn:Int) (c:Int) (x:ArgT) (w:World) (hW:Wrt w B o f b zs cn) (h:NoNul x.2.2) (hs:x.2.2.size≤140737488351232) (hc:cn+((x.2.2.size / 4+1:Nat):Int)<9223372036854775808) :
  Calls Tryz.prog 209 #[.pointer (some ⟨B,0,none⟩),.int .u8 c,argV x] w fun e w'=>e=.returned (.int .i64 0)∧KeepW B w w'∧Wrt w' B o f b (putL cn ((x.2.2.size / 4+1:Nat):Int) zs (textW x.2.2)) (cn+((x.2.2.size / 4+1:Nat):Int)):=by
 obtain⟨kd,n,st⟩:=x
 unfold argV
 simp only at *
 have hBl:=hW.lt
 have hlen:=hW.len
 have hRm:=fun w=>room_any st w hs
 have hW1:=hW.below ((Below.refl _ w).alloc (Nat.le_refl _) (.cells #[.int .u8 kd,.int .u32 n,.string st] 105))
 have hb1:Below w.heap.size w (w.alloc (.cells #[.int .u8 kd,.int .u32 n,.string st] 105)):=(Below.refl _ w).alloc (Nat.le_refl _) _
 have hl1:w.heap.size<(w.alloc (.cells #[.int .u8 kd,.int .u32 n,.string st] 105)).heap.size:=by simp
 have hS:=fun i=>(one_block (alloc_new w #[.int .u8 kd,.int .u32 n,.string st] 105)).1 i
 by_cases hl:st.size / 4+1≤65535
 ·have hO:=fun w=>ofText_ok st w h hl
  have hT:=textW_len st
  clear h
  obtain⟨m,hm⟩:∃ m,m=st.size / 4+1:=⟨_,rfl⟩
  rw [← hm] at hT hl hc ⊢
  simp only [← hm] at hO hRm
  have HM:Hid (m=st.size / 4+1):=hm
  clear hm
  obtain⟨zs',hz⟩:∃ z,z=putL cn (m:Int) zs (textW st):=⟨_,rfl⟩
  rw [← hz]
  go_enter Tryz.func209,Tryz.ntmps209
  go_wp2_with fail
  generalize w.alloc (.cells #[.int .u8 kd,.int .u32 n,.string st] 105)=W at *
  refine (hO _).mono ?_
  rintro e w2 ⟨rfl,hown2,hb2⟩
  have hS2:w2.cell? ⟨w.heap.size,2,none⟩=some (.string st):=(hb2.cell (p:=⟨w.heap.size,2,none⟩) hl1).trans (hS 2)
  have hW2:=hW1.below hb2
  have hA:=add_any B o f b zs cn (m:Int) (some ⟨W.heap.size,0,none⟩) m m (textW st) w2 hW2 (View.ofRow hown2 hT) (newAt_mk (by omega)) hT (Int.le_refl _) hc
  rw [← hz] at hA
  have hK:=KeepW.of_below (hb1.trans (hb2.mono (by omega))) (show B≤w.heap.size by omega)
  clear hown2 hb2 hW1 hW2 hS hO hT hb1 hz
  go_wp2_with fail
  refine (hRm _).mono ?_
  rintro e w3 ⟨rfl,rfl⟩
  go_wp2_with fail
  refine hA.mono ?_
  rintro e w4 ⟨rfl,hk4,hW4⟩
  clear hA
  go_wp2
  go_ret
  exact⟨rfl,hK.trans hk4,hW4⟩
 ·have hO:=fun w=>ofText_large st w hs h (by omega)
  have e1:putL cn ((st.size / 4+1:Nat):Int) zs (textW st)=putL cn ((st.size / 4+1:Nat):Int) zs []:=by
   rw [putL,putL,if_neg (by omega),if_neg (by omega)]
  rw [e1]
  clear h e1
  obtain⟨m,hm⟩:∃ m,m=st.size / 4+1:=⟨_,rfl⟩
  rw [← hm] at hl hc ⊢
  simp only [← hm] at hRm
  have HM:Hid (m=st.size / 4+1):=hm
  clear hm
  obtain⟨zs',hz⟩:∃ z,z=putL cn (m:Int) zs []:=⟨_,rfl⟩
  rw [← hz]
  go_enter Tryz.func209,Tryz.ntmps209
  go_wp2_with fail
  generalize w.alloc (.cells #[.int .u8 kd,.int .u32 n,.string st] 105)=W at *
  refine (hO _).mono ?_
  rintro e w2 ⟨rfl,rfl⟩
  have hS2:W.cell? ⟨w.heap.size,2,none⟩=some (.string st):=hS 2
  have hA:=add_any B o f b zs cn (m:Int) none 0 0 [] W hW1 view_nil (fun _ _ _ e=>by cases e) rfl (by omega) hc
  rw [← hz] at hA
  have hK:=KeepW.of_below hb1 (show B≤w.heap.size by omega)
  clear hS hO hW1 hb1 hz
  go_wp2_with fail
  refine (hRm _).mono ?_
  rintro e w3 ⟨rfl,rfl⟩
  go_wp2_with fail
  refine hA.mono ?_
  rintro e w4 ⟨rfl,hk4,hW4⟩
  clear hA
  go_wp2
  go_ret
  exact⟨rfl,hK.trans hk4,hW4⟩
theorem empty_size (s:ByteArray):s.toList.isEmpty=(s.size==0):=by
 rw [ByteArray.toList_eq,Bool.eq_iff_iff,List.isEmpty_iff,← List.length_eq_zero_iff,Array.length_toList,beq_iff_eq]
 rfl
def mayStandB (c:Int) (x:ArgT):Bool:=!(c==0) && (x.1==kindI c) && (if x.1=3 then x.2.1==0 else x.2.2.size==0)
theorem mayStand_any (c:Int) (x:ArgT) (w:World) :
  Calls Tryz.prog 196 #[.int .u8 c,argV x] w fun e w'=>e=.returned (.bool (mayStandB c x))∧Below w.heap.size w w':=by
 obtain⟨kd,n,st⟩:=x
 unfold argV
 have hb1:Below w.heap.size w (w.alloc (.cells #[.int .u8 kd,.int .u32 n,.string st] 105)):=(Below.refl _ w).alloc (Nat.le_refl _) _
 have hl1:w.heap.size<(w.alloc (.cells #[.int .u8 kd,.int .u32 n,.string st] 105)).heap.size:=by simp
 have hS:=fun i=>(one_block (alloc_new w #[.int .u8 kd,.int .u32 n,.string st] 105)).1 i
 have hS0:=hS 0
 have hS1:=hS 1
 have hS2:=hS 2
 change _=some (Value.int .u8 kd) at hS0
 change _=some (Value.int .u32 n) at hS1
 change _=some (Value.string st) at hS2
 clear hS
 by_cases h0:c=0
 ·subst h0
  have e1:mayStandB 0 (kd,n,st)=false:=by simp [mayStandB]
  rw [e1]
  go_enter Tryz.func196,Tryz.ntmps196
  go_wp2_with fail
  generalize w.alloc (.cells #[.int .u8 kd,.int .u32 n,.string st] 105)=W at *
  refine wp_region_class (C:=Below W.heap.size W) (by kernel_rfl) (by kernel_rfl) (below_drew W) ?_
  have hne:Nonempty (InC (Below W.heap.size W)):=⟨⟨W,Below.refl _ _⟩⟩
  repeat (go_big_quiet_step (fail))
  refine wpQuiet_nil ?_
  rintro _ ⟨s,rfl⟩
  have hfin:=hb1.trans (s.ok.mono (by omega))
  clear hne
  go_wp2
  go_ret
  exact⟨rfl,hfin⟩
 ·have h0':(c==0)=false:=by simpa using h0
  by_cases h1:kd=kindI c
  ·have e1:mayStandB c (kd,n,st)=(if kd=3 then n==0 else st.size==0):=by simp [mayStandB,h0',h1]
   rw [e1]
   have hKc:=fun w=>kind_any c w
   rw [← h1] at hKc
   clear h1 e1
   by_cases k3:kd=3
   ·subst k3
    rw [if_pos rfl]
    go_enter Tryz.func196,Tryz.ntmps196
    go_wp2_with fail
    generalize w.alloc (.cells #[.int .u8 3,.int .u32 n,.string st] 105)=W at *
    have a0:=fun s:InC (Below W.heap.size W)=>s.cell (p:=⟨w.heap.size,0,none⟩) hl1 hS0
    have hK:=fun s:InC (Below W.heap.size W)=>Calls.inC_same s (hKc s.w)
    refine wp_region_class (C:=Below W.heap.size W) (by kernel_rfl) (by kernel_rfl) (below_drew W) ?_
    have hne:Nonempty (InC (Below W.heap.size W)):=⟨⟨W,Below.refl _ _⟩⟩
    repeat (go_big_quiet_step ((go_at_call 186;exact hK _)))
    refine wpQuiet_nil ?_
    rintro _ ⟨s,rfl⟩
    have hfin:=hb1.trans (s.ok.mono (by omega))
    have k0:=s.cell (p:=⟨w.heap.size,0,none⟩) hl1 hS0
    have k1:=s.cell (p:=⟨w.heap.size,1,none⟩) hl1 hS1
    have k2:=s.cell (p:=⟨w.heap.size,2,none⟩) hl1 hS2
    clear hne hK a0 hS0 hS1 hS2 hKc
    go_wp2
    go_ret
    exact⟨rfl,hfin⟩
   ·rw [if_neg k3]
    go_enter Tryz.func196,Tryz.ntmps196
    go_wp2_with fail
    generalize w.alloc (.cells #[.int .u8 kd,.int .u32 n,.string st] 105)=W at *
    have a0:=fun s:InC (Below W.heap.size W)=>s.cell (p:=⟨w.heap.size,0,none⟩) hl1 hS0
    have hK:=fun s:InC (Below W.heap.size W)=>Calls.inC_same s (hKc s.w)
    refine wp_region_class (C:=Below W.heap.size W) (by kernel_rfl) (by kernel_rfl) (below_drew W) ?_
    have hne:Nonempty (InC (Below W.heap.size W)):=⟨⟨W,Below.refl _ _⟩⟩
    repeat (go_big_quiet_step ((go_at_call 186;exact hK _)))
    refine wpQuiet_nil ?_
    rintro _ ⟨s,rfl⟩
    have hfin:=hb1.trans (s.ok.mono (by omega))
    have k0:=s.cell (p:=⟨w.heap.size,0,none⟩) hl1 hS0
    have k1:=s.cell (p:=⟨w.heap.size,1,none⟩) hl1 hS1
    have k2:=s.cell (p:=⟨w.heap.size,2,none⟩) hl1 hS2
    clear hne hK a0 hS0 hS1 hS2 hKc
    go_wp2
    go_ret
    refine⟨?_,hfin⟩
    show Ending.returned (Value.bool st.toList.isEmpty)=_
    rw [empty_size]
  ·have e1:mayStandB c (kd,n,st)=false:=by simp [mayStandB,h0',h1]
   rw [e1]
   have h1':(kd==kindI c)=false:=by simpa using h1
   go_enter Tryz.func196,Tryz.ntmps196
   go_wp2_with fail
   generalize w.alloc (.cells #[.int .u8 kd,.int .u32 n,.string st] 105)=W at *
   have a0:=fun s:InC (Below W.heap.size W)=>s.cell (p:=⟨w.heap.size,0,none⟩) hl1 hS0
   have hK:=fun s:InC (Below W.heap.size W)=>Calls.inC_same s (kind_any c s.w)
   generalize kindI c=kc at *
   refine wp_region_class (C:=Below W.heap.size W) (by kernel_rfl) (by kernel_rfl) (below_drew W) ?_
   have hne:Nonempty (InC (Below W.heap.size W)):=⟨⟨W,Below.refl _ _⟩⟩
   repeat (go_big_quiet_step ((go_at_call 186;exact hK _)))
   refine wpQuiet_nil ?_
   rintro _ ⟨s,rfl⟩
   have hfin:=hb1.trans (s.ok.mono (by omega))
   clear hne hK a0
   go_wp2
   go_ret
   exact⟨rfl,hfin⟩
theorem putter_any (B:Nat) (k:Int) (w:World) :
  Calls Tryz.prog 197 #[.pointer (some ⟨B,0,none⟩),.int .u8 k] w fun e w'=>e=.returned (if k=3 then .func (.func 209) #[.pointer (some ⟨B,0,none⟩)] #[] else .func (.func 208) #[.pointer (some ⟨B,0,none⟩)] #[])∧w=w':=by
 by_cases h:k=3
 ·subst h
  rw [if_pos rfl]
  go_enter Tryz.func197,Tryz.ntmps197
  go_wp2
  go_ret
  exact⟨rfl,rfl⟩
 ·rw [if_neg h]
  go_enter Tryz.func197,Tryz.ntmps197
  go_wp2
  go_ret
  exact⟨rfl,rfl⟩
def nulS (s:ByteArray):Bool:=s.data.toList.any (·==0)
theorem nulS_false {s:ByteArray}:nulS s=false↔NoNul s:=by
 unfold nulS NoNul
 rw [List.any_eq_false]
 constructor
 ·intro h k hk
  rw [nth_strI s k hk]
  intro e
  have h1:s[k].toNat=0:=by omega
  have h2:s.data.toList[k]'(by rw [size_list];exact hk)=0:=UInt8.toNat_inj.1 h1
  exact h _ (List.getElem_mem (by rw [size_list];exact hk)) (by simp [h2])
 ·intro h x hx hx0
  obtain⟨k,hk,rfl⟩:=List.mem_iff_getElem.1 hx
  have hk':k<s.size:=by rw [← size_list];exact hk
  apply h k hk'
  rw [nth_strI s k hk']
  have e:s[k]=s.data.toList[k]:=rfl
  rw [e,eq_of_beq hx0]
  rfl
theorem nulS_true {s:ByteArray} (h:nulS s=true):∃ k,k<s.size∧nth (strI s) k=0:=by
 apply Classical.byContradiction
 intro hn
 have:NoNul s:=fun k hk e=>hn ⟨k,hk,e⟩
 rw [← nulS_false] at this
 rw [this] at h
 cases h
theorem nulS_empty:nulS ⟨#[]⟩=false:=rfl
theorem size_zero {s:ByteArray} (h:s.size=0):s=⟨#[]⟩:=by
 have:s.data=#[]:=Array.eq_empty_of_size_eq_zero h
 cases s;simp_all
def wrongA (c:Int) (x:ArgT) (b:Int):Int:=if mayStandB c x=false then 42 else if x.1=3 then (if nulS x.2.2 then 13 else 0) else faultW c x.2.1 b
def wrongL (f:Frm) (b:Int):Nat→List ArgT→Int
 | _,[]=>0
 | k,x :: l=>if wrongA (letterI f k) x b=0 then wrongL f b (k+1) l else wrongA (letterI f k) x b
def wordsA (x:ArgT):List Int:=if x.1=3 then textW x.2.2 else [x.2.1]
theorem wordsA_len (x:ArgT):(wordsA x).length=if x.1=3 then x.2.2.size / 4+1 else 1:=by
 unfold wordsA
 split
 ·exact textW_len _
 ·rfl
def wordsL (l:List ArgT):List Int:=l.flatMap wordsA
def headW (f:Frm) (t r:Int):List Int:=(if f.2.1 then [t] else [])++(if f.2.2.1 then [r] else [])
def rawL (f:Frm) (x:InstT):List Int:=headW f x.2.1 x.2.2.1++wordsL x.2.2.2
def faultI (f:Frm) (x:InstT) (b:Int):Int :=
 if idE f.2.1 x.2.1 b 40≠0 then idE f.2.1 x.2.1 b 40
 else if idE f.2.2.1 x.2.2.1 b 41≠0 then idE f.2.2.1 x.2.2.1 b 41
 else if wrongL f b 0 x.2.2.2≠0 then wrongL f b 0 x.2.2.2
 else if wholeN f x.2.2.2.length=false then 42
 else if 65535<1+(rawL f x).length then 25 else 0
def rawE (x:InstT) (b:Int):Int:=if (lookF refT x.1).2 then faultI (lookF refT x.1).1 x b else 30
def rawWs (x:InstT) (b:Int):List Int:=if rawE x b=0 then rawL (lookF refT x.1).1 x else []
theorem wrongL_zero {f:Frm} {b:Int}:∀ {l:List ArgT} {k:Nat},wrongL f b k l=0→∀ j,j<l.length→wrongA (letterI f ((k+j:Nat):Int)) (nthA l j) b=0
 | [],_,_,j,hj=>by simp at hj
 | x :: l,k,h,j,hj=>by
  rw [wrongL] at h
  by_cases h0:wrongA (letterI f k) x b=0
  ·rw [if_pos h0] at h
   cases j with
   | zero=>exact h0
   | succ j =>
    have:=wrongL_zero h j (by simpa using hj)
    rw [show k+(j+1)=k+1+j by omega]
    exact this
  ·rw [if_neg h0] at h;exact absurd h h0
theorem wrongL_first {f:Frm} {b:Int}:∀ {l:List ArgT} {k j:Nat},j<l.length→(∀ i,i<j→wrongA (letterI f ((k+i:Nat):Int)) (nthA l i) b=0)→wrongA (letterI f ((k+j:Nat):Int)) (nthA l j) b≠0→wrongL f b k l=wrongA (letterI f ((k+j:Nat):Int)) (nthA l j) b
 | [],_,j,hj,_,_=>by simp at hj
 | x :: l,k,0,_,_,h=>by
  rw [wrongL,if_neg (show ¬ wrongA (letterI f k) x b=0 from h)];rfl
 | x :: l,k,j+1,hj,h0,h=>by
  have h1:wrongA (letterI f k) x b=0:=h0 0 (by omega)
  rw [wrongL,if_pos h1]
  have e:=wrongL_first (f:=f) (b:=b) (l:=l) (k:=k+1) (j:=j) (by simpa using hj) (fun i hi=>by have:=h0 (i+1) (by omega);rw [show k+(i+1)=k+1+i by omega] at this;exact this) (by rw [show k+(j+1)=k+1+j by omega] at h;exact h)
  rw [e,show k+(j+1)=k+1+j by omega];rfl
theorem wrongL_none {f:Frm} {b:Int}:∀ {l:List ArgT} {k:Nat},(∀ i,i<l.length→wrongA (letterI f ((k+i:Nat):Int)) (nthA l i) b=0)→wrongL f b k l=0
 | [],_,_=>rfl
 | x :: l,k,h=>by
  have h1:wrongA (letterI f k) x b=0:=h 0 (by simp)
  rw [wrongL,if_pos h1]
  exact wrongL_none fun i hi=>by have:=h (i+1) (by simpa using hi);rw [show k+(i+1)=k+1+i by omega] at this;exact this
theorem wrongA_kind {c:Int} {x:ArgT} {b:Int} (h:wrongA c x b=0):c≠0∧x.1=kindI c:=by
 unfold wrongA at h
 split at h
 ·cases h
 ·rename_i hm
  simp [mayStandB] at hm
  exact⟨hm.1,hm.2.1⟩
theorem fits_whole {f:Frm} {l:List ArgT} (h:∀ i,i<l.length→letterI f (i:Int)≠0∧(nthA l i).1=kindI (letterI f (i:Int))):(fitsI true f (kindsL l)).2=wholeN f l.length:=by
 have hl:(kindsL l).length=l.length:=by simp [kindsL]
 have hb:∀ j,j<l.length→badK f (kindsL l) j=false:=fun j hj=>by
  obtain⟨h1,h2⟩:=h j hj
  simp [badK,h1,kindsL_nth l j hj,h2]
 unfold fitsI
 rw [if_neg (by simp),hl,range_not _ hb]
 have e:(if wholeB f l.length=true then ((0:Int),true) else ((l.length:Int),false)).2=wholeB f l.length:=by split <;> simp_all
 simp only [e]
 unfold wholeB wholeN
 rw [Bool.eq_iff_iff]
 by_cases h1:(l.length:Int)<f.2.2.2.1.size
 ·rw [if_pos h1]
  simp;constructor
  ·omega
  ·intro h2;omega
 ·rw [if_neg h1]
  by_cases h2:f.2.2.2.2.1.size=0
  ·rw [if_pos h2]
   have h3:¬ f.2.2.2.1.size<l.length:=fun h3=>rest_of_letters (f:=f) (zs:=kindsL l) (fun j hj=>hb j (by rw [← hl];exact hj)) (by rw [hl];exact h3) h2
   simp;omega
  ·rw [if_neg h2]
   simp
   constructor
   ·rintro (h3 | ⟨_,h3⟩)
    ·rw [show (l.length:Int) - f.2.2.2.1.size=0 by omega];simp
    ·exact h3
   ·intro h3
    by_cases h4:(l.length:Int) - f.2.2.2.1.size=0
    ·exact .inl h4
    ·exact .inr ⟨by omega,h3⟩
def noText (f:Frm):Bool:=f.2.2.2.2.1.data.toList.all (fun x=>x != 115)
theorem refT_noText:refT.all (fun p=>noText p.2 && shortF p.2)=true:=by decide +kernel
theorem look_noText (n:Int):noText (lookF refT n).1=true∧shortF (lookF refT n).1=true:=by
 by_cases h:(lookF refT n).2=true
 ·have:=(List.all_eq_true.1 refT_noText) _ (lookF_true h)
  simpa using this
 ·rw [(lookF_false (by simpa using h)).1];exact⟨rfl,rfl⟩
theorem text_fixed {f:Frm} (hf:noText f=true) {k:Nat} (h:kindI (letterI f (k:Int))=3):k<f.2.2.2.1.size:=by
 apply Classical.byContradiction
 intro hn
 have hk:kindI 0≠3:=by decide
 unfold letterI at h
 rw [if_neg (by omega),if_neg (by omega)] at h
 split at h
 ·rename_i hm
  generalize hj:(((k:Int) - f.2.2.2.1.size) % f.2.2.2.2.1.size).toNat=j at h
  have hlt:j<f.2.2.2.2.1.size:=by
   unfold mayB at hm
   by_cases h0:f.2.2.2.2.1.size=0
   ·rw [if_pos h0] at hm;cases hm
   ·have:=Int.emod_lt_of_pos ((k:Int) - f.2.2.2.1.size) (show (0:Int)<f.2.2.2.2.1.size by omega)
    have:=Int.emod_nonneg ((k:Int) - f.2.2.2.1.size) (show (f.2.2.2.2.1.size:Int)≠0 by omega)
    omega
  have h1:sgn f.2.2.2.2.1 j=115:=by
   unfold kindI at h
   split at h
   ·cases h
   ·split at h
    ·cases h
    ·split at h
     ·assumption
     ·split at h <;> cases h
  have hl:j<f.2.2.2.2.1.data.toList.length:=by rw [size_list];exact hlt
  have h2:=(List.all_eq_true.1 hf) (f.2.2.2.2.1.data.toList[j]) (List.getElem_mem hl)
  simp only [bne_iff_ne,ne_eq] at h2
  apply h2
  have h3:(f.2.2.2.2.1.data.toList[j]).toNat=115:=by
   unfold sgn at h1
   rw [List.getD,List.getElem?_eq_getElem hl] at h1
   simp only [Option.getD_some] at h1
   omega
  exact UInt8.toNat_inj.1 h3
 ·exact hk h
theorem wordsL_take (l:List ArgT) (k:Nat) (h:k<l.length):wordsL (l.take (k+1))=wordsL (l.take k)++wordsA (nthA l k):=by
 unfold wordsL
 rw [List.take_add_one,List.getElem?_eq_getElem h,nthA_lt _ _ h,Option.toList_some,List.flatMap_append]
 simp


def sizeTo (rs:List (Int×List Int)) (k:Nat):Nat:=(rs.take k).foldl (fun s r=>s+1+r.2.length) 5
def faultF (rs:List (Int×List Int)):Nat→Nat→Int×Nat
 | 0,_=>(0,0)
 | f+1,k=>if k<rs.length then (if 65535≤(nthR rs k).2.length then (25,k) else if 1048576<sizeTo rs (k+1) then (4,k) else faultF rs f (k+1)) else (0,0)
def fault (rs:List (Int×List Int)) (k:Nat):Int×Nat:=faultF rs (rs.length - k) k
theorem sizeTo_zero (rs:List (Int×List Int)):sizeTo rs 0=5:=rfl
theorem sizeTo_succ (rs:List (Int×List Int)) (k:Nat) (h:k<rs.length):sizeTo rs (k+1)=sizeTo rs k+1+(nthR rs k).2.length:=by
 have e:rs.take (k+1)=rs.take k++[nthR rs k]:=by
  rw [List.take_succ_eq_append_getElem h];simp [nthR,List.getD,h]
 rw [sizeTo,e,List.foldl_append];rfl
theorem fault_end (rs:List (Int×List Int)) (k:Nat) (h:rs.length≤k):fault rs k=(0,0):=by
 rw [fault,show rs.length - k=0 by omega];rfl
theorem fault_step (rs:List (Int×List Int)) (k:Nat) (h:k<rs.length):fault rs k=if 65535≤(nthR rs k).2.length then (25,k) else if 1048576<sizeTo rs (k+1) then (4,k) else fault rs (k+1):=by
 rw [fault,show rs.length - k=(rs.length - (k+1))+1 by omega,faultF,if_pos h];rfl
def sizeOut (rs:List (Int×List Int)):Int:=if (fault rs 0).1=0 then (sizeTo rs rs.length:Int) else 0
theorem fault_none (rs:List (Int×List Int)) (h:(fault rs 0).1=0):∀ k,k≤rs.length→sizeTo rs k≤1048576∧∀ j,j<k→(nthR rs j).2.length<65535:=by
 have key:∀ k,k≤rs.length→fault rs 0=fault rs k∧sizeTo rs k≤1048576∧∀ j,j<k→(nthR rs j).2.length<65535:=by
  intro k
  induction k with
  | zero=>intro _;exact⟨rfl,by rw [sizeTo_zero];omega,fun j hj=>by omega⟩
  | succ k ih =>
   intro hk
   obtain⟨h1,h2,h3⟩:=ih (by omega)
   have hs:=fault_step rs k (by omega)
   by_cases c1:65535≤(nthR rs k).2.length
   ·rw [if_pos c1] at hs;rw [h1,hs] at h;simp at h
   ·rw [if_neg c1] at hs
    by_cases c2:1048576<sizeTo rs (k+1)
    ·rw [if_pos c2] at hs;rw [h1,hs] at h;simp at h
    ·rw [if_neg c2] at hs
     refine⟨h1.trans hs,by omega,fun j hj=>?_⟩
     by_cases e:j=k
     ·subst e;omega
     ·exact h3 j (by omega)
 exact fun k hk=>(key k hk).2
def shapeF (b:Int):Nat→Nat→List InstT→Int×Nat
 | _,_,[]=>(0,0)
 | k,c,x :: l=>if rawE x b≠0 then (rawE x b,k) else if 1048576<c+1+(rawWs x b).length then (4,k) else shapeF b (k+1) (c+1+(rawWs x b).length) l
def shapeE (b:Int) (l:List InstT):Int×Nat:=if b=0∨65536<b then (24,0) else shapeF b 0 5 l
def rawsL (b:Int) (l:List InstT):List (Int×List Int):=l.map fun x=>(x.1,rawWs x b)
def rawsR (b:Int) (l:List InstT):List (Int×List Int):=if (shapeE b l).1=0 then rawsL b l else []
theorem rawsL_len (b:Int) (l:List InstT):(rawsL b l).length=l.length:=by simp [rawsL]
theorem nthR_raws (b:Int) (l:List InstT) (k:Nat) (h:k<l.length):nthR (rawsL b l) k=((nthI l k).1,rawWs (nthI l k) b):=by
 rw [nthI_lt _ _ h];simp [nthR,rawsL,List.getD,h]
theorem rawsL_take (b:Int) (l:List InstT) (k:Nat) (h:k<l.length):rawsL b (l.take (k+1))=rawsL b (l.take k)++[((nthI l k).1,rawWs (nthI l k) b)]:=by
 unfold rawsL
 rw [List.take_add_one,List.getElem?_eq_getElem h,nthI_lt _ _ h,List.map_append];rfl
theorem dropI (l:List InstT) (k:Nat) (h:k<l.length):l.drop k=nthI l k :: l.drop (k+1):=by
 rw [nthI_lt _ _ h];exact List.drop_eq_getElem_cons h
theorem shape_end (b:Int) (l:List InstT) (k c:Nat) (h:l.length≤k):shapeF b k c (l.drop k)=(0,0):=by
 rw [List.drop_eq_nil_of_le h];rfl
theorem shape_step (b:Int) (l:List InstT) (k:Nat) (h:k<l.length):shapeF b k (sizeTo (rawsL b l) k) (l.drop k)=if rawE (nthI l k) b≠0 then (rawE (nthI l k) b,k) else if 1048576<sizeTo (rawsL b l) (k+1) then (4,k) else shapeF b (k+1) (sizeTo (rawsL b l) (k+1)) (l.drop (k+1)):=by
 rw [dropI l k h,shapeF,sizeTo_succ (rawsL b l) k (by rw [rawsL_len];exact h),nthR_raws b l k h]
theorem rawWs_ok {x:InstT} {b:Int} (h:rawE x b=0):(lookF refT x.1).2=true∧faultI (lookF refT x.1).1 x b=0∧rawWs x b=rawL (lookF refT x.1).1 x:=by
 have h1:=h
 unfold rawE at h1
 by_cases h2:(lookF refT x.1).2=true
 ·rw [if_pos h2] at h1
  exact⟨h2,h1,by unfold rawWs;rw [if_pos h]⟩
 ·rw [if_neg h2] at h1;cases h1
theorem faultI_zero {f:Frm} {x:InstT} {b:Int} (h:faultI f x b=0):idE f.2.1 x.2.1 b 40=0∧idE f.2.2.1 x.2.2.1 b 41=0∧wrongL f b 0 x.2.2.2=0∧wholeN f x.2.2.2.length=true∧1+(rawL f x).length≤65535:=by
 unfold faultI at h
 by_cases h1:idE f.2.1 x.2.1 b 40=0
 ·rw [if_neg (by simp [h1])] at h
  by_cases h2:idE f.2.2.1 x.2.2.1 b 41=0
  ·rw [if_neg (by simp [h2])] at h
   by_cases h3:wrongL f b 0 x.2.2.2=0
   ·rw [if_neg (by simp [h3])] at h
    by_cases h4:wholeN f x.2.2.2.length=true
    ·rw [if_neg (by simp [h4])] at h
     by_cases h5:65535<1+(rawL f x).length
     ·rw [if_pos h5] at h;cases h
     ·exact⟨h1,h2,h3,h4,by omega⟩
    ·rw [if_pos (by simpa using h4)] at h;cases h
   ·rw [if_pos h3] at h;exact absurd h h3
  ·rw [if_pos h2] at h;exact absurd h h2
 ·rw [if_pos h1] at h;exact absurd h h1
theorem rawWs_len (x:InstT) (b:Int):(rawWs x b).length<65535:=by
 by_cases h:rawE x b=0
 ·obtain⟨_,h2,h3⟩:=rawWs_ok h
  have:=(faultI_zero h2).2.2.2.2
  rw [h3];omega
 ·rw [rawWs,if_neg h];simp
theorem fault_shapeF (b:Int) (l:List InstT):∀ d k,l.length - k=d→(shapeF b k (sizeTo (rawsL b l) k) (l.drop k)).1=0→fault (rawsL b l) k=(0,0)
 | 0,k,hd,_=>fault_end _ _ (by rw [rawsL_len];omega)
 | d+1,k,hd,h=>by
  have hk:k<l.length:=by omega
  rw [shape_step b l k hk] at h
  rw [fault_step _ _ (by rw [rawsL_len];exact hk),nthR_raws b l k hk]
  have hs:=rawWs_len (nthI l k) b
  rw [if_neg (by simp only;omega)]
  by_cases h1:rawE (nthI l k) b≠0
  ·rw [if_pos h1] at h;exact absurd h h1
  ·rw [if_neg h1] at h
   by_cases h2:1048576<sizeTo (rawsL b l) (k+1)
   ·rw [if_pos h2] at h;cases h
   ·rw [if_neg h2] at h ⊢
    exact fault_shapeF b l d (k+1) (by omega) h
theorem fault_shape {b:Int} {l:List InstT} (h:(shapeE b l).1=0):fault (rawsL b l) 0=(0,0):=by
 unfold shapeE at h
 by_cases h1:b=0∨65536<b
 ·rw [if_pos h1] at h;cases h
 ·rw [if_neg h1] at h
  exact fault_shapeF b l _ 0 rfl h
theorem shape_each {b:Int} {l:List InstT} (h:(shapeE b l).1=0) (k:Nat) (hk:k<l.length):rawE (nthI l k) b=0:=by
 have key:∀ (l:List InstT) (i c k:Nat),(shapeF b i c l).1=0→k<l.length→rawE (nthI l k) b=0:=by
  intro l
  induction l with
  | nil=>intro i c k _ hk;simp at hk
  | cons x l ih =>
   intro i c k h hk
   rw [shapeF] at h
   by_cases h1:rawE x b≠0
   ·rw [if_pos h1] at h;exact absurd h h1
   ·rw [if_neg h1] at h
    cases k with
    | zero=>exact Classical.not_not.1 h1
    | succ k =>
     split at h
     ·cases h
     ·exact ih _ _ k h (by simpa using hk)
 unfold shapeE at h
 by_cases h1:b=0∨65536<b
 ·rw [if_pos h1] at h;cases h
 ·rw [if_neg h1] at h
  exact key l 0 5 k h hk
theorem sizeTo_ge (rs:List (Int×List Int)):∀ k,k≤rs.length→5+k≤sizeTo rs k
 | 0,_=>by rw [sizeTo_zero];omega
 | k+1,h=>by rw [sizeTo_succ rs k (by omega)];have:=sizeTo_ge rs k (by omega);omega
theorem shape_few {b:Int} {l:List InstT} (h:(shapeE b l).1=0):l.length≤1048576∧sizeTo (rawsL b l) l.length≤1048576:=by
 have h1:=fault_none (rawsL b l) (by rw [fault_shape h]) l.length (by rw [rawsL_len];exact Nat.le_refl _)
 have:=sizeTo_ge (rawsL b l) l.length (by rw [rawsL_len];exact Nat.le_refl _)
 omega
def idsA (x:ArgT):List Int:=if x.1=1 then [x.2.1] else []
def idsTo (t:Int) (l:List ArgT) (k:Nat):List Int:=(if t=0 then [] else [t])++(l.take k).flatMap idsA
def idsI (x:InstT):List Int:=idsTo x.2.1 x.2.2.2 x.2.2.2.length
theorem idsTo_zero (t:Int) (l:List ArgT):idsTo t l 0=if t=0 then [] else [t]:=by simp [idsTo]
theorem idsTo_succ (t:Int) (l:List ArgT) (k:Nat) (h:k<l.length):idsTo t l (k+1)=idsTo t l k++idsA (nthA l k):=by
 unfold idsTo
 rw [List.take_add_one,List.getElem?_eq_getElem h,nthA_lt _ _ h,Option.toList_some,List.flatMap_append]
 simp [List.append_assoc]
theorem idsTo_len (t:Int) (l:List ArgT) (k:Nat):(idsTo t l k).length≤1+k:=by
 unfold idsTo
 have h1:((l.take k).flatMap idsA).length≤(l.take k).length:=by
  generalize l.take k=m
  induction m with
  | nil=>simp
  | cons x m ih =>
   rw [List.flatMap_cons,List.length_append,List.length_cons]
   have:(idsA x).length≤1:=by unfold idsA;split <;> simp
   omega
 have h2:(l.take k).length≤k:=by rw [List.length_take];omega
 rw [List.length_append]
 have h3:(if t=0 then [] else [t]:List Int).length≤1:=by split <;> simp
 omega
theorem Ids.info:(Tryz.prog.info? 22).map (fun i=>(i.zero,i.size,i.bytes))=some (some (.int .u32 0),1,4):=by kernel_rfl
structure IdsS (w wr : World) (xo xt xr : Int) (ax : Option Addr) (n cx : Nat) (v : Value) (zs : List Int) : Prop where
  own : wr.ownsRow (w.heap.size + 1) 22 1 v zs.length (zs.map (Value.int .u32))
  box : wr.heap[w.heap.size]? = some (.cells #[.int .u16 xo, .int .u32 xt, .int .u32 xr, .slice ax n cx] 63 (0, 0))
  bel : Below w.heap.size w wr
theorem IdsS.below {w wr wr':World} {xo xt xr:Int} {ax:Option Addr} {n cx:Nat} {v:Value} {zs:List Int} (h:IdsS w wr xo xt xr ax n cx v zs) (hb:Below wr.heap.size wr wr'):IdsS w wr' xo xt xr ax n cx v zs :=
 ⟨own_below h.own hb,(hb.block _ (Array.getElem?_eq_some_iff.1 h.box).1).trans h.box,h.bel.trans (hb.mono h.bel.size)⟩
theorem IdsS.push {w wr w5:World} {xo xt xr:Int} {ax:Option Addr} {n cx:Nat} {v v':Value} {zs:List Int} {y:Int} (h:IdsS w wr xo xt xr ax n cx v zs) (hg:wr.grownBy w5 v.ownBlock) (hown:w5.ownsRow (w.heap.size+1) 22 1 v' (zs.length+1) (zs.map (Value.int .u32)++[.int .u32 y])):IdsS w w5 xo xt xr ax n cx v' (zs++[y]):=by
 have hlo:∀ g,v.ownBlock=some g→w.heap.size+1≤g:=fun g e=>(h.own.lt g e).1
 refine⟨?_,?_,?_⟩
 ·rw [List.length_append,List.map_append];exact hown
 ·exact (hg.block _ (Array.getElem?_eq_some_iff.1 h.box).1 (fun e=>by have:=hlo _ e.symm;omega)).trans h.box
 ·exact h.bel.grown hg h.bel.size (fun k e=>by have:=hlo k e;omega)
set_option maxHeartbeats 2000000 in
theorem codeIds_any (x:InstT) (ax:Option Addr) (n cx:Nat) (w:World) (hv:ArgsV w ax x.2.2.2) (hl:x.2.2.2.length=n) (hn:24 * n≤140737488351232) :
  Calls Tryz.prog 127 #[instV x ax n cx] w fun e w'=>Below w.heap.size w w'∧∃ a m c,e=.returned (.slice a m c)∧(idsI x).length=m∧w'.ownsRow w.heap.size 22 1 (.slice a m c) m ((idsI x).map (Value.int .u32)):=by
 obtain⟨i0,hi,hz0,hz1,hz2⟩:=info_parts Ids.info
 have HI:Hid (Tryz.prog.info? 22=some i0∧i0.zero=some (.int .u32 0)∧i0.size=1∧i0.bytes=4):=⟨hi,hz0,hz1,hz2⟩
 clear hi hz0 hz1 hz2
 obtain⟨xo,xt,xr,xl⟩:=x
 unfold instV
 simp only at *
 have HL:Hid (xl.length=n):=hl
 have eI:idsI (xo,xt,xr,xl)=idsTo xt xl n:=by unfold idsI;simp only;rw [hl]
 rw [eI]
 clear eI hl
 have hS0:IdsS w (w.alloc (.cells #[.int .u16 xo,.int .u32 xt,.int .u32 xr,.slice ax n cx] 63)) xo xt xr ax n cx (.slice none 0 0) []:=⟨World.ownsRow_nil _ _ _ _,alloc_new w _ _,(Below.refl _ w).alloc (Nat.le_refl _) _⟩
 by_cases ht:xt=0
 ·subst ht
  have HS0:Hid (IdsS w (w.alloc (.cells #[.int .u16 xo,.int .u32 0,.int .u32 xr,.slice ax n cx] 63)) xo 0 xr ax n cx (.slice none 0 0) []):=hS0
  clear hS0
  go_enter Tryz.func127,Tryz.ntmps127
  go_wp2
  go_loopw [3,17] (fun v i wr=>∃ k:Nat,k≤n∧i=.int .i64 k∧IdsS w wr xo 0 xr ax n cx v (idsTo 0 xl k)) (fun _ i _=>n - (intOf i).toNat)
  case atStart=>exact⟨0,Nat.zero_le _,rfl,by rw [idsTo_zero,if_pos rfl];exact HS0.out⟩
  case round =>
   obtain⟨k,hk,rfl,hS⟩:=hrel
   clear HS0
   have hA:=hv.below hS.bel
   obtain⟨a',cap',rfl⟩:∃ a cap,u3=.slice a (idsTo 0 xl k).length cap:=by
    rcases hS.own.2 with ⟨rfl,h0⟩ | ⟨g,cap,cur,rfl,_⟩
    ·exact⟨none,0,by rw [h0]⟩
    ·exact⟨_,_,rfl⟩
   by_cases hlt:k<n
   ·have hkl:k<xl.length:=by rw [HL.out];exact hlt
    obtain⟨b1,o1,rfl,hb1,p1,p2,p3⟩:=hA k hkl
    have hsu:=idsTo_succ 0 xl k hkl
    have hln:=idsTo_len 0 xl k
    have HSU:Hid _:=hsu
    generalize idsTo 0 xl k=zs at *
    have HS2:Hid (idsTo 0 xl (k+1)=zs++idsA (nthA xl k)):=HSU.out
    clear hsu HSU
    generalize nthA xl k=z at *
    obtain⟨z1,z2,z3⟩:=z
    simp only at *
    have hki:(k:Int)<(n:Int):=by omega
    have hk0:(0:Int)≤(k:Int):=by omega
    have hS4:=hS.below ((Below.refl _ wr).alloc (Nat.le_refl _) (.cells #[.int .u8 z1,.int .u32 z2,.string z3] 105))
    clear hA
    by_cases h1:z1=1
    ·subst h1
     have hA1:idsA (1,z2,z3)=[z2]:=by simp [idsA]
     have N1:Hid (((wr.alloc (.cells #[.int .u8 1,.int .u32 z2,.string z3] 105)).alloc (.cells #[.int .u32 z2] 22)).ownsRow (w.heap.size+1) 22 1 (.slice a' zs.length cap') zs.length ((zs).map (Value.int .u32))):=own_below hS4.own ((Below.refl _ _).alloc (Nat.le_refl _) _)
     have N2:Hid (∀ (j:Nat) (u:Value),[Value.int .u32 z2][j]?=some u→((wr.alloc (.cells #[.int .u8 1,.int .u32 z2,.string z3] 105)).alloc (.cells #[.int .u32 z2] 22)).cell? ((⟨wr.heap.size+1,0,none⟩:Addr).add j)=some u):=World.news_of_block (cs:=#[.int .u32 z2]) (t:=22) (fr:=(0,0)) (by first | exact alloc_new _ _ _ | simpa using alloc_new ((wr.alloc (.cells #[.int .u8 1,.int .u32 z2,.string z3] 105))) #[.int .u32 z2] 22)
     have N3:Hid (∀ u:Value,u∈[Value.int .u32 z2]→u.oneCell'=true):=by intro u hu;simp at hu;subst hu;rfl
     have N4:zs.length+1≤maxLen:=by unfold maxLen;omega
     have N5:(zs.length+1) * 4≤140737488355328:=by omega
     have N6:Hid (w.heap.size+1≤((wr.alloc (.cells #[.int .u8 1,.int .u32 z2,.string z3] 105)).alloc (.cells #[.int .u32 z2] 22)).heap.size):=by show _≤_;rw [World.size_alloc];have:=(Array.getElem?_eq_some_iff.1 hS4.box).1;omega
     have HS:Hid (IdsS w ((wr.alloc (.cells #[.int .u8 1,.int .u32 z2,.string z3] 105)).alloc (.cells #[.int .u32 z2] 22)) xo 0 xr (some ⟨b1,o1,none⟩) n cx (.slice a' zs.length cap') zs):=hS4.below ((Below.refl _ _).alloc (Nat.le_refl _) _)
     go_wp2_with (at_builtin;refine wpList_append_own _ rfl (.tmp 24) (.tmp 27) 126 rfl (w.heap.size+1) 22 i0 (.int .u32 0) 1 4 Tryz.underlying126 HI.out.1 HI.out.2.1 HI.out.2.2.1 HI.out.2.2.2 rfl (by decide) _ zs.length (zs.map (Value.int .u32)) rfl N1.out ⟨wr.heap.size+1,0,none⟩ 1 1 [.int .u32 z2] rfl rfl N2.out N3.out N4 N5 N6.out ?_)
     intro v5 w5 hown5 hgr5 _
     have hS5:=HS.out.push hgr5 hown5
     obtain⟨a6,cap6,rfl⟩:∃ a cap,v5=.slice a (zs.length+1) cap:=by
      rcases hown5.2 with ⟨_,h0⟩ | ⟨g,cap,cur,rfl,_⟩
      ·omega
      ·exact⟨_,_,rfl⟩
     clear hown5 hgr5 N1 N2 N3 N6 HS hS4
     go_wp2
     go_roundw
     case rel=>exact⟨k+1,by omega,by go_num,by rw [HS2.out,hA1];exact hS5⟩
     case measure=>simp [intOf];omega
    ·have hA1:idsA (z1,z2,z3)=[]:=by simp [idsA,h1]
     have HS4:Hid (IdsS w (wr.alloc (.cells #[.int .u8 z1,.int .u32 z2,.string z3] 105)) xo 0 xr (some ⟨b1,o1,none⟩) n cx (.slice a' zs.length cap') zs):=hS4
     clear hS4
     go_wp2
     go_roundw
     case rel=>exact⟨k+1,by omega,by go_num,by rw [HS2.out,hA1,List.append_nil];exact HS4.out⟩
     case measure=>simp [intOf];omega
   ·obtain rfl:k=n:=by omega
    have hfin:=hS.bel
    have hown:=hS.own
    clear hS hA
    go_wp2
    go_ret
    refine⟨hfin,a',_,cap',rfl,rfl,?_⟩
    refine⟨hown.1,?_⟩
    rcases hown.2 with hn0 | ⟨g,cap,cur,e1,hb,rest⟩
    ·exact .inl hn0
    ·exact .inr ⟨g,cap,cur,e1,by omega,rest⟩
 ·have ht':=ht
  have N1:Hid (((w.alloc (.cells #[.int .u16 xo,.int .u32 xt,.int .u32 xr,.slice ax n cx] 63)).alloc (.cells #[.int .u32 xt] 22)).ownsRow (w.heap.size+1) 22 1 (.slice none 0 0) ([]:List Int).length ((([]:List Int)).map (Value.int .u32))):=own_below hS0.own ((Below.refl _ _).alloc (Nat.le_refl _) _)
  have N2:Hid (∀ (j:Nat) (u:Value),[Value.int .u32 xt][j]?=some u→((w.alloc (.cells #[.int .u16 xo,.int .u32 xt,.int .u32 xr,.slice ax n cx] 63)).alloc (.cells #[.int .u32 xt] 22)).cell? ((⟨w.heap.size+1,0,none⟩:Addr).add j)=some u):=World.news_of_block (cs:=#[.int .u32 xt]) (t:=22) (fr:=(0,0)) (by first | exact alloc_new _ _ _ | simpa using alloc_new ((w.alloc (.cells #[.int .u16 xo,.int .u32 xt,.int .u32 xr,.slice ax n cx] 63))) #[.int .u32 xt] 22)
  have N3:Hid (∀ u:Value,u∈[Value.int .u32 xt]→u.oneCell'=true):=by intro u hu;simp at hu;subst hu;rfl
  have N4:([]:List Int).length+1≤maxLen:=by unfold maxLen;simp
  have N5:(([]:List Int).length+1) * 4≤140737488355328:=by simp
  have N6:Hid (w.heap.size+1≤((w.alloc (.cells #[.int .u16 xo,.int .u32 xt,.int .u32 xr,.slice ax n cx] 63)).alloc (.cells #[.int .u32 xt] 22)).heap.size):=by show _≤_;rw [World.size_alloc];have:=(Array.getElem?_eq_some_iff.1 hS0.box).1;omega
  have HS:Hid (IdsS w ((w.alloc (.cells #[.int .u16 xo,.int .u32 xt,.int .u32 xr,.slice ax n cx] 63)).alloc (.cells #[.int .u32 xt] 22)) xo xt xr ax n cx (.slice none 0 0) ([]:List Int)):=hS0.below ((Below.refl _ _).alloc (Nat.le_refl _) _)
  clear hS0
  go_enter Tryz.func127,Tryz.ntmps127
  go_wp2_with (at_builtin;refine wpList_append_own _ rfl (.tmp 9) (.tmp 12) 126 rfl (w.heap.size+1) 22 i0 (.int .u32 0) 1 4 Tryz.underlying126 HI.out.1 HI.out.2.1 HI.out.2.2.1 HI.out.2.2.2 rfl (by decide) _ 0 [] rfl N1.out ⟨w.heap.size+1,0,none⟩ 1 1 [.int .u32 xt] rfl rfl N2.out N3.out N4 N5 N6.out ?_)
  intro v5 w5 hown5 hgr5 _
  have hS5:=HS.out.push hgr5 hown5
  obtain⟨a5,cap5,rfl⟩:∃ a cap,v5=.slice a 1 cap:=by
   rcases hown5.2 with ⟨_,h0⟩ | ⟨g,cap,cur,rfl,_⟩
   ·cases h0
   ·exact⟨_,_,rfl⟩
  have b3:=(one_block hS5.box).1 3
  have HS5:Hid (IdsS w w5 xo xt xr ax n cx (.slice a5 1 cap5) [xt]):=hS5
  clear hown5 hgr5 N1 N2 N3 N6 HS N4 N5 hS5
  go_wp2
  go_loopw [3,17] (fun v i wr=>∃ k:Nat,k≤n∧i=.int .i64 k∧IdsS w wr xo xt xr ax n cx v (idsTo xt xl k)) (fun _ i _=>n - (intOf i).toNat)
  case atStart=>exact⟨0,Nat.zero_le _,rfl,by rw [idsTo_zero,if_neg ht'];exact HS5.out⟩
  case round =>
   obtain⟨k,hk,rfl,hS⟩:=hrel
   clear HS5
   have hA:=hv.below hS.bel
   obtain⟨a',cap',rfl⟩:∃ a cap,u3=.slice a (idsTo xt xl k).length cap:=by
    rcases hS.own.2 with ⟨rfl,h0⟩ | ⟨g,cap,cur,rfl,_⟩
    ·exact⟨none,0,by rw [h0]⟩
    ·exact⟨_,_,rfl⟩
   by_cases hlt:k<n
   ·have hkl:k<xl.length:=by rw [HL.out];exact hlt
    obtain⟨b1,o1,rfl,hb1,p1,p2,p3⟩:=hA k hkl
    have hsu:=idsTo_succ xt xl k hkl
    have hln:=idsTo_len xt xl k
    have HSU:Hid _:=hsu
    generalize idsTo xt xl k=zs at *
    have HS2:Hid (idsTo xt xl (k+1)=zs++idsA (nthA xl k)):=HSU.out
    clear hsu HSU
    generalize nthA xl k=z at *
    obtain⟨z1,z2,z3⟩:=z
    simp only at *
    have hki:(k:Int)<(n:Int):=by omega
    have hk0:(0:Int)≤(k:Int):=by omega
    have hS4:=hS.below ((Below.refl _ wr).alloc (Nat.le_refl _) (.cells #[.int .u8 z1,.int .u32 z2,.string z3] 105))
    clear hA
    by_cases h1:z1=1
    ·subst h1
     have hA1:idsA (1,z2,z3)=[z2]:=by simp [idsA]
     have N1:Hid (((wr.alloc (.cells #[.int .u8 1,.int .u32 z2,.string z3] 105)).alloc (.cells #[.int .u32 z2] 22)).ownsRow (w.heap.size+1) 22 1 (.slice a' zs.length cap') zs.length ((zs).map (Value.int .u32))):=own_below hS4.own ((Below.refl _ _).alloc (Nat.le_refl _) _)
     have N2:Hid (∀ (j:Nat) (u:Value),[Value.int .u32 z2][j]?=some u→((wr.alloc (.cells #[.int .u8 1,.int .u32 z2,.string z3] 105)).alloc (.cells #[.int .u32 z2] 22)).cell? ((⟨wr.heap.size+1,0,none⟩:Addr).add j)=some u):=World.news_of_block (cs:=#[.int .u32 z2]) (t:=22) (fr:=(0,0)) (by first | exact alloc_new _ _ _ | simpa using alloc_new ((wr.alloc (.cells #[.int .u8 1,.int .u32 z2,.string z3] 105))) #[.int .u32 z2] 22)
     have N3:Hid (∀ u:Value,u∈[Value.int .u32 z2]→u.oneCell'=true):=by intro u hu;simp at hu;subst hu;rfl
     have N4:zs.length+1≤maxLen:=by unfold maxLen;omega
     have N5:(zs.length+1) * 4≤140737488355328:=by omega
     have N6:Hid (w.heap.size+1≤((wr.alloc (.cells #[.int .u8 1,.int .u32 z2,.string z3] 105)).alloc (.cells #[.int .u32 z2] 22)).heap.size):=by show _≤_;rw [World.size_alloc];have:=(Array.getElem?_eq_some_iff.1 hS4.box).1;omega
     have HS:Hid (IdsS w ((wr.alloc (.cells #[.int .u8 1,.int .u32 z2,.string z3] 105)).alloc (.cells #[.int .u32 z2] 22)) xo xt xr (some ⟨b1,o1,none⟩) n cx (.slice a' zs.length cap') zs):=hS4.below ((Below.refl _ _).alloc (Nat.le_refl _) _)
     go_wp2_with (at_builtin;refine wpList_append_own _ rfl (.tmp 24) (.tmp 27) 126 rfl (w.heap.size+1) 22 i0 (.int .u32 0) 1 4 Tryz.underlying126 HI.out.1 HI.out.2.1 HI.out.2.2.1 HI.out.2.2.2 rfl (by decide) _ zs.length (zs.map (Value.int .u32)) rfl N1.out ⟨wr.heap.size+1,0,none⟩ 1 1 [.int .u32 z2] rfl rfl N2.out N3.out N4 N5 N6.out ?_)
     intro v5 w5 hown5 hgr5 _
     have hS5:=HS.out.push hgr5 hown5
     obtain⟨a6,cap6,rfl⟩:∃ a cap,v5=.slice a (zs.length+1) cap:=by
      rcases hown5.2 with ⟨_,h0⟩ | ⟨g,cap,cur,rfl,_⟩
      ·omega
      ·exact⟨_,_,rfl⟩
     clear hown5 hgr5 N1 N2 N3 N6 HS hS4
     go_wp2
     go_roundw
     case rel=>exact⟨k+1,by omega,by go_num,by rw [HS2.out,hA1];exact hS5⟩
     case measure=>simp [intOf];omega
    ·have hA1:idsA (z1,z2,z3)=[]:=by simp [idsA,h1]
     have HS4:Hid (IdsS w (wr.alloc (.cells #[.int .u8 z1,.int .u32 z2,.string z3] 105)) xo xt xr (some ⟨b1,o1,none⟩) n cx (.slice a' zs.length cap') zs):=hS4
     clear hS4
     go_wp2
     go_roundw
     case rel=>exact⟨k+1,by omega,by go_num,by rw [HS2.out,hA1,List.append_nil];exact HS4.out⟩
     case measure=>simp [intOf];omega
   ·obtain rfl:k=n:=by omega
    have hfin:=hS.bel
    have hown:=hS.own
    clear hS hA
    go_wp2
    go_ret
    refine⟨hfin,a',_,cap',rfl,rfl,?_⟩
    refine⟨hown.1,?_⟩
    rcases hown.2 with hn0 | ⟨g,cap,cur,e1,hb,rest⟩
    ·exact .inl hn0
    ·exact .inr ⟨g,cap,cur,e1,by omega,rest⟩




theorem or512:bits .or .u16 0 512=512:=by decide +kernel
theorem or2048:bits .or .u16 0 2048=2048:=by decide +kernel
theorem or1024:bits .or .u16 0 1024=1024:=by decide +kernel
theorem or2560:bits .or .u16 2048 512=2560:=by decide +kernel
theorem or3072:bits .or .u16 1024 2048=3072:=by decide +kernel
theorem or3584:bits .or .u16 3072 512=3584:=by decide +kernel
set_option maxHeartbeats 1000000 in
theorem kindOf_54 (w:World):Calls Tryz.prog 131 #[.int .u16 54] w fun e w'=>e=.returned (.int .u16 1)∧w=w':=by
 go_enter Tryz.func131,Tryz.ntmps131
 go_wp2
 go_ret
 simp [or512,or1024,or2048,or2560,or3072,or3584]
set_option maxHeartbeats 1000000 in
theorem kindOf_55 (w:World):Calls Tryz.prog 131 #[.int .u16 55] w fun e w'=>e=.returned (.int .u16 2)∧w=w':=by
 go_enter Tryz.func131,Tryz.ntmps131
 go_wp2
 go_ret
 simp [or512,or1024,or2048,or2560,or3072,or3584]
set_option maxHeartbeats 1000000 in
theorem kindOf_56 (w:World):Calls Tryz.prog 131 #[.int .u16 56] w fun e w'=>e=.returned (.int .u16 4)∧w=w':=by
 go_enter Tryz.func131,Tryz.ntmps131
 go_wp2
 go_ret
 simp [or512,or1024,or2048,or2560,or3072,or3584]
set_option maxHeartbeats 1000000 in
theorem kindOf_248 (w:World):Calls Tryz.prog 131 #[.int .u16 248] w fun e w'=>e=.returned (.int .u16 8)∧w=w':=by
 go_enter Tryz.func131,Tryz.ntmps131
 go_wp2
 go_ret
 simp [or512,or1024,or2048,or2560,or3072,or3584]
set_option maxHeartbeats 1000000 in
theorem kindOf_59 (w:World):Calls Tryz.prog 131 #[.int .u16 59] w fun e w'=>e=.returned (.int .u16 16)∧w=w':=by
 go_enter Tryz.func131,Tryz.ntmps131
 go_wp2
 go_ret
 simp [or512,or1024,or2048,or2560,or3072,or3584]
set_option maxHeartbeats 1000000 in
theorem kindOf_245 (w:World):Calls Tryz.prog 131 #[.int .u16 245] w fun e w'=>e=.returned (.int .u16 32)∧w=w':=by
 go_enter Tryz.func131,Tryz.ntmps131
 go_wp2
 go_ret
 simp [or512,or1024,or2048,or2560,or3072,or3584]
set_option maxHeartbeats 1000000 in
theorem kindOf_247 (w:World):Calls Tryz.prog 131 #[.int .u16 247] w fun e w'=>e=.returned (.int .u16 128)∧w=w':=by
 go_enter Tryz.func131,Tryz.ntmps131
 go_wp2
 go_ret
 simp [or512,or1024,or2048,or2560,or3072,or3584]
set_option maxHeartbeats 1000000 in
theorem kindOf_246 (w:World):Calls Tryz.prog 131 #[.int .u16 246] w fun e w'=>e=.returned (.int .u16 256)∧w=w':=by
 go_enter Tryz.func131,Tryz.ntmps131
 go_wp2
 go_ret
 simp [or512,or1024,or2048,or2560,or3072,or3584]
set_option maxHeartbeats 1000000 in
theorem kindOf_250 (w:World):Calls Tryz.prog 131 #[.int .u16 250] w fun e w'=>e=.returned (.int .u16 3584)∧w=w':=by
 go_enter Tryz.func131,Tryz.ntmps131
 go_wp2
 go_ret
 simp [or512,or1024,or2048,or2560,or3072,or3584]
set_option maxHeartbeats 1000000 in
theorem kindOf_249 (w:World):Calls Tryz.prog 131 #[.int .u16 249] w fun e w'=>e=.returned (.int .u16 2560)∧w=w':=by
 go_enter Tryz.func131,Tryz.ntmps131
 go_wp2
 go_ret
 simp [or512,or1024,or2048,or2560,or3072,or3584]
set_option maxHeartbeats 1000000 in
theorem kindOf_252 (w:World):Calls Tryz.prog 131 #[.int .u16 252] w fun e w'=>e=.returned (.int .u16 512)∧w=w':=by
 go_enter Tryz.func131,Tryz.ntmps131
 go_wp2
 go_ret
 simp [or512,or1024,or2048,or2560,or3072,or3584]
set_option maxHeartbeats 1000000 in
theorem kindOf_253 (w:World):Calls Tryz.prog 131 #[.int .u16 253] w fun e w'=>e=.returned (.int .u16 512)∧w=w':=by
 go_enter Tryz.func131,Tryz.ntmps131
 go_wp2
 go_ret
 simp [or512,or1024,or2048,or2560,or3072,or3584]
set_option maxHeartbeats 1000000 in
theorem kindOf_254 (w:World):Calls Tryz.prog 131 #[.int .u16 254] w fun e w'=>e=.returned (.int .u16 512)∧w=w':=by
 go_enter Tryz.func131,Tryz.ntmps131
 go_wp2
 go_ret
 simp [or512,or1024,or2048,or2560,or3072,or3584]
end Go.Proofs.YtlcaedibmlidlaaGreat
