/-
  Texts in one: TypesRead4.
-/
import Derived.Test.YtoebhgpciinkgaaGreatDoorB16
namespace Go.Proofs.YtoebhgpciinkgaaGreatDoor
open Go.RowKit Go.Maps
set_option linter.unusedVariables false
set_option linter.unusedSimpArgs false
set_option maxRecDepth 10000
structure RdB (w : World) (B q p mb nb kb n : Nat) (t : List TyR) (nf : Int → Option Int) (kf : List UInt8 → Bool) (ov : Value) (f : Int → Value) (op ty res : Int) (ax : Option Addr) (na cx : Nat) (l : List ArgT) (W : World) : Prop where
  bd : BdB W B q p mb nb kb n t nf kf ov f
  box : W.heap[w.heap.size]? = some (.cells #[.int .u16 op, .int .u32 ty, .int .u32 res, .slice ax na cx] 71 (0, 0))
  ans : EntB W (w.heap.size + 1) zeroE
  args : ArgsV W ax l
  bel : Below w.heap.size w W
theorem RdB.new {B q p mb nb kb n:Nat} {t:List TyR} {nf:Int→Option Int} {kf:List UInt8→Bool} {ov:Value} {f:Int→Value} {op ty res:Int} {ax:Option Addr} {na cx:Nat} {l:List ArgT} {w:World} (hB:BdB w B q p mb nb kb n t nf kf ov f) (hv:ArgsV w ax l):RdB w B q p mb nb kb n t nf kf ov f op ty res ax na cx l ((w.alloc (.cells #[.int .u16 op,.int .u32 ty,.int .u32 res,.slice ax na cx] 71)).alloc (.cells #[.int .u8 0,.int .i64 0,.int .i64 0,.int .i64 0,.bool false,.int .u32 0,.slice none 0 0] 98)):=by
 have hb1:Below w.heap.size w (w.alloc (.cells #[.int .u16 op,.int .u32 ty,.int .u32 res,.slice ax na cx] 71)):=(Below.refl _ w).alloc (Nat.le_refl _) _
 have hb:Below w.heap.size w ((w.alloc (.cells #[.int .u16 op,.int .u32 ty,.int .u32 res,.slice ax na cx] 71)).alloc (.cells #[.int .u8 0,.int .i64 0,.int .i64 0,.int .i64 0,.bool false,.int .u32 0,.slice none 0 0] 98)):=hb1.alloc (by simp) _
 have hn:=EntB.new (w.alloc (.cells #[.int .u16 op,.int .u32 ty,.int .u32 res,.slice ax na cx] 71)) (.int .u8 0) (.int .i64 0) (.int .i64 0) (.int .i64 0) (.bool false) (.int .u32 0) (.slice none 0 0)
 rw [World.size_alloc] at hn
 exact⟨hB.below hb,by rw [Below.heap_alloc _ _ _ (by simp)];exact heap_alloc_new _ _,hn,hv.below hb,hb⟩
theorem RdB.next {w:World} {B q p mb nb kb n:Nat} {t:List TyR} {nf:Int→Option Int} {kf:List UInt8→Bool} {ov:Value} {f:Int→Value} {op ty res:Int} {ax:Option Addr} {na cx:Nat} {l:List ArgT} {W W':World} (h:RdB w B q p mb nb kb n t nf kf ov f op ty res ax na cx l W) (hb:Below W.heap.size W W'):RdB w B q p mb nb kb n t nf kf ov f op ty res ax na cx l W' :=
 ⟨h.bd.below hb,(hb.block _ (Array.getElem?_eq_some_iff.1 h.box).1).trans h.box,h.ans.below hb,h.args.below hb,h.bel.trans (hb.mono h.bel.size)⟩
theorem RdB.arg {w:World} {B q p mb nb kb n:Nat} {t:List TyR} {nf:Int→Option Int} {kf:List UInt8→Bool} {ov:Value} {f:Int→Value} {op ty res:Int} {ax:Option Addr} {na cx:Nat} {l:List ArgT} {W:World} (h:RdB w B q p mb nb kb n t nf kf ov f op ty res ax na cx l W) (hl:l.length=2):∃ b o,ax=some ⟨b,o,none⟩∧W.cell? ⟨b,o+1,none⟩=some (.int .u32 (nthA l 0).2.1)∧W.cell? ⟨b,o+3+1,none⟩=some (.int .u32 (nthA l 1).2.1):=by
 obtain⟨b,o,e,_,_,h1,_⟩:=h.args 0 (by omega)
 obtain⟨b',o',e',_,_,h2,_⟩:=h.args 1 (by omega)
 rw [e] at e'
 cases e'
 rw [show o+0 * 3+1=o+1 by omega] at h1
 rw [show o+1 * 3+1=o+3+1 by omega] at h2
 exact⟨b,o,e,h1,h2⟩
theorem RdB.below2 {w:World} {B q p mb nb kb n:Nat} {t:List TyR} {nf:Int→Option Int} {kf:List UInt8→Bool} {ov:Value} {f:Int→Value} {op ty res:Int} {ax:Option Addr} {na cx:Nat} {l:List ArgT} {W W1 W2:World} (h:RdB w B q p mb nb kb n t nf kf ov f op ty res ax na cx l W) (hb:Below W.heap.size W W1) (hg:W1.grownBy W2 (some (w.heap.size+1))):Below w.heap.size w W2 :=
 (h.bel.trans (hb.mono h.bel.size)).grown hg (Nat.le_trans h.bel.size hb.size) (fun k e=>by cases e;exact Nat.le_succ _)
theorem EntV.ans {W1 W2:World} {N b:Nat} {v:Value} {r:TyR} (h:EntV W1 N v r) (hN:b<N) (hg:W1.grownBy W2 (some b)):EntV W2 N v r:=by
 obtain⟨a,c,e,hv,hc,hB⟩:=h
 refine⟨a,c,e,?_,hc,hB⟩
 intro j hj
 obtain⟨b',off,e2,hlt,hcell⟩:=hv j hj
 have hne:b'≠b:=fun e=>by have:=hB b' off e2;omega
 refine⟨b',off,e2,Nat.lt_of_lt_of_le hlt hg.size,?_⟩
 have:=hg.block b' hlt (fun e=>hne (Option.some.inj e))
 simp only [World.cell?,this] at hcell ⊢
 exact hcell
theorem EntV.isE {w:World} {N:Nat} {v:Value} {r:TyR} (h:EntV w N v r):IsE v:=by
 obtain⟨a,c,rfl,_⟩:=h;exact IsE.entV _ _ _ _
set_option maxHeartbeats 8000000 in
theorem read21 {B q p mb nb kb n:Nat} {t:List TyR} {nf:Int→Option Int} {kf:List UInt8→Bool} {ov:Value} {f:Int→Value} (ty res:Int) (ax:Option Addr) (na cx:Nat) (l:List ArgT) (w:World) (hB:BdB w B q p mb nb kb n t nf kf ov f) (hv:ArgsV w ax l) (hl:l.length=na) (hok:ArgsOk l) (hna2:l.length=2) :
  Calls Tryz.prog 70 #[.pointer (some ⟨q,0,none⟩),instV (21,ty,res,l) ax na cx] w fun e w'=>ReadQ w.heap.size w w' (tyRead t nf (21,ty,res,l)) e:=by
 have hR:=RdB.new (op:=21) (ty:=ty) (res:=res) (na:=na) (cx:=cx) hB hv
 have hl2:l.length=2:=by omega
 obtain⟨b,o,hax,ha0,ha1⟩:=hR.arg hl2
 have hR2:=hok 0 (by omega)
 have hR3:=hok 1 (by omega)
 have hna:na=2:=by omega
 subst hax
 subst hna
 have HRB:=hide (hR.next (Below.refl _ _).drew)
 have hbl:b<w.heap.size:=by obtain⟨b',o',e,hlt,_⟩:=hv 0 (by omega);cases e;exact hlt
 have c3:=(one_block hR.box).1 3
 have HF:Hid (∀ w',Below (w.heap.size+1) ((w.alloc (.cells #[.int .u16 21,.int .u32 ty,.int .u32 res,.slice (some ⟨b,o,none⟩) 2 cx] 71)).alloc (.cells #[.int .u8 0,.int .i64 0,.int .i64 0,.int .i64 0,.bool false,.int .u32 0,.slice none 0 0] 98)) w'→w'.cell? ⟨w.heap.size,3,none⟩=some (.slice (some ⟨b,o,none⟩) 2 cx)∧w'.cell? ⟨b,o+1,none⟩=some (.int .u32 (nthA l 0).2.1)∧w'.cell? ⟨b,o+3+1,none⟩=some (.int .u32 (nthA l 1).2.1)):=fun w' hC=>⟨(hC.cell (p:=⟨w.heap.size,3,none⟩) (Nat.lt_succ_self _)).trans c3,(hC.cell (p:=⟨b,o+1,none⟩) (Nat.lt_succ_of_lt hbl)).trans ha0,(hC.cell (p:=⟨b,o+3+1,none⟩) (Nat.lt_succ_of_lt hbl)).trans ha1⟩
 have HCALL:=hide (number_anyT (nthA l 0).2.1 (nthA l 1).2.1 ((w.alloc (.cells #[.int .u16 21,.int .u32 ty,.int .u32 res,.slice (some ⟨b,o,none⟩) 2 cx] 71)).alloc (.cells #[.int .u8 0,.int .i64 0,.int .i64 0,.int .i64 0,.bool false,.int .u32 0,.slice none 0 0] 98)).drew hR3.2.2.1 (((w.alloc (.cells #[.int .u16 21,.int .u32 ty,.int .u32 res,.slice (some ⟨b,o,none⟩) 2 cx] 71)).alloc (.cells #[.int .u8 0,.int .i64 0,.int .i64 0,.int .i64 0,.bool false,.int .u32 0,.slice none 0 0] 98)).drew.heap.size))
 have hsp:tyRead t nf (21,ty,res,l)=((if tyArg (21,ty,res,l) 0≠32∨1<tyArg (21,ty,res,l) 1 then (102,noTy) else (0,(⟨0,3,decide (tyArg (21,ty,res,l) 1=1),0,0,[],0,0⟩:TyR))):Int×TyR):=rfl
 have HSZ:Hid (w.heap.size+1≤(((w.alloc (.cells #[.int .u16 21,.int .u32 ty,.int .u32 res,.slice (some ⟨b,o,none⟩) 2 cx] 71)).alloc (.cells #[.int .u8 0,.int .i64 0,.int .i64 0,.int .i64 0,.bool false,.int .u32 0,.slice none 0 0] 98))).heap.size):=by show _≤_;simp
 have HSZ2:Hid (w.heap.size+1<(((w.alloc (.cells #[.int .u16 21,.int .u32 ty,.int .u32 res,.slice (some ⟨b,o,none⟩) 2 cx] 71)).alloc (.cells #[.int .u8 0,.int .i64 0,.int .i64 0,.int .i64 0,.bool false,.int .u32 0,.slice none 0 0] 98))).heap.size):=by show _<_;simp
 have HSZ3:Hid (w.heap.size≤(((w.alloc (.cells #[.int .u16 21,.int .u32 ty,.int .u32 res,.slice (some ⟨b,o,none⟩) 2 cx] 71)).alloc (.cells #[.int .u8 0,.int .i64 0,.int .i64 0,.int .i64 0,.bool false,.int .u32 0,.slice none 0 0] 98))).heap.size):=by show _≤_;simp;omega
 have HANS:=hide (fun w5 hb5=>(hR.next (Below.refl _ _).drew).ans.below (w':=w5) hb5)
 unfold ReadQ at HCALL ⊢
 rw [hsp]
 unfold instV
 unfold tyArg at *
 simp only at HCALL HF ⊢
 generalize (nthA l 0).2.1=x0 at *
 generalize (nthA l 1).2.1=x1 at *
 generalize ((if x0≠32∨1<x1 then (102,noTy) else (0,(⟨0,3,decide (x1=1),0,0,[],0,0⟩:TyR))):Int×TyR)=RR at *
 clear hR hl2 ha0 ha1 hR2 hR3 hB hv hok hl hbl c3 hsp
 go_enter Tryz.func70,Tryz.ntmps70
 go_wp2_with fail
 generalize ((w.alloc (.cells #[.int .u16 21,.int .u32 ty,.int .u32 res,.slice (some ⟨b,o,none⟩) 2 cx] 71)).alloc (.cells #[.int .u8 0,.int .i64 0,.int .i64 0,.int .i64 0,.bool false,.int .u32 0,.slice none 0 0] 98))=WW at *
 have hmix:Tryz.prog.follows .mixedOrders=true:=by kernel_rfl
 refine (wpIn_wide (n:=0)).1 ?_
 refine wpIn_normal (wpIn_region_any hmix (wpAnyC_sound (C:=Below (w.heap.size+1) WW) _ _ _ _ ?_))
 change wpAnyC _ _ _ _ _ _ _ _ _ _ (World.drew _)
 have hC0:Below (w.heap.size+1) WW WW.drew:=(Below.refl _ _).drew
 refine wpAnyC_takeD (i:=0) (some 16) (v:=.pointer (some ⟨w.heap.size,3,none⟩)) (fun _=>trivial) (by kernel_rfl) rfl rfl (by kernel_rfl) (by kernel_rfl) (by kernel_rfl) (fun _ _ _ h=>by cases h.1) hC0 (Or.inl ⟨by kernel_rfl,fun w' hC=>by clear hC;go_simp⟩) ?_
 simp only [Act.put,ap1,ap2,ap3]
 refine wpAnyC_takeD (i:=1) (some 17) (v:=.slice (some ⟨b,o,none⟩) 2 cx) (fun _=>trivial) (by kernel_rfl) rfl rfl (by kernel_rfl) (by kernel_rfl) (by kernel_rfl) (fun _ _ _ h=>by cases h.1) hC0 (Or.inl ⟨by kernel_rfl,fun w' hC=>by have e1:=(HF.out w' hC).1;clear hC;go_simp⟩) ?_
 simp only [Act.put,ap1,ap2,ap3]
 refine wpAnyC_takeD (i:=2) (some 18) (v:=.pointer (some ⟨b,o,none⟩)) (fun _=>trivial) (by kernel_rfl) rfl rfl (by kernel_rfl) (by kernel_rfl) (by kernel_rfl) (fun _ _ _ h=>by cases h.1) hC0 (Or.inl ⟨by kernel_rfl,fun w' hC=>by clear hC;go_simp⟩) ?_
 simp only [Act.put,ap1,ap2,ap3]
 refine wpAnyC_takeD (i:=3) (some 19) (v:=.pointer (some ⟨b,o+1,none⟩)) (fun _=>trivial) (by kernel_rfl) rfl rfl (by kernel_rfl) (by kernel_rfl) (by kernel_rfl) (fun _ _ _ h=>by cases h.1) hC0 (Or.inl ⟨by kernel_rfl,fun w' hC=>by clear hC;go_simp⟩) ?_
 simp only [Act.put,ap1,ap2,ap3]
 refine wpAnyC_takeD (i:=4) (some 20) (v:=.int .u32 x0) (fun _=>trivial) (by kernel_rfl) rfl rfl (by kernel_rfl) (by kernel_rfl) (by kernel_rfl) (fun _ _ _ h=>by cases h.1) hC0 (Or.inl ⟨by kernel_rfl,fun w' hC=>by have e1:=(HF.out w' hC).2.1;clear hC;go_simp⟩) ?_
 simp only [Act.put,ap1,ap2,ap3]
 refine wpAnyC_takeD (i:=5) (some 21) (v:=.pointer (some ⟨w.heap.size,3,none⟩)) (fun _=>trivial) (by kernel_rfl) rfl rfl (by kernel_rfl) (by kernel_rfl) (by kernel_rfl) (fun _ _ _ h=>by cases h.1) hC0 (Or.inl ⟨by kernel_rfl,fun w' hC=>by clear hC;go_simp⟩) ?_
 simp only [Act.put,ap1,ap2,ap3]
 refine wpAnyC_takeD (i:=6) (some 22) (v:=.slice (some ⟨b,o,none⟩) 2 cx) (fun _=>trivial) (by kernel_rfl) rfl rfl (by kernel_rfl) (by kernel_rfl) (by kernel_rfl) (fun _ _ _ h=>by cases h.1) hC0 (Or.inl ⟨by kernel_rfl,fun w' hC=>by have e1:=(HF.out w' hC).1;clear hC;go_simp⟩) ?_
 simp only [Act.put,ap1,ap2,ap3]
 refine wpAnyC_takeD (i:=7) (some 23) (v:=.pointer (some ⟨b,o+3,none⟩)) (fun _=>trivial) (by kernel_rfl) rfl rfl (by kernel_rfl) (by kernel_rfl) (by kernel_rfl) (fun _ _ _ h=>by cases h.1) hC0 (Or.inl ⟨by kernel_rfl,fun w' hC=>by clear hC;go_simp⟩) ?_
 simp only [Act.put,ap1,ap2,ap3]
 refine wpAnyC_takeD (i:=8) (some 24) (v:=.pointer (some ⟨b,o+3+1,none⟩)) (fun _=>trivial) (by kernel_rfl) rfl rfl (by kernel_rfl) (by kernel_rfl) (by kernel_rfl) (fun _ _ _ h=>by cases h.1) hC0 (Or.inl ⟨by kernel_rfl,fun w' hC=>by clear hC;go_simp⟩) ?_
 simp only [Act.put,ap1,ap2,ap3]
 refine wpAnyC_takeD (i:=9) (some 25) (v:=.int .u32 x1) (fun _=>trivial) (by kernel_rfl) rfl rfl (by kernel_rfl) (by kernel_rfl) (by kernel_rfl) (fun _ _ _ h=>by cases h.1) hC0 (Or.inl ⟨by kernel_rfl,fun w' hC=>by have e1:=(HF.out w' hC).2.2;clear hC;go_simp⟩) ?_
 simp only [Act.put,ap1,ap2,ap3]
 refine wpAnyC_ready (rs:=[10]) (by kernel_rfl) (by simp) ?_
 refine AllC.cons rfl (fun K hK=>?_) AllC.nil
 go_simp
 refine⟨trivial,rfl,(callsIn_wide.2 HCALL.out).mono ?_⟩
 rintro e w5 ⟨v,rfl,hev,hb5⟩
 dsimp only
 have hC1:Below (w.heap.size+1) WW w5:=hC0.trans (hb5.mono HSZ.out)
 refine hK _ _ hC1 ?_
 clear hK K
 try simp only [Act.put,ap1,ap2,ap3]
 have hE5:=HANS.out w5 hb5
 clear hC0 HCALL
 have hC0:=hC1
 refine wpAnyC_takeD (i:=11) (some 27) (v:=v) (fun _=>trivial) (by kernel_rfl) rfl rfl (by kernel_rfl) (by kernel_rfl) (by kernel_rfl) (fun _ _ _ h=>by cases h.1) hC0 (Or.inl ⟨by kernel_rfl,fun w' hC=>by clear hC;go_simp⟩) ?_
 simp only [Act.put,ap1,ap2,ap3]
 refine wpAnyC_takeD (i:=12) (some 28) (v:=.int .i64 RR.1) (fun _=>trivial) (by kernel_rfl) rfl rfl (by kernel_rfl) (by kernel_rfl) (by kernel_rfl) (fun _ _ _ h=>by cases h.1) hC0 (Or.inl ⟨by kernel_rfl,fun w' hC=>by clear hC;go_simp⟩) ?_
 simp only [Act.put,ap1,ap2,ap3]
 refine wpAnyC_ready (rs:=[13]) (by kernel_rfl) (by simp) ?_
 refine AllC.cons rfl (fun K hK=>?_) AllC.nil
 refine stepAny_storeE _ (fun _=>trivial) rfl (.tmp 4) (.tmp 27) rfl (w.heap.size+1) zeroE v rfl rfl hE5 hev.isE ?_
 intro w6 hE6 hg6 hs6
 have hC2:Below (w.heap.size+1) WW w6:=hC1.grown hg6 (Nat.le_trans HSZ.out hC1.size) (fun k e=>by cases e;exact Nat.le_refl _)
 refine hK _ _ hC2 ?_
 clear hK K
 try simp only [Act.put,ap1,ap2,ap3]
 clear hC0
 have hC0:=hC2
 refine wpAnyC_takeD (i:=14) (some 5) (v:=.int .i64 RR.1) (fun _=>trivial) (by kernel_rfl) rfl rfl (by kernel_rfl) (by kernel_rfl) (by kernel_rfl) (fun _ _ _ h=>by cases h.1) hC0 (Or.inl ⟨by kernel_rfl,fun w' hC=>by clear hC;go_simp⟩) ?_
 simp only [Act.put,ap1,ap2,ap3]
 refine wpAnyC_done (by kernel_rfl) ?_ _
 refine⟨rfl,?_⟩
 go_wp2_with fail
 try simp only [Exit.inBlock,Exit.then]
 refine bodyPost_ret (res_entry Tryz.results70 _ _ _ _ _ rfl rfl hE6) rfl ?_
 exact⟨v,rfl,(hev.ans (show w.heap.size+1<WW.drew.heap.size from HSZ2.out) hg6).mono (HSZ3.out),HRB.out.below2 hb5 hg6⟩
set_option maxHeartbeats 8000000 in
theorem read23 {B q p mb nb kb n:Nat} {t:List TyR} {nf:Int→Option Int} {kf:List UInt8→Bool} {ov:Value} {f:Int→Value} (ty res:Int) (ax:Option Addr) (na cx:Nat) (l:List ArgT) (w:World) (hB:BdB w B q p mb nb kb n t nf kf ov f) (hv:ArgsV w ax l) (hl:l.length=na) (hok:ArgsOk l) (hna2:l.length=2) :
  Calls Tryz.prog 70 #[.pointer (some ⟨q,0,none⟩),instV (23,ty,res,l) ax na cx] w fun e w'=>ReadQ w.heap.size w w' (tyRead t nf (23,ty,res,l)) e:=by
 have hR:=RdB.new (op:=23) (ty:=ty) (res:=res) (na:=na) (cx:=cx) hB hv
 have hl2:l.length=2:=by omega
 obtain⟨b,o,hax,ha0,ha1⟩:=hR.arg hl2
 have hR2:=hok 0 (by omega)
 have hR3:=hok 1 (by omega)
 have hna:na=2:=by omega
 subst hax
 subst hna
 have HRB:=hide (hR.next (Below.refl _ _).drew)
 have hbl:b<w.heap.size:=by obtain⟨b',o',e,hlt,_⟩:=hv 0 (by omega);cases e;exact hlt
 have c3:=(one_block hR.box).1 3
 have HF:Hid (∀ w',Below (w.heap.size+1) ((w.alloc (.cells #[.int .u16 23,.int .u32 ty,.int .u32 res,.slice (some ⟨b,o,none⟩) 2 cx] 71)).alloc (.cells #[.int .u8 0,.int .i64 0,.int .i64 0,.int .i64 0,.bool false,.int .u32 0,.slice none 0 0] 98)) w'→w'.cell? ⟨w.heap.size,3,none⟩=some (.slice (some ⟨b,o,none⟩) 2 cx)∧w'.cell? ⟨b,o+1,none⟩=some (.int .u32 (nthA l 0).2.1)∧w'.cell? ⟨b,o+3+1,none⟩=some (.int .u32 (nthA l 1).2.1)):=fun w' hC=>⟨(hC.cell (p:=⟨w.heap.size,3,none⟩) (Nat.lt_succ_self _)).trans c3,(hC.cell (p:=⟨b,o+1,none⟩) (Nat.lt_succ_of_lt hbl)).trans ha0,(hC.cell (p:=⟨b,o+3+1,none⟩) (Nat.lt_succ_of_lt hbl)).trans ha1⟩
 have HCALL:=hide (vector_any (nthA l 0).2.1 (nthA l 1).2.1 _ (hR.next (Below.refl _ _).drew).bd hR2.2.2.1 hR2.2.2.2.1 hR3.2.2.1 hR3.2.2.2.1)
 have hsp:tyRead t nf (23,ty,res,l)=((if ¬ (kindT t (tyArg (23,ty,res,l) 0)=2∨kindT t (tyArg (23,ty,res,l) 0)=3) then (100,noTy) else if tyArg (23,ty,res,l) 1<2∨4<tyArg (23,ty,res,l) 1 then (102,noTy) else (0,(⟨0,4,false,0,(tyArg (23,ty,res,l) 1).toNat,[tyArg (23,ty,res,l) 0],0,0⟩:TyR))):Int×TyR):=rfl
 have HSZ:Hid (w.heap.size+1≤(((w.alloc (.cells #[.int .u16 23,.int .u32 ty,.int .u32 res,.slice (some ⟨b,o,none⟩) 2 cx] 71)).alloc (.cells #[.int .u8 0,.int .i64 0,.int .i64 0,.int .i64 0,.bool false,.int .u32 0,.slice none 0 0] 98))).heap.size):=by show _≤_;simp
 have HSZ2:Hid (w.heap.size+1<(((w.alloc (.cells #[.int .u16 23,.int .u32 ty,.int .u32 res,.slice (some ⟨b,o,none⟩) 2 cx] 71)).alloc (.cells #[.int .u8 0,.int .i64 0,.int .i64 0,.int .i64 0,.bool false,.int .u32 0,.slice none 0 0] 98))).heap.size):=by show _<_;simp
 have HSZ3:Hid (w.heap.size≤(((w.alloc (.cells #[.int .u16 23,.int .u32 ty,.int .u32 res,.slice (some ⟨b,o,none⟩) 2 cx] 71)).alloc (.cells #[.int .u8 0,.int .i64 0,.int .i64 0,.int .i64 0,.bool false,.int .u32 0,.slice none 0 0] 98))).heap.size):=by show _≤_;simp;omega
 have HANS:=hide (fun w5 hb5=>(hR.next (Below.refl _ _).drew).ans.below (w':=w5) hb5)
 unfold ReadQ at HCALL ⊢
 rw [hsp]
 unfold instV
 unfold tyArg at *
 simp only at HCALL HF ⊢
 generalize (nthA l 0).2.1=x0 at *
 generalize (nthA l 1).2.1=x1 at *
 generalize ((if ¬ (kindT t (x0)=2∨kindT t (x0)=3) then (100,noTy) else if x1<2∨4<x1 then (102,noTy) else (0,(⟨0,4,false,0,(x1).toNat,[x0],0,0⟩:TyR))):Int×TyR)=RR at *
 clear hR hl2 ha0 ha1 hR2 hR3 hB hv hok hl hbl c3 hsp
 go_enter Tryz.func70,Tryz.ntmps70
 go_wp2_with fail
 generalize ((w.alloc (.cells #[.int .u16 23,.int .u32 ty,.int .u32 res,.slice (some ⟨b,o,none⟩) 2 cx] 71)).alloc (.cells #[.int .u8 0,.int .i64 0,.int .i64 0,.int .i64 0,.bool false,.int .u32 0,.slice none 0 0] 98))=WW at *
 have hmix:Tryz.prog.follows .mixedOrders=true:=by kernel_rfl
 refine (wpIn_wide (n:=0)).1 ?_
 refine wpIn_normal (wpIn_region_any hmix (wpAnyC_sound (C:=Below (w.heap.size+1) WW) _ _ _ _ ?_))
 change wpAnyC _ _ _ _ _ _ _ _ _ _ (World.drew _)
 have hC0:Below (w.heap.size+1) WW WW.drew:=(Below.refl _ _).drew
 refine wpAnyC_takeD (i:=0) (some 31) (v:=.pointer (some ⟨q,0,none⟩)) (fun _=>trivial) (by kernel_rfl) rfl rfl (by kernel_rfl) (by kernel_rfl) (by kernel_rfl) (fun _ _ _ h=>by cases h.1) hC0 (Or.inl ⟨by kernel_rfl,fun w' hC=>by clear hC;go_simp⟩) ?_
 simp only [Act.put,ap1,ap2,ap3]
 refine wpAnyC_takeD (i:=1) (some 32) (v:=.pointer (some ⟨w.heap.size,3,none⟩)) (fun _=>trivial) (by kernel_rfl) rfl rfl (by kernel_rfl) (by kernel_rfl) (by kernel_rfl) (fun _ _ _ h=>by cases h.1) hC0 (Or.inl ⟨by kernel_rfl,fun w' hC=>by clear hC;go_simp⟩) ?_
 simp only [Act.put,ap1,ap2,ap3]
 refine wpAnyC_takeD (i:=2) (some 33) (v:=.slice (some ⟨b,o,none⟩) 2 cx) (fun _=>trivial) (by kernel_rfl) rfl rfl (by kernel_rfl) (by kernel_rfl) (by kernel_rfl) (fun _ _ _ h=>by cases h.1) hC0 (Or.inl ⟨by kernel_rfl,fun w' hC=>by have e1:=(HF.out w' hC).1;clear hC;go_simp⟩) ?_
 simp only [Act.put,ap1,ap2,ap3]
 refine wpAnyC_takeD (i:=3) (some 34) (v:=.pointer (some ⟨b,o,none⟩)) (fun _=>trivial) (by kernel_rfl) rfl rfl (by kernel_rfl) (by kernel_rfl) (by kernel_rfl) (fun _ _ _ h=>by cases h.1) hC0 (Or.inl ⟨by kernel_rfl,fun w' hC=>by clear hC;go_simp⟩) ?_
 simp only [Act.put,ap1,ap2,ap3]
 refine wpAnyC_takeD (i:=4) (some 35) (v:=.pointer (some ⟨b,o+1,none⟩)) (fun _=>trivial) (by kernel_rfl) rfl rfl (by kernel_rfl) (by kernel_rfl) (by kernel_rfl) (fun _ _ _ h=>by cases h.1) hC0 (Or.inl ⟨by kernel_rfl,fun w' hC=>by clear hC;go_simp⟩) ?_
 simp only [Act.put,ap1,ap2,ap3]
 refine wpAnyC_takeD (i:=5) (some 36) (v:=.int .u32 x0) (fun _=>trivial) (by kernel_rfl) rfl rfl (by kernel_rfl) (by kernel_rfl) (by kernel_rfl) (fun _ _ _ h=>by cases h.1) hC0 (Or.inl ⟨by kernel_rfl,fun w' hC=>by have e1:=(HF.out w' hC).2.1;clear hC;go_simp⟩) ?_
 simp only [Act.put,ap1,ap2,ap3]
 refine wpAnyC_takeD (i:=6) (some 37) (v:=.pointer (some ⟨w.heap.size,3,none⟩)) (fun _=>trivial) (by kernel_rfl) rfl rfl (by kernel_rfl) (by kernel_rfl) (by kernel_rfl) (fun _ _ _ h=>by cases h.1) hC0 (Or.inl ⟨by kernel_rfl,fun w' hC=>by clear hC;go_simp⟩) ?_
 simp only [Act.put,ap1,ap2,ap3]
 refine wpAnyC_takeD (i:=7) (some 38) (v:=.slice (some ⟨b,o,none⟩) 2 cx) (fun _=>trivial) (by kernel_rfl) rfl rfl (by kernel_rfl) (by kernel_rfl) (by kernel_rfl) (fun _ _ _ h=>by cases h.1) hC0 (Or.inl ⟨by kernel_rfl,fun w' hC=>by have e1:=(HF.out w' hC).1;clear hC;go_simp⟩) ?_
 simp only [Act.put,ap1,ap2,ap3]
 refine wpAnyC_takeD (i:=8) (some 39) (v:=.pointer (some ⟨b,o+3,none⟩)) (fun _=>trivial) (by kernel_rfl) rfl rfl (by kernel_rfl) (by kernel_rfl) (by kernel_rfl) (fun _ _ _ h=>by cases h.1) hC0 (Or.inl ⟨by kernel_rfl,fun w' hC=>by clear hC;go_simp⟩) ?_
 simp only [Act.put,ap1,ap2,ap3]
 refine wpAnyC_takeD (i:=9) (some 40) (v:=.pointer (some ⟨b,o+3+1,none⟩)) (fun _=>trivial) (by kernel_rfl) rfl rfl (by kernel_rfl) (by kernel_rfl) (by kernel_rfl) (fun _ _ _ h=>by cases h.1) hC0 (Or.inl ⟨by kernel_rfl,fun w' hC=>by clear hC;go_simp⟩) ?_
 simp only [Act.put,ap1,ap2,ap3]
 refine wpAnyC_takeD (i:=10) (some 41) (v:=.int .u32 x1) (fun _=>trivial) (by kernel_rfl) rfl rfl (by kernel_rfl) (by kernel_rfl) (by kernel_rfl) (fun _ _ _ h=>by cases h.1) hC0 (Or.inl ⟨by kernel_rfl,fun w' hC=>by have e1:=(HF.out w' hC).2.2;clear hC;go_simp⟩) ?_
 simp only [Act.put,ap1,ap2,ap3]
 refine wpAnyC_ready (rs:=[11]) (by kernel_rfl) (by simp) ?_
 refine AllC.cons rfl (fun K hK=>?_) AllC.nil
 go_simp
 refine⟨trivial,rfl,(callsIn_wide.2 HCALL.out).mono ?_⟩
 rintro e w5 ⟨v,rfl,hev,hb5⟩
 dsimp only
 have hC1:Below (w.heap.size+1) WW w5:=hC0.trans (hb5.mono HSZ.out)
 refine hK _ _ hC1 ?_
 clear hK K
 try simp only [Act.put,ap1,ap2,ap3]
 have hE5:=HANS.out w5 hb5
 clear hC0 HCALL
 have hC0:=hC1
 refine wpAnyC_takeD (i:=12) (some 43) (v:=v) (fun _=>trivial) (by kernel_rfl) rfl rfl (by kernel_rfl) (by kernel_rfl) (by kernel_rfl) (fun _ _ _ h=>by cases h.1) hC0 (Or.inl ⟨by kernel_rfl,fun w' hC=>by clear hC;go_simp⟩) ?_
 simp only [Act.put,ap1,ap2,ap3]
 refine wpAnyC_takeD (i:=13) (some 44) (v:=.int .i64 RR.1) (fun _=>trivial) (by kernel_rfl) rfl rfl (by kernel_rfl) (by kernel_rfl) (by kernel_rfl) (fun _ _ _ h=>by cases h.1) hC0 (Or.inl ⟨by kernel_rfl,fun w' hC=>by clear hC;go_simp⟩) ?_
 simp only [Act.put,ap1,ap2,ap3]
 refine wpAnyC_ready (rs:=[14]) (by kernel_rfl) (by simp) ?_
 refine AllC.cons rfl (fun K hK=>?_) AllC.nil
 refine stepAny_storeE _ (fun _=>trivial) rfl (.tmp 4) (.tmp 43) rfl (w.heap.size+1) zeroE v rfl rfl hE5 hev.isE ?_
 intro w6 hE6 hg6 hs6
 have hC2:Below (w.heap.size+1) WW w6:=hC1.grown hg6 (Nat.le_trans HSZ.out hC1.size) (fun k e=>by cases e;exact Nat.le_refl _)
 refine hK _ _ hC2 ?_
 clear hK K
 try simp only [Act.put,ap1,ap2,ap3]
 clear hC0
 have hC0:=hC2
 refine wpAnyC_takeD (i:=15) (some 5) (v:=.int .i64 RR.1) (fun _=>trivial) (by kernel_rfl) rfl rfl (by kernel_rfl) (by kernel_rfl) (by kernel_rfl) (fun _ _ _ h=>by cases h.1) hC0 (Or.inl ⟨by kernel_rfl,fun w' hC=>by clear hC;go_simp⟩) ?_
 simp only [Act.put,ap1,ap2,ap3]
 refine wpAnyC_done (by kernel_rfl) ?_ _
 refine⟨rfl,?_⟩
 go_wp2_with fail
 try simp only [Exit.inBlock,Exit.then]
 refine bodyPost_ret (res_entry Tryz.results70 _ _ _ _ _ rfl rfl hE6) rfl ?_
 exact⟨v,rfl,(hev.ans (show w.heap.size+1<WW.drew.heap.size from HSZ2.out) hg6).mono (HSZ3.out),HRB.out.below2 hb5 hg6⟩
set_option maxHeartbeats 8000000 in
theorem read28 {B q p mb nb kb n:Nat} {t:List TyR} {nf:Int→Option Int} {kf:List UInt8→Bool} {ov:Value} {f:Int→Value} (ty res:Int) (ax:Option Addr) (na cx:Nat) (l:List ArgT) (w:World) (hB:BdB w B q p mb nb kb n t nf kf ov f) (hv:ArgsV w ax l) (hl:l.length=na) (hok:ArgsOk l) (hna2:l.length=2) (hnf:∀ id,0≤tyNumD nf id∧tyNumD nf id<4294967296) :
  Calls Tryz.prog 70 #[.pointer (some ⟨q,0,none⟩),instV (28,ty,res,l) ax na cx] w fun e w'=>ReadQ w.heap.size w w' (tyRead t nf (28,ty,res,l)) e:=by
 have hR:=RdB.new (op:=28) (ty:=ty) (res:=res) (na:=na) (cx:=cx) hB hv
 have hl2:l.length=2:=by omega
 obtain⟨b,o,hax,ha0,ha1⟩:=hR.arg hl2
 have hR2:=hok 0 (by omega)
 have hR3:=hok 1 (by omega)
 have hna:na=2:=by omega
 subst hax
 subst hna
 have HRB:=hide (hR.next (Below.refl _ _).drew)
 have hbl:b<w.heap.size:=by obtain⟨b',o',e,hlt,_⟩:=hv 0 (by omega);cases e;exact hlt
 have c3:=(one_block hR.box).1 3
 have HF:Hid (∀ w',Below (w.heap.size+1) ((w.alloc (.cells #[.int .u16 28,.int .u32 ty,.int .u32 res,.slice (some ⟨b,o,none⟩) 2 cx] 71)).alloc (.cells #[.int .u8 0,.int .i64 0,.int .i64 0,.int .i64 0,.bool false,.int .u32 0,.slice none 0 0] 98)) w'→w'.cell? ⟨w.heap.size,3,none⟩=some (.slice (some ⟨b,o,none⟩) 2 cx)∧w'.cell? ⟨b,o+1,none⟩=some (.int .u32 (nthA l 0).2.1)∧w'.cell? ⟨b,o+3+1,none⟩=some (.int .u32 (nthA l 1).2.1)):=fun w' hC=>⟨(hC.cell (p:=⟨w.heap.size,3,none⟩) (Nat.lt_succ_self _)).trans c3,(hC.cell (p:=⟨b,o+1,none⟩) (Nat.lt_succ_of_lt hbl)).trans ha0,(hC.cell (p:=⟨b,o+3+1,none⟩) (Nat.lt_succ_of_lt hbl)).trans ha1⟩
 have HCALL:=hide (array_any (nthA l 0).2.1 (nthA l 1).2.1 _ (hR.next (Below.refl _ _).drew).bd hR2.2.2.1 hR2.2.2.2.1 hR3.2.2.1 hR3.2.2.2.1 (hnf _))
 have hsp:tyRead t nf (28,ty,res,l)=((if plainT t (tyArg (28,ty,res,l) 0)=false then (100,noTy) else if tyNumD nf (tyArg (28,ty,res,l) 1)<1∨4096<tyNumD nf (tyArg (28,ty,res,l) 1) then (102,noTy) else (0,(⟨0,5,false,0,(tyNumD nf (tyArg (28,ty,res,l) 1)).toNat,[tyArg (28,ty,res,l) 0],0,0⟩:TyR))):Int×TyR):=rfl
 have HSZ:Hid (w.heap.size+1≤(((w.alloc (.cells #[.int .u16 28,.int .u32 ty,.int .u32 res,.slice (some ⟨b,o,none⟩) 2 cx] 71)).alloc (.cells #[.int .u8 0,.int .i64 0,.int .i64 0,.int .i64 0,.bool false,.int .u32 0,.slice none 0 0] 98))).heap.size):=by show _≤_;simp
 have HSZ2:Hid (w.heap.size+1<(((w.alloc (.cells #[.int .u16 28,.int .u32 ty,.int .u32 res,.slice (some ⟨b,o,none⟩) 2 cx] 71)).alloc (.cells #[.int .u8 0,.int .i64 0,.int .i64 0,.int .i64 0,.bool false,.int .u32 0,.slice none 0 0] 98))).heap.size):=by show _<_;simp
 have HSZ3:Hid (w.heap.size≤(((w.alloc (.cells #[.int .u16 28,.int .u32 ty,.int .u32 res,.slice (some ⟨b,o,none⟩) 2 cx] 71)).alloc (.cells #[.int .u8 0,.int .i64 0,.int .i64 0,.int .i64 0,.bool false,.int .u32 0,.slice none 0 0] 98))).heap.size):=by show _≤_;simp;omega
 have HANS:=hide (fun w5 hb5=>(hR.next (Below.refl _ _).drew).ans.below (w':=w5) hb5)
 unfold ReadQ at HCALL ⊢
 rw [hsp]
 unfold instV
 unfold tyArg at *
 simp only at HCALL HF ⊢
 generalize (nthA l 0).2.1=x0 at *
 generalize (nthA l 1).2.1=x1 at *
 generalize ((if plainT t (x0)=false then (100,noTy) else if tyNumD nf (x1)<1∨4096<tyNumD nf (x1) then (102,noTy) else (0,(⟨0,5,false,0,(tyNumD nf (x1)).toNat,[x0],0,0⟩:TyR))):Int×TyR)=RR at *
 clear hR hl2 ha0 ha1 hR2 hR3 hB hv hok hl hbl c3 hsp
 go_enter Tryz.func70,Tryz.ntmps70
 go_wp2_with fail
 generalize ((w.alloc (.cells #[.int .u16 28,.int .u32 ty,.int .u32 res,.slice (some ⟨b,o,none⟩) 2 cx] 71)).alloc (.cells #[.int .u8 0,.int .i64 0,.int .i64 0,.int .i64 0,.bool false,.int .u32 0,.slice none 0 0] 98))=WW at *
 have hmix:Tryz.prog.follows .mixedOrders=true:=by kernel_rfl
 refine (wpIn_wide (n:=0)).1 ?_
 refine wpIn_normal (wpIn_region_any hmix (wpAnyC_sound (C:=Below (w.heap.size+1) WW) _ _ _ _ ?_))
 change wpAnyC _ _ _ _ _ _ _ _ _ _ (World.drew _)
 have hC0:Below (w.heap.size+1) WW WW.drew:=(Below.refl _ _).drew
 refine wpAnyC_takeD (i:=0) (some 47) (v:=.pointer (some ⟨q,0,none⟩)) (fun _=>trivial) (by kernel_rfl) rfl rfl (by kernel_rfl) (by kernel_rfl) (by kernel_rfl) (fun _ _ _ h=>by cases h.1) hC0 (Or.inl ⟨by kernel_rfl,fun w' hC=>by clear hC;go_simp⟩) ?_
 simp only [Act.put,ap1,ap2,ap3]
 refine wpAnyC_takeD (i:=1) (some 48) (v:=.pointer (some ⟨w.heap.size,3,none⟩)) (fun _=>trivial) (by kernel_rfl) rfl rfl (by kernel_rfl) (by kernel_rfl) (by kernel_rfl) (fun _ _ _ h=>by cases h.1) hC0 (Or.inl ⟨by kernel_rfl,fun w' hC=>by clear hC;go_simp⟩) ?_
 simp only [Act.put,ap1,ap2,ap3]
 refine wpAnyC_takeD (i:=2) (some 49) (v:=.slice (some ⟨b,o,none⟩) 2 cx) (fun _=>trivial) (by kernel_rfl) rfl rfl (by kernel_rfl) (by kernel_rfl) (by kernel_rfl) (fun _ _ _ h=>by cases h.1) hC0 (Or.inl ⟨by kernel_rfl,fun w' hC=>by have e1:=(HF.out w' hC).1;clear hC;go_simp⟩) ?_
 simp only [Act.put,ap1,ap2,ap3]
 refine wpAnyC_takeD (i:=3) (some 50) (v:=.pointer (some ⟨b,o,none⟩)) (fun _=>trivial) (by kernel_rfl) rfl rfl (by kernel_rfl) (by kernel_rfl) (by kernel_rfl) (fun _ _ _ h=>by cases h.1) hC0 (Or.inl ⟨by kernel_rfl,fun w' hC=>by clear hC;go_simp⟩) ?_
 simp only [Act.put,ap1,ap2,ap3]
 refine wpAnyC_takeD (i:=4) (some 51) (v:=.pointer (some ⟨b,o+1,none⟩)) (fun _=>trivial) (by kernel_rfl) rfl rfl (by kernel_rfl) (by kernel_rfl) (by kernel_rfl) (fun _ _ _ h=>by cases h.1) hC0 (Or.inl ⟨by kernel_rfl,fun w' hC=>by clear hC;go_simp⟩) ?_
 simp only [Act.put,ap1,ap2,ap3]
 refine wpAnyC_takeD (i:=5) (some 52) (v:=.int .u32 x0) (fun _=>trivial) (by kernel_rfl) rfl rfl (by kernel_rfl) (by kernel_rfl) (by kernel_rfl) (fun _ _ _ h=>by cases h.1) hC0 (Or.inl ⟨by kernel_rfl,fun w' hC=>by have e1:=(HF.out w' hC).2.1;clear hC;go_simp⟩) ?_
 simp only [Act.put,ap1,ap2,ap3]
 refine wpAnyC_takeD (i:=6) (some 53) (v:=.pointer (some ⟨w.heap.size,3,none⟩)) (fun _=>trivial) (by kernel_rfl) rfl rfl (by kernel_rfl) (by kernel_rfl) (by kernel_rfl) (fun _ _ _ h=>by cases h.1) hC0 (Or.inl ⟨by kernel_rfl,fun w' hC=>by clear hC;go_simp⟩) ?_
 simp only [Act.put,ap1,ap2,ap3]
 refine wpAnyC_takeD (i:=7) (some 54) (v:=.slice (some ⟨b,o,none⟩) 2 cx) (fun _=>trivial) (by kernel_rfl) rfl rfl (by kernel_rfl) (by kernel_rfl) (by kernel_rfl) (fun _ _ _ h=>by cases h.1) hC0 (Or.inl ⟨by kernel_rfl,fun w' hC=>by have e1:=(HF.out w' hC).1;clear hC;go_simp⟩) ?_
 simp only [Act.put,ap1,ap2,ap3]
 refine wpAnyC_takeD (i:=8) (some 55) (v:=.pointer (some ⟨b,o+3,none⟩)) (fun _=>trivial) (by kernel_rfl) rfl rfl (by kernel_rfl) (by kernel_rfl) (by kernel_rfl) (fun _ _ _ h=>by cases h.1) hC0 (Or.inl ⟨by kernel_rfl,fun w' hC=>by clear hC;go_simp⟩) ?_
 simp only [Act.put,ap1,ap2,ap3]
 refine wpAnyC_takeD (i:=9) (some 56) (v:=.pointer (some ⟨b,o+3+1,none⟩)) (fun _=>trivial) (by kernel_rfl) rfl rfl (by kernel_rfl) (by kernel_rfl) (by kernel_rfl) (fun _ _ _ h=>by cases h.1) hC0 (Or.inl ⟨by kernel_rfl,fun w' hC=>by clear hC;go_simp⟩) ?_
 simp only [Act.put,ap1,ap2,ap3]
 refine wpAnyC_takeD (i:=10) (some 57) (v:=.int .u32 x1) (fun _=>trivial) (by kernel_rfl) rfl rfl (by kernel_rfl) (by kernel_rfl) (by kernel_rfl) (fun _ _ _ h=>by cases h.1) hC0 (Or.inl ⟨by kernel_rfl,fun w' hC=>by have e1:=(HF.out w' hC).2.2;clear hC;go_simp⟩) ?_
 simp only [Act.put,ap1,ap2,ap3]
 refine wpAnyC_ready (rs:=[11]) (by kernel_rfl) (by simp) ?_
 refine AllC.cons rfl (fun K hK=>?_) AllC.nil
 go_simp
 refine⟨trivial,rfl,(callsIn_wide.2 HCALL.out).mono ?_⟩
 rintro e w5 ⟨v,rfl,hev,hb5⟩
 dsimp only
 have hC1:Below (w.heap.size+1) WW w5:=hC0.trans (hb5.mono HSZ.out)
 refine hK _ _ hC1 ?_
 clear hK K
 try simp only [Act.put,ap1,ap2,ap3]
 have hE5:=HANS.out w5 hb5
 clear hC0 HCALL
 have hC0:=hC1
 refine wpAnyC_takeD (i:=12) (some 59) (v:=v) (fun _=>trivial) (by kernel_rfl) rfl rfl (by kernel_rfl) (by kernel_rfl) (by kernel_rfl) (fun _ _ _ h=>by cases h.1) hC0 (Or.inl ⟨by kernel_rfl,fun w' hC=>by clear hC;go_simp⟩) ?_
 simp only [Act.put,ap1,ap2,ap3]
 refine wpAnyC_takeD (i:=13) (some 60) (v:=.int .i64 RR.1) (fun _=>trivial) (by kernel_rfl) rfl rfl (by kernel_rfl) (by kernel_rfl) (by kernel_rfl) (fun _ _ _ h=>by cases h.1) hC0 (Or.inl ⟨by kernel_rfl,fun w' hC=>by clear hC;go_simp⟩) ?_
 simp only [Act.put,ap1,ap2,ap3]
 refine wpAnyC_ready (rs:=[14]) (by kernel_rfl) (by simp) ?_
 refine AllC.cons rfl (fun K hK=>?_) AllC.nil
 refine stepAny_storeE _ (fun _=>trivial) rfl (.tmp 4) (.tmp 59) rfl (w.heap.size+1) zeroE v rfl rfl hE5 hev.isE ?_
 intro w6 hE6 hg6 hs6
 have hC2:Below (w.heap.size+1) WW w6:=hC1.grown hg6 (Nat.le_trans HSZ.out hC1.size) (fun k e=>by cases e;exact Nat.le_refl _)
 refine hK _ _ hC2 ?_
 clear hK K
 try simp only [Act.put,ap1,ap2,ap3]
 clear hC0
 have hC0:=hC2
 refine wpAnyC_takeD (i:=15) (some 5) (v:=.int .i64 RR.1) (fun _=>trivial) (by kernel_rfl) rfl rfl (by kernel_rfl) (by kernel_rfl) (by kernel_rfl) (fun _ _ _ h=>by cases h.1) hC0 (Or.inl ⟨by kernel_rfl,fun w' hC=>by clear hC;go_simp⟩) ?_
 simp only [Act.put,ap1,ap2,ap3]
 refine wpAnyC_done (by kernel_rfl) ?_ _
 refine⟨rfl,?_⟩
 go_wp2_with fail
 try simp only [Exit.inBlock,Exit.then]
 refine bodyPost_ret (res_entry Tryz.results70 _ _ _ _ _ rfl rfl hE6) rfl ?_
 exact⟨v,rfl,(hev.ans (show w.heap.size+1<WW.drew.heap.size from HSZ2.out) hg6).mono (HSZ3.out),HRB.out.below2 hb5 hg6⟩
set_option maxHeartbeats 8000000 in
theorem read32 {B q p mb nb kb n:Nat} {t:List TyR} {nf:Int→Option Int} {kf:List UInt8→Bool} {ov:Value} {f:Int→Value} (ty res:Int) (ax:Option Addr) (na cx:Nat) (l:List ArgT) (w:World) (hB:BdB w B q p mb nb kb n t nf kf ov f) (hv:ArgsV w ax l) (hl:l.length=na) (hok:ArgsOk l) (hna2:l.length=2) :
  Calls Tryz.prog 70 #[.pointer (some ⟨q,0,none⟩),instV (32,ty,res,l) ax na cx] w fun e w'=>ReadQ w.heap.size w w' (tyRead t nf (32,ty,res,l)) e:=by
 have hR:=RdB.new (op:=32) (ty:=ty) (res:=res) (na:=na) (cx:=cx) hB hv
 have hl2:l.length=2:=by omega
 obtain⟨b,o,hax,ha0,ha1⟩:=hR.arg hl2
 have hR2:=hok 0 (by omega)
 have hR3:=hok 1 (by omega)
 have hna:na=2:=by omega
 subst hax
 subst hna
 have HRB:=hide (hR.next (Below.refl _ _).drew)
 have hbl:b<w.heap.size:=by obtain⟨b',o',e,hlt,_⟩:=hv 0 (by omega);cases e;exact hlt
 have c3:=(one_block hR.box).1 3
 have HF:Hid (∀ w',Below (w.heap.size+1) ((w.alloc (.cells #[.int .u16 32,.int .u32 ty,.int .u32 res,.slice (some ⟨b,o,none⟩) 2 cx] 71)).alloc (.cells #[.int .u8 0,.int .i64 0,.int .i64 0,.int .i64 0,.bool false,.int .u32 0,.slice none 0 0] 98)) w'→w'.cell? ⟨w.heap.size,3,none⟩=some (.slice (some ⟨b,o,none⟩) 2 cx)∧w'.cell? ⟨b,o+1,none⟩=some (.int .u32 (nthA l 0).2.1)∧w'.cell? ⟨b,o+3+1,none⟩=some (.int .u32 (nthA l 1).2.1)):=fun w' hC=>⟨(hC.cell (p:=⟨w.heap.size,3,none⟩) (Nat.lt_succ_self _)).trans c3,(hC.cell (p:=⟨b,o+1,none⟩) (Nat.lt_succ_of_lt hbl)).trans ha0,(hC.cell (p:=⟨b,o+3+1,none⟩) (Nat.lt_succ_of_lt hbl)).trans ha1⟩
 have HCALL:=hide (pointer_any (nthA l 0).2.1 (nthA l 1).2.1 _ (hR.next (Below.refl _ _).drew).bd hR3.2.2.1 hR3.2.2.2.1)
 have hsp:tyRead t nf (32,ty,res,l)=((if plainT t (tyArg (32,ty,res,l) 1)=false then (100,noTy) else (0,(⟨0,7,false,tyArg (32,ty,res,l) 0,1,[tyArg (32,ty,res,l) 1],0,0⟩:TyR))):Int×TyR):=rfl
 have HSZ:Hid (w.heap.size+1≤(((w.alloc (.cells #[.int .u16 32,.int .u32 ty,.int .u32 res,.slice (some ⟨b,o,none⟩) 2 cx] 71)).alloc (.cells #[.int .u8 0,.int .i64 0,.int .i64 0,.int .i64 0,.bool false,.int .u32 0,.slice none 0 0] 98))).heap.size):=by show _≤_;simp
 have HSZ2:Hid (w.heap.size+1<(((w.alloc (.cells #[.int .u16 32,.int .u32 ty,.int .u32 res,.slice (some ⟨b,o,none⟩) 2 cx] 71)).alloc (.cells #[.int .u8 0,.int .i64 0,.int .i64 0,.int .i64 0,.bool false,.int .u32 0,.slice none 0 0] 98))).heap.size):=by show _<_;simp
 have HSZ3:Hid (w.heap.size≤(((w.alloc (.cells #[.int .u16 32,.int .u32 ty,.int .u32 res,.slice (some ⟨b,o,none⟩) 2 cx] 71)).alloc (.cells #[.int .u8 0,.int .i64 0,.int .i64 0,.int .i64 0,.bool false,.int .u32 0,.slice none 0 0] 98))).heap.size):=by show _≤_;simp;omega
 have HANS:=hide (fun w5 hb5=>(hR.next (Below.refl _ _).drew).ans.below (w':=w5) hb5)
 unfold ReadQ at HCALL ⊢
 rw [hsp]
 unfold instV
 unfold tyArg at *
 simp only at HCALL HF ⊢
 generalize (nthA l 0).2.1=x0 at *
 generalize (nthA l 1).2.1=x1 at *
 generalize ((if plainT t (x1)=false then (100,noTy) else (0,(⟨0,7,false,x0,1,[x1],0,0⟩:TyR))):Int×TyR)=RR at *
 clear hR hl2 ha0 ha1 hR2 hR3 hB hv hok hl hbl c3 hsp
 go_enter Tryz.func70,Tryz.ntmps70
 go_wp2_with fail
 generalize ((w.alloc (.cells #[.int .u16 32,.int .u32 ty,.int .u32 res,.slice (some ⟨b,o,none⟩) 2 cx] 71)).alloc (.cells #[.int .u8 0,.int .i64 0,.int .i64 0,.int .i64 0,.bool false,.int .u32 0,.slice none 0 0] 98))=WW at *
 have hmix:Tryz.prog.follows .mixedOrders=true:=by kernel_rfl
 refine (wpIn_wide (n:=0)).1 ?_
 refine wpIn_normal (wpIn_region_any hmix (wpAnyC_sound (C:=Below (w.heap.size+1) WW) _ _ _ _ ?_))
 change wpAnyC _ _ _ _ _ _ _ _ _ _ (World.drew _)
 have hC0:Below (w.heap.size+1) WW WW.drew:=(Below.refl _ _).drew
 refine wpAnyC_takeD (i:=0) (some 71) (v:=.pointer (some ⟨q,0,none⟩)) (fun _=>trivial) (by kernel_rfl) rfl rfl (by kernel_rfl) (by kernel_rfl) (by kernel_rfl) (fun _ _ _ h=>by cases h.1) hC0 (Or.inl ⟨by kernel_rfl,fun w' hC=>by clear hC;go_simp⟩) ?_
 simp only [Act.put,ap1,ap2,ap3]
 refine wpAnyC_takeD (i:=1) (some 72) (v:=.pointer (some ⟨w.heap.size,3,none⟩)) (fun _=>trivial) (by kernel_rfl) rfl rfl (by kernel_rfl) (by kernel_rfl) (by kernel_rfl) (fun _ _ _ h=>by cases h.1) hC0 (Or.inl ⟨by kernel_rfl,fun w' hC=>by clear hC;go_simp⟩) ?_
 simp only [Act.put,ap1,ap2,ap3]
 refine wpAnyC_takeD (i:=2) (some 73) (v:=.slice (some ⟨b,o,none⟩) 2 cx) (fun _=>trivial) (by kernel_rfl) rfl rfl (by kernel_rfl) (by kernel_rfl) (by kernel_rfl) (fun _ _ _ h=>by cases h.1) hC0 (Or.inl ⟨by kernel_rfl,fun w' hC=>by have e1:=(HF.out w' hC).1;clear hC;go_simp⟩) ?_
 simp only [Act.put,ap1,ap2,ap3]
 refine wpAnyC_takeD (i:=3) (some 74) (v:=.pointer (some ⟨b,o,none⟩)) (fun _=>trivial) (by kernel_rfl) rfl rfl (by kernel_rfl) (by kernel_rfl) (by kernel_rfl) (fun _ _ _ h=>by cases h.1) hC0 (Or.inl ⟨by kernel_rfl,fun w' hC=>by clear hC;go_simp⟩) ?_
 simp only [Act.put,ap1,ap2,ap3]
 refine wpAnyC_takeD (i:=4) (some 75) (v:=.pointer (some ⟨b,o+1,none⟩)) (fun _=>trivial) (by kernel_rfl) rfl rfl (by kernel_rfl) (by kernel_rfl) (by kernel_rfl) (fun _ _ _ h=>by cases h.1) hC0 (Or.inl ⟨by kernel_rfl,fun w' hC=>by clear hC;go_simp⟩) ?_
 simp only [Act.put,ap1,ap2,ap3]
 refine wpAnyC_takeD (i:=5) (some 76) (v:=.int .u32 x0) (fun _=>trivial) (by kernel_rfl) rfl rfl (by kernel_rfl) (by kernel_rfl) (by kernel_rfl) (fun _ _ _ h=>by cases h.1) hC0 (Or.inl ⟨by kernel_rfl,fun w' hC=>by have e1:=(HF.out w' hC).2.1;clear hC;go_simp⟩) ?_
 simp only [Act.put,ap1,ap2,ap3]
 refine wpAnyC_takeD (i:=6) (some 77) (v:=.pointer (some ⟨w.heap.size,3,none⟩)) (fun _=>trivial) (by kernel_rfl) rfl rfl (by kernel_rfl) (by kernel_rfl) (by kernel_rfl) (fun _ _ _ h=>by cases h.1) hC0 (Or.inl ⟨by kernel_rfl,fun w' hC=>by clear hC;go_simp⟩) ?_
 simp only [Act.put,ap1,ap2,ap3]
 refine wpAnyC_takeD (i:=7) (some 78) (v:=.slice (some ⟨b,o,none⟩) 2 cx) (fun _=>trivial) (by kernel_rfl) rfl rfl (by kernel_rfl) (by kernel_rfl) (by kernel_rfl) (fun _ _ _ h=>by cases h.1) hC0 (Or.inl ⟨by kernel_rfl,fun w' hC=>by have e1:=(HF.out w' hC).1;clear hC;go_simp⟩) ?_
 simp only [Act.put,ap1,ap2,ap3]
 refine wpAnyC_takeD (i:=8) (some 79) (v:=.pointer (some ⟨b,o+3,none⟩)) (fun _=>trivial) (by kernel_rfl) rfl rfl (by kernel_rfl) (by kernel_rfl) (by kernel_rfl) (fun _ _ _ h=>by cases h.1) hC0 (Or.inl ⟨by kernel_rfl,fun w' hC=>by clear hC;go_simp⟩) ?_
 simp only [Act.put,ap1,ap2,ap3]
 refine wpAnyC_takeD (i:=9) (some 80) (v:=.pointer (some ⟨b,o+3+1,none⟩)) (fun _=>trivial) (by kernel_rfl) rfl rfl (by kernel_rfl) (by kernel_rfl) (by kernel_rfl) (fun _ _ _ h=>by cases h.1) hC0 (Or.inl ⟨by kernel_rfl,fun w' hC=>by clear hC;go_simp⟩) ?_
 simp only [Act.put,ap1,ap2,ap3]
 refine wpAnyC_takeD (i:=10) (some 81) (v:=.int .u32 x1) (fun _=>trivial) (by kernel_rfl) rfl rfl (by kernel_rfl) (by kernel_rfl) (by kernel_rfl) (fun _ _ _ h=>by cases h.1) hC0 (Or.inl ⟨by kernel_rfl,fun w' hC=>by have e1:=(HF.out w' hC).2.2;clear hC;go_simp⟩) ?_
 simp only [Act.put,ap1,ap2,ap3]
 refine wpAnyC_ready (rs:=[11]) (by kernel_rfl) (by simp) ?_
 refine AllC.cons rfl (fun K hK=>?_) AllC.nil
 go_simp
 refine⟨trivial,rfl,(callsIn_wide.2 HCALL.out).mono ?_⟩
 rintro e w5 ⟨v,rfl,hev,hb5⟩
 dsimp only
 have hC1:Below (w.heap.size+1) WW w5:=hC0.trans (hb5.mono HSZ.out)
 refine hK _ _ hC1 ?_
 clear hK K
 try simp only [Act.put,ap1,ap2,ap3]
 have hE5:=HANS.out w5 hb5
 clear hC0 HCALL
 have hC0:=hC1
 refine wpAnyC_takeD (i:=12) (some 83) (v:=v) (fun _=>trivial) (by kernel_rfl) rfl rfl (by kernel_rfl) (by kernel_rfl) (by kernel_rfl) (fun _ _ _ h=>by cases h.1) hC0 (Or.inl ⟨by kernel_rfl,fun w' hC=>by clear hC;go_simp⟩) ?_
 simp only [Act.put,ap1,ap2,ap3]
 refine wpAnyC_takeD (i:=13) (some 84) (v:=.int .i64 RR.1) (fun _=>trivial) (by kernel_rfl) rfl rfl (by kernel_rfl) (by kernel_rfl) (by kernel_rfl) (fun _ _ _ h=>by cases h.1) hC0 (Or.inl ⟨by kernel_rfl,fun w' hC=>by clear hC;go_simp⟩) ?_
 simp only [Act.put,ap1,ap2,ap3]
 refine wpAnyC_ready (rs:=[14]) (by kernel_rfl) (by simp) ?_
 refine AllC.cons rfl (fun K hK=>?_) AllC.nil
 refine stepAny_storeE _ (fun _=>trivial) rfl (.tmp 4) (.tmp 83) rfl (w.heap.size+1) zeroE v rfl rfl hE5 hev.isE ?_
 intro w6 hE6 hg6 hs6
 have hC2:Below (w.heap.size+1) WW w6:=hC1.grown hg6 (Nat.le_trans HSZ.out hC1.size) (fun k e=>by cases e;exact Nat.le_refl _)
 refine hK _ _ hC2 ?_
 clear hK K
 try simp only [Act.put,ap1,ap2,ap3]
 clear hC0
 have hC0:=hC2
 refine wpAnyC_takeD (i:=15) (some 5) (v:=.int .i64 RR.1) (fun _=>trivial) (by kernel_rfl) rfl rfl (by kernel_rfl) (by kernel_rfl) (by kernel_rfl) (fun _ _ _ h=>by cases h.1) hC0 (Or.inl ⟨by kernel_rfl,fun w' hC=>by clear hC;go_simp⟩) ?_
 simp only [Act.put,ap1,ap2,ap3]
 refine wpAnyC_done (by kernel_rfl) ?_ _
 refine⟨rfl,?_⟩
 go_wp2_with fail
 try simp only [Exit.inBlock,Exit.then]
 refine bodyPost_ret (res_entry Tryz.results70 _ _ _ _ _ rfl rfl hE6) rfl ?_
 exact⟨v,rfl,(hev.ans (show w.heap.size+1<WW.drew.heap.size from HSZ2.out) hg6).mono (HSZ3.out),HRB.out.below2 hb5 hg6⟩
set_option maxHeartbeats 8000000 in
theorem read19 {B q p mb nb kb n:Nat} {t:List TyR} {nf:Int→Option Int} {kf:List UInt8→Bool} {ov:Value} {f:Int→Value} (ty res:Int) (ax:Option Addr) (na cx:Nat) (l:List ArgT) (w:World) (hB:BdB w B q p mb nb kb n t nf kf ov f) (hv:ArgsV w ax l) (hl:l.length=na) (hok:ArgsOk l) :
  Calls Tryz.prog 70 #[.pointer (some ⟨q,0,none⟩),instV (19,ty,res,l) ax na cx] w fun e w'=>ReadQ w.heap.size w w' (tyRead t nf (19,ty,res,l)) e:=by
 have hR:=RdB.new (op:=19) (ty:=ty) (res:=res) (na:=na) (cx:=cx) hB hv
 have HRB:=hide hR
 have hA:=hR.ans
 have hsp:tyRead t nf (19,ty,res,l)=(0,⟨0,1,false,0,0,[],0,0⟩):=rfl
 rw [hsp]
 unfold ReadQ instV
 clear hR hB hv hok hl hsp
 go_enter Tryz.func70,Tryz.ntmps70
 go_wp2_with (first | (go_at_call 93;refine (single_any _ _).mono ?_;rintro e w5 ⟨rfl,hb5⟩) | (with_reducible refine stopS 98 ?_))
 refine wpList_storeE rfl (.tmp 4) (.tmp 10) rfl (w.heap.size+1) _ _ rfl rfl (hA.below hb5) (IsE.entry _ _ _ _ _ _ _ _ _) ?_
 intro w9 hE9 hg9 hs9
 go_wp2_with fail
 try simp only [Exit.inBlock,Exit.then]
 refine bodyPost_ret (res_entry Tryz.results70 _ _ _ _ _ rfl rfl hE9) rfl ?_
 exact⟨_,rfl,⟨none,0,rfl,fun j hj=>by simp at hj,Nat.le_refl _,fun b o e=>by cases e⟩,HRB.out.below2 hb5 hg9⟩
set_option maxHeartbeats 8000000 in
theorem read20 {B q p mb nb kb n:Nat} {t:List TyR} {nf:Int→Option Int} {kf:List UInt8→Bool} {ov:Value} {f:Int→Value} (ty res:Int) (ax:Option Addr) (na cx:Nat) (l:List ArgT) (w:World) (hB:BdB w B q p mb nb kb n t nf kf ov f) (hv:ArgsV w ax l) (hl:l.length=na) (hok:ArgsOk l) :
  Calls Tryz.prog 70 #[.pointer (some ⟨q,0,none⟩),instV (20,ty,res,l) ax na cx] w fun e w'=>ReadQ w.heap.size w w' (tyRead t nf (20,ty,res,l)) e:=by
 have hR:=RdB.new (op:=20) (ty:=ty) (res:=res) (na:=na) (cx:=cx) hB hv
 have HRB:=hide hR
 have hA:=hR.ans
 have hsp:tyRead t nf (20,ty,res,l)=(0,⟨0,2,false,0,0,[],0,0⟩):=rfl
 rw [hsp]
 unfold ReadQ instV
 clear hR hB hv hok hl hsp
 go_enter Tryz.func70,Tryz.ntmps70
 go_wp2_with (first | (go_at_call 93;refine (single_any _ _).mono ?_;rintro e w5 ⟨rfl,hb5⟩) | (with_reducible refine stopS 98 ?_))
 refine wpList_storeE rfl (.tmp 4) (.tmp 13) rfl (w.heap.size+1) _ _ rfl rfl (hA.below hb5) (IsE.entry _ _ _ _ _ _ _ _ _) ?_
 intro w9 hE9 hg9 hs9
 go_wp2_with fail
 try simp only [Exit.inBlock,Exit.then]
 refine bodyPost_ret (res_entry Tryz.results70 _ _ _ _ _ rfl rfl hE9) rfl ?_
 exact⟨_,rfl,⟨none,0,rfl,fun j hj=>by simp at hj,Nat.le_refl _,fun b o e=>by cases e⟩,HRB.out.below2 hb5 hg9⟩
set_option maxHeartbeats 8000000 in
theorem read30 {B q p mb nb kb n:Nat} {t:List TyR} {nf:Int→Option Int} {kf:List UInt8→Bool} {ov:Value} {f:Int→Value} (ty res:Int) (ax:Option Addr) (na cx:Nat) (l:List ArgT) (w:World) (hB:BdB w B q p mb nb kb n t nf kf ov f) (hv:ArgsV w ax l) (hl:l.length=na) (hok:ArgsOk l) (hna:24 * na≤140737488351232) (hfew:(idsI ((30:Int),ty,res,l)).length<65536) (hir:∀ z∈idsI ((30:Int),ty,res,l),0≤z∧z<4294967296) :
  Calls Tryz.prog 70 #[.pointer (some ⟨q,0,none⟩),instV (30,ty,res,l) ax na cx] w fun e w'=>ReadQ w.heap.size w w' (tyRead t nf (30,ty,res,l)) e:=by
 have hR:=RdB.new (op:=30) (ty:=ty) (res:=res) (na:=na) (cx:=cx) hB hv
 have hI:=codeIds_any (30,ty,res,l) ax na cx _ hR.args hl hna
 have hsp:tyRead t nf (30,ty,res,l)=((if (idsI (30,ty,res,l)).length<1∨256<(idsI (30,ty,res,l)).length then (102,noTy) else if (idsI (30,ty,res,l)).all (plainT t)=false then (100,noTy) else (0,⟨0,6,false,0,(idsI (30,ty,res,l)).length,idsI (30,ty,res,l),0,0⟩)):Int×TyR):=rfl
 have hsz:w.heap.size+1<((w.alloc (.cells #[.int .u16 30,.int .u32 ty,.int .u32 res,.slice ax na cx] 71)).alloc (.cells #[.int .u8 0,.int .i64 0,.int .i64 0,.int .i64 0,.bool false,.int .u32 0,.slice none 0 0] 98)).heap.size:=by simp
 have HRB:=hide hR
 have HSZ:=hide hsz
 rw [hsp]
 unfold ReadQ
 have HS:Hid (∀ (w5:World) (a5:Option Addr) (m5 c5:Nat) (hb5:Below ((w.alloc (.cells #[.int .u16 30,.int .u32 ty,.int .u32 res,.slice ax na cx] 71)).alloc (.cells #[.int .u8 0,.int .i64 0,.int .i64 0,.int .i64 0,.bool false,.int .u32 0,.slice none 0 0] 98)).heap.size ((w.alloc (.cells #[.int .u16 30,.int .u32 ty,.int .u32 res,.slice ax na cx] 71)).alloc (.cells #[.int .u8 0,.int .i64 0,.int .i64 0,.int .i64 0,.bool false,.int .u32 0,.slice none 0 0] 98)) w5) (hm5:(idsI ((30:Int),ty,res,l)).length=m5) (ho5:w5.ownsRow ((w.alloc (.cells #[.int .u16 30,.int .u32 ty,.int .u32 res,.slice ax na cx] 71)).alloc (.cells #[.int .u8 0,.int .i64 0,.int .i64 0,.int .i64 0,.bool false,.int .u32 0,.slice none 0 0] 98)).heap.size 22 1 (.slice a5 m5 c5) m5 ((idsI ((30:Int),ty,res,l)).map (Value.int .u32))),Calls Tryz.prog 97 #[.pointer (some ⟨q,0,none⟩),.slice a5 m5 c5] w5 fun e w'=>ReadQ ((w.alloc (.cells #[.int .u16 30,.int .u32 ty,.int .u32 res,.slice ax na cx] 71)).alloc (.cells #[.int .u8 0,.int .i64 0,.int .i64 0,.int .i64 0,.bool false,.int .u32 0,.slice none 0 0] 98)).heap.size w5 w' ((if (idsI (30,ty,res,l)).length<1∨256<(idsI (30,ty,res,l)).length then (102,noTy) else if (idsI (30,ty,res,l)).all (plainT t)=false then (100,noTy) else (0,⟨0,6,false,0,(idsI (30,ty,res,l)).length,idsI (30,ty,res,l),0,0⟩)):Int×TyR) e):=by
  intro w5 a5 m5 c5 hb5 hm5 ho5
  have hbd:=(hR.next hb5).bd
  have hlt:∀ g o,a5=some ⟨g,o,none⟩→((w.alloc (.cells #[.int .u16 30,.int .u32 ty,.int .u32 res,.slice ax na cx] 71)).alloc (.cells #[.int .u8 0,.int .i64 0,.int .i64 0,.int .i64 0,.bool false,.int .u32 0,.slice none 0 0] 98)).heap.size≤g∧g<w5.heap.size:=fun g o e=>World.ownsRow.lt ho5 g (by rw [e];rfl)
  have hcap:m5≤c5:=by
   rcases ho5.2 with ⟨e,e2⟩ | ⟨g,cap,cur,e,_,_,e2,_⟩
   ·omega
   ·cases e;exact e2
  have hvw:=View.ofOwn ho5 hm5
  exact structOf_any a5 m5 c5 (idsI ((30:Int),ty,res,l)) w5 ((w.alloc (.cells #[.int .u16 30,.int .u32 ty,.int .u32 res,.slice ax na cx] 71)).alloc (.cells #[.int .u8 0,.int .i64 0,.int .i64 0,.int .i64 0,.bool false,.int .u32 0,.slice none 0 0] 98)).heap.size hbd hvw hm5 hcap hlt hir (by omega)
 generalize hRR:((if (idsI (30,ty,res,l)).length<1∨256<(idsI (30,ty,res,l)).length then (102,noTy) else if (idsI (30,ty,res,l)).all (plainT t)=false then (100,noTy) else (0,⟨0,6,false,0,(idsI (30,ty,res,l)).length,idsI (30,ty,res,l),0,0⟩)):Int×TyR)=RR at *
 unfold ReadQ at HS
 unfold instV at *
 simp only at hI
 generalize idsI ((30:Int),ty,res,l)=ids at *
 clear hR hB hv hok hl hna hfew hir hsp hsz hRR
 go_enter Tryz.func70,Tryz.ntmps70
 go_wp2_with (first | (go_at_call 92;refine hI.mono ?_;rintro e w5 ⟨hb5,a5,m5,c5,rfl,hm5,ho5⟩) | (go_at_call 97;refine (HS.out w5 a5 m5 c5 hb5 hm5 ho5).mono ?_;rintro e w6 ⟨v,rfl,hev,hb6⟩) | (with_reducible refine stopS 98 ?_))
 have hb7:=hb5.trans (hb6.mono hb5.size)
 refine wpList_storeE rfl (.tmp 4) (.tmp 67) rfl (w.heap.size+1) _ _ rfl rfl (HRB.out.ans.below hb7) hev.isE ?_
 intro w9 hE9 hg9 hs9
 go_wp2_with fail
 try simp only [Exit.inBlock,Exit.then]
 refine bodyPost_ret (res_entry Tryz.results70 _ _ _ _ _ rfl rfl hE9) rfl ?_
 exact⟨_,rfl,(hev.ans HSZ.out hg9).mono (Nat.le_of_lt (Nat.lt_of_succ_lt HSZ.out)),HRB.out.below2 hb7 hg9⟩
set_option maxHeartbeats 8000000 in
theorem read33 {B q p mb nb kb n:Nat} {t:List TyR} {nf:Int→Option Int} {kf:List UInt8→Bool} {ov:Value} {f:Int→Value} (ty res:Int) (ax:Option Addr) (na cx:Nat) (l:List ArgT) (w:World) (hB:BdB w B q p mb nb kb n t nf kf ov f) (hv:ArgsV w ax l) (hl:l.length=na) (hok:ArgsOk l) (hna:24 * na≤140737488351232) (hfew:(idsI ((33:Int),ty,res,l)).length<65536) (hir:∀ z∈idsI ((33:Int),ty,res,l),0≤z∧z<4294967296) (h1:1≤(idsI ((33:Int),ty,res,l)).length) :
  Calls Tryz.prog 70 #[.pointer (some ⟨q,0,none⟩),instV (33,ty,res,l) ax na cx] w fun e w'=>ReadQ w.heap.size w w' (tyRead t nf (33,ty,res,l)) e:=by
 have hR:=RdB.new (op:=33) (ty:=ty) (res:=res) (na:=na) (cx:=cx) hB hv
 have hI:=codeIds_any (33,ty,res,l) ax na cx _ hR.args hl hna
 have hsp:tyRead t nf (33,ty,res,l)=((if backT t (nth (idsI (33,ty,res,l)) 0)=false then (100,noTy) else if ((idsI (33,ty,res,l)).drop 1).all (handT t)=false then (100,noTy) else (0,⟨0,8,false,0,(idsI (33,ty,res,l)).length,idsI (33,ty,res,l),0,0⟩)):Int×TyR):=rfl
 have hsz:w.heap.size+1<((w.alloc (.cells #[.int .u16 33,.int .u32 ty,.int .u32 res,.slice ax na cx] 71)).alloc (.cells #[.int .u8 0,.int .i64 0,.int .i64 0,.int .i64 0,.bool false,.int .u32 0,.slice none 0 0] 98)).heap.size:=by simp
 have HRB:=hide hR
 have HSZ:=hide hsz
 rw [hsp]
 unfold ReadQ
 have HS:Hid (∀ (w5:World) (a5:Option Addr) (m5 c5:Nat) (hb5:Below ((w.alloc (.cells #[.int .u16 33,.int .u32 ty,.int .u32 res,.slice ax na cx] 71)).alloc (.cells #[.int .u8 0,.int .i64 0,.int .i64 0,.int .i64 0,.bool false,.int .u32 0,.slice none 0 0] 98)).heap.size ((w.alloc (.cells #[.int .u16 33,.int .u32 ty,.int .u32 res,.slice ax na cx] 71)).alloc (.cells #[.int .u8 0,.int .i64 0,.int .i64 0,.int .i64 0,.bool false,.int .u32 0,.slice none 0 0] 98)) w5) (hm5:(idsI ((33:Int),ty,res,l)).length=m5) (ho5:w5.ownsRow ((w.alloc (.cells #[.int .u16 33,.int .u32 ty,.int .u32 res,.slice ax na cx] 71)).alloc (.cells #[.int .u8 0,.int .i64 0,.int .i64 0,.int .i64 0,.bool false,.int .u32 0,.slice none 0 0] 98)).heap.size 22 1 (.slice a5 m5 c5) m5 ((idsI ((33:Int),ty,res,l)).map (Value.int .u32))),Calls Tryz.prog 99 #[.pointer (some ⟨q,0,none⟩),.slice a5 m5 c5] w5 fun e w'=>ReadQ ((w.alloc (.cells #[.int .u16 33,.int .u32 ty,.int .u32 res,.slice ax na cx] 71)).alloc (.cells #[.int .u8 0,.int .i64 0,.int .i64 0,.int .i64 0,.bool false,.int .u32 0,.slice none 0 0] 98)).heap.size w5 w' ((if backT t (nth (idsI (33,ty,res,l)) 0)=false then (100,noTy) else if ((idsI (33,ty,res,l)).drop 1).all (handT t)=false then (100,noTy) else (0,⟨0,8,false,0,(idsI (33,ty,res,l)).length,idsI (33,ty,res,l),0,0⟩)):Int×TyR) e):=by
  intro w5 a5 m5 c5 hb5 hm5 ho5
  have hbd:=(hR.next hb5).bd
  have hlt:∀ g o,a5=some ⟨g,o,none⟩→((w.alloc (.cells #[.int .u16 33,.int .u32 ty,.int .u32 res,.slice ax na cx] 71)).alloc (.cells #[.int .u8 0,.int .i64 0,.int .i64 0,.int .i64 0,.bool false,.int .u32 0,.slice none 0 0] 98)).heap.size≤g∧g<w5.heap.size:=fun g o e=>World.ownsRow.lt ho5 g (by rw [e];rfl)
  have hcap:m5≤c5:=by
   rcases ho5.2 with ⟨e,e2⟩ | ⟨g,cap,cur,e,_,_,e2,_⟩
   ·omega
   ·cases e;exact e2
  have hvw:=View.ofOwn ho5 hm5
  obtain⟨b5,o5,e5,_⟩:=hvw 0 (by omega)
  subst e5
  have hfn:=function_any b5 o5 m5 c5 (idsI ((33:Int),ty,res,l)) w5 ((w.alloc (.cells #[.int .u16 33,.int .u32 ty,.int .u32 res,.slice ax na cx] 71)).alloc (.cells #[.int .u8 0,.int .i64 0,.int .i64 0,.int .i64 0,.bool false,.int .u32 0,.slice none 0 0] 98)).heap.size hbd hvw hm5 hcap (hlt b5 o5 rfl) hir (by omega) (by omega)
  exact hfn
 generalize hRR:((if backT t (nth (idsI (33,ty,res,l)) 0)=false then (100,noTy) else if ((idsI (33,ty,res,l)).drop 1).all (handT t)=false then (100,noTy) else (0,⟨0,8,false,0,(idsI (33,ty,res,l)).length,idsI (33,ty,res,l),0,0⟩)):Int×TyR)=RR at *
 unfold ReadQ at HS
 unfold instV at *
 simp only at hI
 generalize idsI ((33:Int),ty,res,l)=ids at *
 clear hR hB hv hok hl hna hfew hir hsp hsz hRR h1
 go_enter Tryz.func70,Tryz.ntmps70
 go_wp2_with (first | (go_at_call 92;refine hI.mono ?_;rintro e w5 ⟨hb5,a5,m5,c5,rfl,hm5,ho5⟩) | (go_at_call 99;refine (HS.out w5 a5 m5 c5 hb5 hm5 ho5).mono ?_;rintro e w6 ⟨v,rfl,hev,hb6⟩) | (with_reducible refine stopS 98 ?_))
 have hb7:=hb5.trans (hb6.mono hb5.size)
 refine wpList_storeE rfl (.tmp 4) (.tmp 91) rfl (w.heap.size+1) _ _ rfl rfl (HRB.out.ans.below hb7) hev.isE ?_
 intro w9 hE9 hg9 hs9
 go_wp2_with fail
 try simp only [Exit.inBlock,Exit.then]
 refine bodyPost_ret (res_entry Tryz.results70 _ _ _ _ _ rfl rfl hE9) rfl ?_
 exact⟨_,rfl,(hev.ans HSZ.out hg9).mono (Nat.le_of_lt (Nat.lt_of_succ_lt HSZ.out)),HRB.out.below2 hb7 hg9⟩
set_option maxHeartbeats 8000000 in
theorem readNo {B q p mb nb kb n:Nat} {t:List TyR} {nf:Int→Option Int} {kf:List UInt8→Bool} {ov:Value} {f:Int→Value} (op ty res:Int) (ax:Option Addr) (na cx:Nat) (l:List ArgT) (w:World) (hB:BdB w B q p mb nb kb n t nf kf ov f) (hv:ArgsV w ax l) (hno:¬ (op=19∨op=20∨op=21∨op=23∨op=28∨op=30∨op=32∨op=33)) :
  Calls Tryz.prog 70 #[.pointer (some ⟨q,0,none⟩),instV (op,ty,res,l) ax na cx] w fun e w'=>ReadQ w.heap.size w w' (tyRead t nf (op,ty,res,l)) e:=by
 have hR:=RdB.new (op:=op) (ty:=ty) (res:=res) (na:=na) (cx:=cx) hB hv
 have HRB:=hide hR
 have hsp:tyRead t nf (op,ty,res,l)=(0,noTy):=by
  unfold tyRead
  simp only
  rw [if_neg (by omega),if_neg (by omega),if_neg (by omega),if_neg (by omega),if_neg (by omega),if_neg (by omega),if_neg (by omega),if_neg (by omega)]
 rw [hsp]
 unfold ReadQ instV
 have n1:(op==19)=false:=by simp;omega
 have n2:(op==20)=false:=by simp;omega
 have n3:(op==21)=false:=by simp;omega
 have n4:(op==23)=false:=by simp;omega
 have n5:(op==28)=false:=by simp;omega
 have n6:(op==30)=false:=by simp;omega
 have n7:(op==32)=false:=by simp;omega
 have n8:(op==33)=false:=by simp;omega
 have hA:=hR.ans
 clear hR hB hv hsp hno
 go_enter Tryz.func70,Tryz.ntmps70
 go_wp2_with (with_reducible refine stopS 98 ?_)
 refine wpList_storeE rfl (.tmp 4) (.tmp 93) rfl (w.heap.size+1) _ _ rfl rfl hA (IsE.entry _ _ _ _ _ _ _ _ _) ?_
 intro w9 hE9 hg9 hs9
 go_wp2_with fail
 try simp only [Exit.inBlock,Exit.then]
 refine bodyPost_ret (res_entry Tryz.results70 _ _ _ _ _ rfl rfl hE9) rfl ?_
 exact⟨_,rfl,EntV.nothing _ _,HRB.out.below2 (Below.refl _ _) hg9⟩
theorem read_any {B q p mb nb kb n:Nat} {t:List TyR} {nf:Int→Option Int} {kf:List UInt8→Bool} {ov:Value} {f:Int→Value} {b:Int} (x:InstT) (ax:Option Addr) (na cx:Nat) (w:World) (hB:BdB w B q p mb nb kb n t nf kf ov f) (hv:ArgsV w ax x.2.2.2) (hl:x.2.2.2.length=na) (hok:InstOk x) (hO:OpsK b x) (hb:b≤65536) (hnf:∀ id,0≤tyNumD nf id∧tyNumD nf id<4294967296) :
  Calls Tryz.prog 70 #[.pointer (some ⟨q,0,none⟩),instV x ax na cx] w fun e w'=>ReadQ w.heap.size w w' (tyRead t nf x) e:=by
 obtain⟨op,ty,res,l⟩:=x
 have hargs:=hok.2.2.2.2.2.2.1
 have h24:24 * na≤140737488351232:=by rw [← hl];exact hok.2.2.2.2.2.2.2
 have hir:∀ z∈idsI (op,ty,res,l),0≤z∧z<4294967296:=fun z hz=>by have:=hO.ids z hz;omega
 by_cases e1:op=19
 ·subst e1;exact read19 ty res ax na cx l w hB hv hl hargs
 by_cases e2:op=20
 ·subst e2;exact read20 ty res ax na cx l w hB hv hl hargs
 by_cases e3:op=21
 ·subst e3;exact read21 ty res ax na cx l w hB hv hl hargs (hO.o21 rfl)
 by_cases e4:op=23
 ·subst e4;exact read23 ty res ax na cx l w hB hv hl hargs (hO.o23 rfl).1
 by_cases e5:op=28
 ·subst e5;exact read28 ty res ax na cx l w hB hv hl hargs (hO.o28 rfl).1 hnf
 by_cases e6:op=30
 ·subst e6
  exact read30 ty res ax na cx l w hB hv hl hargs h24 (by rw [hO.o30 rfl,List.length_map];have:=hO.few;omega) hir
 by_cases e7:op=32
 ·subst e7;exact read32 ty res ax na cx l w hB hv hl hargs (hO.o32 rfl).1
 by_cases e8:op=33
 ·subst e8
  exact read33 ty res ax na cx l w hB hv hl hargs h24 (by rw [(hO.o33 rfl).2,List.length_map];have:=hO.few;omega) hir (by rw [(hO.o33 rfl).2,List.length_map];exact (hO.o33 rfl).1)
 exact readNo op ty res ax na cx l w hB hv (by omega)
end Go.Proofs.YtoebhgpciinkgaaGreatDoor
