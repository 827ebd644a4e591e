/-
  Texts in one: Ref04Inst.
-/
import Derived.Test.YtonhnflilfjkbaaGreatDoorB26
namespace Go.Proofs.YtonhnflilfjkbaaGreatDoor
open Go.RowKit
set_option linter.unusedVariables false
set_option linter.unusedSimpArgs false
set_option maxRecDepth 100000
theorem view_drop {k:IntKind} {w:World} {yb yo:Nat} {ys:Option Nat} {zs:List Int} (h:View k w (some ⟨yb,yo,ys⟩) zs) (q:Nat):View k w (some ⟨yb,yo+q,ys⟩) (zs.drop q):=by
 intro j hj
 rw [List.length_drop] at hj
 obtain⟨b,off,e,hlt,hc⟩:=h (q+j) (by omega)
 cases e
 refine⟨yb,yo+q,rfl,hlt,?_⟩
 rw [show nth (zs.drop q) j=nth zs (q+j) by simp [nth,List.getD,List.getElem?_drop],Nat.add_assoc]
 exact hc
theorem heads_eq (ty re:Bool) (zs:List Int) (b:Int):headsI ty re zs b=if (headTy ty zs b).2≠0 then (0,(headTy ty zs b).2) else if (headRes re zs b ty.toNat).2≠0 then (0,(headRes re zs b ty.toNat).2) else (((ty.toNat+re.toNat:Nat):Int),0):=by
 unfold headsI headR headTy headRes
 cases ty <;> cases re <;> simp only [Bool.toNat_true,Bool.toNat_false] <;> (repeat' split) <;> simp_all <;> omega
structure RefI (w wr : World) (op : Int) (f : Frm) (a : Option Addr) (n cap F B : Nat) (t r : Int) (v : Value) (acc : List ArgT) : Prop where
  raw : wr.heap[w.heap.size]? = some (.cells #[.int .u16 op, .slice a n cap] 54 (0, 0))
  res : wr.heap[w.heap.size + 1]? = some (.cells #[.int .u16 0, .int .u32 0, .int .u32 0, .slice none 0 0] 38 (0, 0))
  frm : wr.heap[F]? = some (.cells (frmCells op f) 66 (0, 0))
  box : wr.heap[B]? = some (.cells #[.int .u16 op, .int .u32 t, .int .u32 r, v] 38 (0, 0))
  own : wr.ownsRow (B + 1) 61 3 v acc.length (acc.flatMap argC)
  bel : Below w.heap.size w wr
theorem RefI.below {w wr wr':World} {op:Int} {f:Frm} {a:Option Addr} {n cap F B:Nat} {t r:Int} {v:Value} {acc:List ArgT} (h:RefI w wr op f a n cap F B t r v acc) (hb:Below wr.heap.size wr wr'):RefI w wr' op f a n cap F B t r v acc :=
 ⟨(hb.block _ (Array.getElem?_eq_some_iff.1 h.raw).1).trans h.raw,(hb.block _ (Array.getElem?_eq_some_iff.1 h.res).1).trans h.res,(hb.block _ (Array.getElem?_eq_some_iff.1 h.frm).1).trans h.frm,(hb.block _ (Array.getElem?_eq_some_iff.1 h.box).1).trans h.box,own_below h.own hb,h.bel.trans (hb.mono h.bel.size)⟩
theorem RefI.push {w W w6:World} {op:Int} {f:Frm} {a:Option Addr} {n cap F B:Nat} {t r:Int} {v v':Value} {acc:List ArgT} {x:ArgT} (h:RefI w W op f a n cap F B t r v acc) (hF:w.heap.size+1<F) (hFB:F<B) (hg:W.grownBy w6 v.ownBlock) (hown:w6.ownsRow (B+1) 61 3 v' (acc.length+1) (acc.flatMap argC++argC x)) :
  RefI w (w6.setCell ⟨B,3,none⟩ v') op f a n cap F B t r v' (acc++[x]):=by
 have hlo:∀ g,v.ownBlock=some g→B+1≤g:=fun g e=>(h.own.lt g e).1
 have hS:=grown_setCell w6 B 3 v'
 have keep:∀ k o,k<B→W.heap[k]?=some o→(w6.setCell ⟨B,3,none⟩ v').heap[k]?=some o:=fun k o hk hko=>by
  have lk:=(Array.getElem?_eq_some_iff.1 hko).1
  exact (hS.block k (by have:=hg.size;omega) (fun e=>by cases e;omega)).trans ((hg.block k lk (fun e=>by have:=hlo k e.symm;omega)).trans hko)
 have kB:=(hg.block B (Array.getElem?_eq_some_iff.1 h.box).1 (fun e=>by have:=hlo B e.symm;omega)).trans h.box
 refine⟨keep _ _ (by omega) h.raw,keep _ _ (by omega) h.res,keep _ _ (by omega) h.frm,?_,?_,?_⟩
 ·simp [World.setCell,Array.getElem?_modify,kB]
 ·rw [List.length_append,List.flatMap_append]
  have:([x]:List ArgT).flatMap argC=argC x:=by simp
  rw [this]
  exact ownFar hown (by omega) 3 v'
 ·exact (h.bel.grown hg h.bel.size (fun k e=>by have:=hlo k e;omega)).setCell (by show w.heap.size≤B;omega) _
structure ResB (w W : World) (op : Int) (a : Option Addr) (n cap : Nat) : Prop where
  raw : W.heap[w.heap.size]? = some (.cells #[.int .u16 op, .slice a n cap] 54 (0, 0))
  res : W.heap[w.heap.size + 1]? = some (.cells #[.int .u16 0, .int .u32 0, .int .u32 0, .slice none 0 0] 38 (0, 0))
  bel : Below w.heap.size w W
theorem resB_new (w:World) (op:Int) (a:Option Addr) (n cap:Nat):ResB w ((w.alloc (.cells #[.int .u16 op,.slice a n cap] 54)).alloc (.cells #[.int .u16 0,.int .u32 0,.int .u32 0,.slice none 0 0] 38)) op a n cap :=
 ⟨(Below.heap_alloc _ _ _ (by simp)).trans (alloc_new w _ _),by simpa using alloc_new (w.alloc (.cells #[.int .u16 op,.slice a n cap] 54)) #[.int .u16 0,.int .u32 0,.int .u32 0,.slice none 0 0] 38,((Below.refl _ w).alloc (Nat.le_refl _) _).alloc (by simp) _⟩
theorem ResB.below {w W W':World} {op:Int} {a:Option Addr} {n cap:Nat} (h:ResB w W op a n cap) (hb:Below W.heap.size W W'):ResB w W' op a n cap :=
 ⟨(hb.block _ (Array.getElem?_eq_some_iff.1 h.raw).1).trans h.raw,(hb.block _ (Array.getElem?_eq_some_iff.1 h.res).1).trans h.res,h.bel.trans (hb.mono h.bel.size)⟩
def ArgsN (w0 w:World) (a:Option Addr) (c:Nat) (l:List ArgT):Prop:=ArgsV w a l∧(∀ b off s,a=some ⟨b,off,s⟩→w0.heap.size≤b∧b<w.heap.size)∧l.length≤c
theorem argsN_nil {w0 w:World}:ArgsN w0 w none 0 []:=⟨argsV_nil,(fun b off s e=>by cases e),Nat.le_refl _⟩
theorem argsN_own {w0 w:World} {B T n cap:Nat} {a:Option Addr} {l:List ArgT} (h:w.ownsRow B T 3 (.slice a n cap) n (l.flatMap argC)) (hl:l.length=n) (hB:w0.heap.size≤B):ArgsN w0 w a cap l:=by
 refine⟨argsV_own h hl,fun b off s e=>?_,?_⟩
 ·rcases h.2 with ⟨h1,_⟩ | ⟨g,c',cur,h1,h2,h3,_⟩
  ·cases h1;cases e
  ·cases h1;cases e;exact⟨Nat.le_trans hB h2,(Array.getElem?_eq_some_iff.1 h3).1⟩
 ·rcases h.2 with ⟨h1,h2⟩ | ⟨g,c',cur,h1,_,_,h4,_⟩
  ·omega
  ·cases h1;omega
def RefR (w:World) (I:InstT×Int) (e:Ending) (w':World):Prop:=Below w.heap.size w w'∧∃ a m c,e=.returned (.tuple #[instV I.1 a m c,.int .i64 I.2])∧I.1.2.2.2.length=m∧ArgsN w w' a c I.1.2.2.2
set_option maxHeartbeats 2000000 in
theorem refInst_large (op b:Int) (a:Option Addr) (n cap:Nat) (w:World) (hbig:65535≤n) :
  Calls Tryz.prog 60 #[.agg #[.int .u16 op,.slice a n cap],.int .u32 b] w fun e w'=>RefR w (noInst,25) e w':=by
 unfold RefR noInst instV
 simp only
 have hbig':(65535:Int)≤(n:Int):=by omega
 have hSE:=resB_new w op a n cap
 clear hbig
 go_enter Tryz.func60,Tryz.ntmps60
 go_wp2
 refine bodyPost_ret (v:=.tuple #[.agg #[.int .u16 0,.int .u32 0,.int .u32 0,.slice none 0 0],.int .i64 25]) ?_ rfl ⟨hSE.bel,none,0,0,rfl,rfl,argsN_nil⟩
 simp [results,Tryz.results60,go_sem]
set_option maxHeartbeats 2000000 in
theorem refInst_none (op b:Int) (a:Option Addr) (n cap:Nat) (w:World) (hbig:¬ 65535≤n) (h0:(lookF refT op).2=false) :
  Calls Tryz.prog 60 #[.agg #[.int .u16 op,.slice a n cap],.int .u32 b] w fun e w'=>RefR w (noInst,30) e w':=by
 have hOf:=fun w=>refOf_any op w
 have eV:ofV op=formV 0 noFrm:=by unfold ofV;rw [if_neg (by simp [h0])]
 rw [h0,eV] at hOf
 unfold formV noFrm at hOf
 unfold RefR noInst instV
 simp only at *
 have hbig':¬ (65535:Int)≤(n:Int):=by omega
 have hS0:=resB_new w op a n cap
 obtain⟨q0,q1,_⟩:=cell_of_two hS0.raw
 have HS0:Hid (ResB _ _ _ _ _ _):=hS0
 clear hbig h0 eV hS0
 go_enter Tryz.func60,Tryz.ntmps60
 go_wp2_with fail
 have hS0:=HS0.out
 clear HS0 q0 q1
 generalize (w.alloc (.cells #[.int .u16 op,.slice a n cap] 54)).alloc (.cells #[.int .u16 0,.int .u32 0,.int .u32 0,.slice none 0 0] 38)=W0 at *
 refine (hOf _).mono ?_
 rintro e w1 ⟨rfl,hb1⟩
 have hSE:=(hS0.below hb1).below ((Below.refl _ w1).alloc (Nat.le_refl _) (.cells #[.int .u16 0,.string ⟨#[]⟩,.bool false,.bool false,.string ⟨#[]⟩,.string ⟨#[]⟩,.int .i64 0,.int .u8 0] 66))
 clear hOf hb1 hS0
 obtain⟨r0,r1,r2,r3⟩:=four_cells hSE.res
 obtain⟨_,rf⟩:=one_block hSE.res
 have f0:=rf 0
 have f1:=rf 1
 have f2:=rf 2
 have f3:=rf 3
 have hB4:=four_put hSE.res (.int .u16 0) (.int .u32 0) (.int .u32 0) (.slice none 0 0)
 have hBel:=hSE.bel.trans ((four_keep _ (w.heap.size+1) (.int .u16 0) (.int .u32 0) (.int .u32 0) (.slice none 0 0)).mono (by omega))
 have HB4:Hid _:=hB4
 have HBel:Hid _:=hBel
 clear hB4 hBel rf hSE
 go_wp2
 have hB4:=HB4.out
 have hBel:=HBel.out
 clear HB4 HBel r0 r1 r2 r3 f0 f1 f2 f3
 generalize (((World.setCell _ _ _).setCell _ _).setCell _ _).setCell _ _=WF at hB4 hBel ⊢
 obtain⟨d0,d1,d2,d3⟩:=four_cells hB4
 refine bodyPost_ret (v:=.tuple #[.agg #[.int .u16 0,.int .u32 0,.int .u32 0,.slice none 0 0],.int .i64 (30)]) ?_ rfl ⟨hBel,none,0,0,rfl,rfl,argsN_nil⟩
 simp [results,Tryz.results60,go_sem,d0,d1,d2,d3]
set_option maxHeartbeats 2000000 in
theorem refInst_heads (op b:Int) (a:Option Addr) (n cap:Nat) (zs:List Int) (w:World) (f:Frm) (hff:lookF refT op=(f,true)) (ha:View .u32 w a zs) (hl:zs.length=n) (hw:Within 4294967296 zs) (hn:4 * n≤140737488351232) (b0:0≤b) (b1:b<4294967296) (hbig:¬ 65535≤n) (he:(headsI f.2.1 f.2.2.1 zs b).2≠0) :
  Calls Tryz.prog 60 #[.agg #[.int .u16 op,.slice a n cap],.int .u32 b] w fun e w'=>RefR w (noInst,(headsI f.2.1 f.2.2.1 zs b).2) e w':=by
 have hOf:=fun w=>refOf_any op w
 have eV:ofV op=formV op f:=by unfold ofV;rw [hff,if_pos rfl]
 rw [hff,eV] at hOf
 have hH:=fun wx (hb:Below w.heap.size w wx)=>refHeads_any op f a n cap zs b wx (ha.below hb) hl hw hn b0 b1
 generalize (headsI f.2.1 f.2.2.1 zs b).2=er at *
 generalize (headsI f.2.1 f.2.2.1 zs b).1=at_ at *
 obtain⟨f1,f2,f3,f4,f5,f6,f7⟩:=f
 unfold formV at *
 unfold RefR noInst instV
 simp only at *
 have heb:(er==0)=false:=by simpa using he
 have hbig':¬ (65535:Int)≤(n:Int):=by omega
 have hS0:=resB_new w op a n cap
 obtain⟨q0,q1,_⟩:=cell_of_two hS0.raw
 have HS0:Hid (ResB _ _ _ _ _ _):=hS0
 have HL:Hid (zs.length=n):=hl
 clear hbig eV hS0 hff ha hw hl he
 go_enter Tryz.func60,Tryz.ntmps60
 go_wp2_with fail
 have hS0:=HS0.out
 clear HS0 q0 q1
 generalize (w.alloc (.cells #[.int .u16 op,.slice a n cap] 54)).alloc (.cells #[.int .u16 0,.int .u32 0,.int .u32 0,.slice none 0 0] 38)=W0 at *
 refine (hOf _).mono ?_
 rintro e w1 ⟨rfl,hb1⟩
 have hS1:=(hS0.below hb1).below ((Below.refl _ w1).alloc (Nat.le_refl _) (.cells #[.int .u16 op,.string f1,.bool f2,.bool f3,.string f4,.string f5,.int .i64 f6,.int .u8 f7] 66))
 obtain⟨q0,q1,_⟩:=cell_of_two hS1.raw
 have hC2:=hH _ hS1.bel
 have HS1:Hid (ResB _ _ _ _ _ _):=hS1
 clear hOf hb1 hS0 hS1 hH hbig'
 go_wp2_with fail
 have hS1:=HS1.out
 clear HS1 q0 q1
 refine hC2.mono ?_
 rintro e w2 ⟨rfl,hb2⟩
 have hSE:=hS1.below hb2
 clear hC2 hb2 hS1
 obtain⟨r0,r1,r2,r3⟩:=four_cells hSE.res
 obtain⟨_,rf⟩:=one_block hSE.res
 have f0:=rf 0
 have f1:=rf 1
 have f2:=rf 2
 have f3:=rf 3
 have hB4:=four_put hSE.res (.int .u16 0) (.int .u32 0) (.int .u32 0) (.slice none 0 0)
 have hBel:=hSE.bel.trans ((four_keep _ (w.heap.size+1) (.int .u16 0) (.int .u32 0) (.int .u32 0) (.slice none 0 0)).mono (by omega))
 have HB4:Hid _:=hB4
 have HBel:Hid _:=hBel
 clear hB4 hBel rf hSE
 go_wp2
 have hB4:=HB4.out
 have hBel:=HBel.out
 clear HB4 HBel r0 r1 r2 r3 f0 f1 f2 f3
 generalize (((World.setCell _ _ _).setCell _ _).setCell _ _).setCell _ _=WF at hB4 hBel ⊢
 obtain⟨d0,d1,d2,d3⟩:=four_cells hB4
 refine bodyPost_ret (v:=.tuple #[.agg #[.int .u16 0,.int .u32 0,.int .u32 0,.slice none 0 0],.int .i64 (er)]) ?_ rfl ⟨hBel,none,0,0,rfl,rfl,argsN_nil⟩
 simp [results,Tryz.results60,go_sem,d0,d1,d2,d3]
theorem refT_sizes:refT.all (fun p=>decide (p.2.2.2.2.1.size<100) && decide (p.2.2.2.2.2.1.size<100))=true:=by decide +kernel
theorem look_sizes {op:Int} {f:Frm} (h:lookF refT op=(f,true)):f.2.2.2.1.size<100∧f.2.2.2.2.1.size<100:=by
 have h2:(lookF refT op).2=true:=by rw [h]
 have:=(List.all_eq_true.1 refT_sizes) _ (lookF_true h2)
 rw [h] at this
 simpa using this
end Go.Proofs.YtonhnflilfjkbaaGreatDoor
