/-
  Texts in one: GraphLead, Ref05Part.
-/
import Derived.Test.YtlcaedibmlidlaaGreatB19
namespace Go.Proofs.YtlcaedibmlidlaaGreat
open Go.RowKit Go.Maps
set_option linter.unusedVariables false
set_option linter.unusedSimpArgs false
set_option maxRecDepth 10000
def backI (l:List InstT) (b:Int×Int×Int) (d:Nat):InstT:=nthI l (b.2.2.toNat - d)
def ldR (l:List InstT) (b:Int×Int×Int):Int×List Int:=mgOf (backI l b 2).1 (backI l b 1).1 (backI l b 2).2.2.2
def okM (f:Int→Option Int) (l:List InstT) (b:Int×Int×Int):Prop:=∀ x∈(ldR l b).2,¬ numG f x=0
def okT (f:Int→Option Int) (l:List InstT) (b:Int×Int×Int):Prop:=∀ x∈tgL (backI l b 1),¬ numG f x=0
def ldN (f:Int→Option Int) (l:List InstT) (b:Int×Int×Int):List Int:=(tgL (backI l b 1)).map (numG f)
def ldM (f:Int→Option Int) (l:List InstT) (b:Int×Int×Int):Int×Int×Int:=((ldR l b).1,nth ((ldR l b).2.map (numG f)++[-1,-1]) 0,nth ((ldR l b).2.map (numG f)++[-1,-1]) 1)
def LeadQ (w w' : World) (F : Int → Option Int) (l : List InstT) (bs : List (Int × Int × Int)) (e : Ending) : Prop :=
  Below w.heap.size w w' ∧
  (((∀ b ∈ bs, okM F l b ∧ okT F l b) ∧ ∃ hv mv, e = .returned (.tuple #[hv, mv, .agg #[.int .i64 0, .int .i64 0]]) ∧ LeadR w' w.heap.size hv (bs.map (ldN F l)) mv (bs.map (ldM F l))) ∨
  ∃ k, k < bs.length ∧ (∀ j, j < k → okM F l (nthB bs j) ∧ okT F l (nthB bs j)) ∧
    ((¬ okM F l (nthB bs k) ∧ e = .returned (.tuple #[.slice none 0 0, .slice none 0 0, .agg #[.int .i64 140, .int .i64 ((nthB bs k).2.2 - 2)]])) ∨
     (okM F l (nthB bs k) ∧ ¬ okT F l (nthB bs k) ∧ e = .returned (.tuple #[.slice none 0 0, .slice none 0 0, .agg #[.int .i64 140, .int .i64 ((nthB bs k).2.2 - 1)]]))))
theorem wrapL0 {m:Nat} (h:m<1000000000000000):IntKind.i64.wrap (m:Int)=(m:Int):=by rw [IntKind.wrap_i64];omega
theorem wrapL1 {m:Nat} (h:m<1000000000000000):IntKind.i64.wrap ((m:Int)+2 - 1)=(m:Int)+1:=by rw [IntKind.wrap_i64];omega
theorem leadBoxes (w:World) (A B:Array Value):(((w.alloc (.cells A 25)).alloc (.cells B 29)).alloc (.cells #[.int .i64 0,.int .i64 0] 33)).heap.size=w.heap.size+3∧Below w.heap.size w (((w.alloc (.cells A 25)).alloc (.cells B 29)).alloc (.cells #[.int .i64 0,.int .i64 0] 33))∧(((w.alloc (.cells A 25)).alloc (.cells B 29)).alloc (.cells #[.int .i64 0,.int .i64 0] 33)).heap[w.heap.size]?=some (.cells A 25 (0,0))∧(((w.alloc (.cells A 25)).alloc (.cells B 29)).alloc (.cells #[.int .i64 0,.int .i64 0] 33)).heap[w.heap.size+1]?=some (.cells B 29 (0,0))∧(((w.alloc (.cells A 25)).alloc (.cells B 29)).alloc (.cells #[.int .i64 0,.int .i64 0] 33)).heap[w.heap.size+2]?=some (.cells #[.int .i64 0,.int .i64 0] 33 (0,0)):=by
 refine⟨by simp,(((Below.refl _ w).alloc (Nat.le_refl _) _).alloc (by simp) _).alloc (by simp;omega) _,?_,?_,?_⟩
 ·exact allocOld (allocOld (allocNew w _ rfl) _) _
 ·exact allocOld (allocNew _ _ (by simp)) _
 ·exact allocNew _ _ (by simp)
theorem twoF {w:World} {p T:Nat} {a b:Value} (h:w.heap[p]?=some (.cells #[a,b] T (0,0))):w.frozen? ⟨p,0,none⟩=false∧w.frozen? ⟨p,1,none⟩=false∧(w.cell? ⟨p,0,none⟩).isSome=true∧(w.cell? ⟨p,1,none⟩).isSome=true:=by
 refine⟨?_,?_,?_,?_⟩ <;> simp [World.frozen?,World.cell?,h]
theorem leadRet {Q:Ending→World→Prop} {a':Act} {Z:World} {B:Nat} {hv mv:Value} {e k:Int} (h4:slot a'.tmps 4=hv) (h5:slot a'.tmps 5=mv) (h6:slot a'.tmps 6=.pointer (some ⟨B,0,none⟩)) (hd:a'.defers=[]) (hZ:Z.heap[B]?=some (.cells #[.int .i64 e,.int .i64 k] 33 (0,0)))
  (hq:Q (.returned (.tuple #[hv,mv,.agg #[.int .i64 e,.int .i64 k]])) Z):bodyPost Tryz.prog Tryz.f40 Q .ret a' Z:=by
 have r6:=run_loadVar_mid (P:=Tryz.prog) Z B 0 33 [.int .i64 e,.int .i64 k] _ (range_of_block hZ) Tryz.underlying33 rfl (by kernel_rfl)
 refine bodyPost_ret (v:=.tuple #[hv,mv,.agg #[.int .i64 e,.int .i64 k]]) ?_ hd hq
 have g4:a'.tmps.getD 4 undef=hv:=h4
 have g5:a'.tmps.getD 5 undef=mv:=h5
 have g6:a'.tmps.getD 6 undef=.pointer (some ⟨B,0,none⟩):=h6
 simp only [results,Tryz.results40,List.mapM_toArray,List.mapM_cons,List.mapM_nil,g4,g5,g6,asAddr,Sem.run_bind,Sem.run_pure,Result.andThen_ok,bind_assoc,pure_bind,Sem.run_map,map_pure,r6]
 rfl
theorem spotLd {W:World} {b T:Nat} {x0 x1:Value} (h:W.heap[b]?=some (.cells #[x0,x1] T (0,0))) (u0 u1:Value) :
  ((W.setCell ⟨b,0,none⟩ u0).setCell ⟨b,1,none⟩ u1).heap[b]?=some (.cells #[u0,u1] T (0,0)):=by
 simp [World.setCell,Array.getElem?_modify,h]
theorem twoBoxes (W:World) (A B:Array Value) (T:Nat):Below W.heap.size W ((W.alloc (.cells A T)).alloc (.cells B T)).drew∧((W.alloc (.cells A T)).alloc (.cells B T)).drew.heap[W.heap.size]?=some (.cells A T (0,0))∧((W.alloc (.cells A T)).alloc (.cells B T)).drew.heap[W.heap.size+1]?=some (.cells B T (0,0)) :=
 ⟨(((Below.refl _ W).alloc (Nat.le_refl _) _).alloc (by simp) _).drew,allocOld (allocNew W _ rfl) _,allocNew _ _ (by simp)⟩
theorem LdN.info:(Tryz.prog.info? 26).map (fun i=>(i.zero,i.size,i.bytes))=some (some (.slice none 0 0),1,24):=by kernel_rfl
theorem LdM.info:(Tryz.prog.info? 96).map (fun i=>(i.zero,i.size,i.bytes))=some (some (.agg #[.int .u8 0,.int .i64 0,.int .i64 0]),3,24):=by kernel_rfl
theorem inBlock_normalL {n:Nat} {Q:Exit→Act→World→Prop} {a:Act} {w:World}:Exit.inBlock n Q .normal a w=Q .normal a w:=rfl
theorem then_normalLd {K:Act→World→Prop} {Q:Exit→Act→World→Prop} {a:Act} {w:World}:Exit.then K Q .normal a w=K a w:=rfl
theorem LeadR.blocks {w:World} {lo:Nat} {hv mv:Value} {N:List (List Int)} {ms:List (Int×Int×Int)} (h:LeadR w lo hv N mv ms):(∀ g,hv.ownBlock=some g→lo≤g∧g<w.heap.size)∧(∀ g,mv.ownBlock=some g→lo≤g∧g<w.heap.size):=by
 obtain⟨V,hV⟩:=h
 exact⟨fun g e=>World.ownsRow.lt (hV.own (some none) trivial) g e,fun g e=>World.ownsRow.lt (hV.own none trivial) g e⟩
theorem LeadR.low {w:World} {lo lo':Nat} {hv mv:Value} {N:List (List Int)} {ms:List (Int×Int×Int)} (h:LeadR w lo hv N mv ms) (hl:lo'≤lo):LeadR w lo' hv N mv ms:=by
 obtain⟨V,hV⟩:=h
 exact⟨V,fun q hq=>own_mono (hV.own q hq) hl,hV.apart⟩
theorem LeadR.kept {w w':World} {lo:Nat} {hv mv:Value} {N:List (List Int)} {ms:List (Int×Int×Int)} {ob:Option Nat} (h:LeadR w lo hv N mv ms) (hg:w.grownBy w' ob) (hob:∀ g,ob=some g→g<lo):LeadR w' lo hv N mv ms:=by
 obtain⟨V,hV⟩:=h
 exact⟨V,hV.kept hg hob⟩
theorem tgL_facts (x:InstT) (hok:ArgsOk x.2.2.2):(tgL x).length≤x.2.2.2.length∧∀ y∈tgL x,0≤y∧y<4294967296:=by
 unfold tgL
 split
 ·refine⟨tgP_len _ _ _,fun y hy=>?_⟩
  unfold tgP at hy
  obtain⟨j,hj,rfl⟩:=List.mem_map.1 hy
  have h1:=List.mem_range.1 (List.mem_filter.1 hj).1
  exact⟨(hok j (by omega)).2.2.1,(hok j (by omega)).2.2.2.1⟩
 ·exact⟨Nat.zero_le _,fun y hy=>by cases hy⟩
theorem backI_at (l:List InstT) (z1 z2:Int) (m:Nat):tgL (backI l (z1,z2,(m:Int)+2) 1)=tgL (nthI l (m+1)):=by
 unfold backI
 simp only
 rw [show ((m:Int)+2).toNat - 1=m+1 from by omega]
theorem ldR_at (l:List InstT) (z1 z2:Int) (m:Nat):ldR l (z1,z2,(m:Int)+2)=mgOf (nthI l m).1 (nthI l (m+1)).1 (nthI l m).2.2.2:=by
 unfold ldR backI
 simp only
 rw [show ((m:Int)+2).toNat - 2=m from by omega,show ((m:Int)+2).toNat - 1=m+1 from by omega]
theorem leadStepN {F:Fence} (hF:∀ f,F.fn f) {o:Oper} {ops:Array Oper} {a:Act} {K:Act→World→Prop} {Q:Exit→Act→World→Prop} (hgd:o.guard=none) (s x:Operand)
  (ho:o.op=.call { callee:=.builtin .append,args:=#[s,x],argTypes:=#[50,50] }) {W Y:World} {lo:Nat} {hv mv v:Value} {N:List (List Int)} {ms:List (Int×Int×Int)} {L:List Int} (h:LeadR W lo hv N mv ms) (hb:Below W.heap.size W Y) (hlo:lo≤W.heap.size)
  (hvr:Y.ownsRow W.heap.size 3 1 v L.length (L.map (Value.int .i64))) (hs:a.eval s=hv) (b:Nat) (hx:a.eval x=.slice (some ⟨b,0,none⟩) 1 1) (hB:Y.heap[b]?=some (.cells #[v] 26 (0,0))) (hn:N.length≤1048576)
  (hK:∀ hv' w',LeadR w' lo hv' (N++[L]) mv ms→Y.grownBy w' hv.ownBlock→K (a.put o.dst hv') w') :
  if Region.wanted o (yielded ops a.tmps)=true then Oper.wpIn F 0 Tryz.prog o a Y K Q else (∀ f,o.about Tryz.prog Y a.eval=some f→F.fn f)∧K (a.put o.dst undef) Y:=by
 obtain⟨i0,hi,hz0,hz1,hz2⟩:=info_parts LdN.info
 obtain⟨a5,c5,rfl⟩:=own_shapeG hvr
 obtain⟨cs,ho1,hp⟩:=h.pushN hb hlo hvr
 have hsz:=hb.size
 refine stepAny_lies Y hF hgd s x 50 ho lo 26 i0 (.slice none 0 0) 1 24 Tryz.underlying50 hi hz0 hz1 hz2 rfl (by decide) hv N.length cs hs ho1 ⟨b,0,none⟩ 1 1 [.slice a5 L.length c5] hx rfl (World.news_of_block (cs:=#[.slice a5 L.length c5]) (t:=26) (fr:=(0,0)) hB) (by intro u hu;simp at hu;subst hu;rfl) (by decide) (by unfold maxLen;omega) (by omega) (by omega) ?_
 intro g cap w' q1 q2 q3
 refine hK _ w' (hp w' _ q2 ?_ (by simpa using q1)) q2
 rcases q3 with q3 | rfl
 ·exact .inl q3.symm
 ·exact .inr (fun k e=>by simp [Value.ownBlock] at e;omega)
theorem leadStepM {F:Fence} (hF:∀ f,F.fn f) {o:Oper} {ops:Array Oper} {a:Act} {K:Act→World→Prop} {Q:Exit→Act→World→Prop} (hgd:o.guard=none) (s x:Operand)
  (ho:o.op=.call { callee:=.builtin .append,args:=#[s,x],argTypes:=#[43,43] }) {Y:World} {lo:Nat} {hv mv:Value} {N:List (List Int)} {ms:List (Int×Int×Int)} (k1 k2 k3:Int) (h:LeadR Y lo hv N mv ms) (hlo:lo≤Y.heap.size)
  (hs:a.eval s=mv) (b:Nat) (hx:a.eval x=.slice (some ⟨b,0,none⟩) 1 1) (hB:Y.heap[b]?=some (.cells #[.int .u8 k1,.int .i64 k2,.int .i64 k3] 96 (0,0))) (hn:ms.length≤1048576)
  (hK:∀ mv' w',LeadR w' lo hv N mv' (ms++[(k1,k2,k3)])→Y.grownBy w' mv.ownBlock→K (a.put o.dst mv') w') :
  if Region.wanted o (yielded ops a.tmps)=true then Oper.wpIn F 0 Tryz.prog o a Y K Q else (∀ f,o.about Tryz.prog Y a.eval=some f→F.fn f)∧K (a.put o.dst undef) Y:=by
 obtain⟨i0,hi,hz0,hz1,hz2⟩:=info_parts LdM.info
 refine stepAny_lies Y hF hgd s x 43 ho lo 96 i0 (.agg #[.int .u8 0,.int .i64 0,.int .i64 0]) 3 24 Tryz.underlying43 hi hz0 hz1 hz2 rfl (by decide) mv ms.length (ms.flatMap mgC) hs h.merges ⟨b,0,none⟩ 1 1 [.int .u8 k1,.int .i64 k2,.int .i64 k3] hx rfl (World.news_of_block (cs:=#[.int .u8 k1,.int .i64 k2,.int .i64 k3]) (t:=96) (fr:=(0,0)) hB) (by intro u hu;simp at hu;rcases hu with rfl | rfl | rfl <;> rfl) (by decide) (by unfold maxLen;omega) (by omega) hlo ?_
 intro g cap w' q1 q2 q3
 refine hK _ w' (h.pushM (k1,k2,k3) q2 ?_ (by simpa [mgC] using q1)) q2
 rcases q3 with q3 | rfl
 ·exact .inl q3.symm
 ·exact .inr (fun k e=>by simp [Value.ownBlock] at e;omega)
theorem keyed4 {P:World→Value→Value→Nat→Nat→Prop} {R:Prop} (H:World→Value→Value→Nat→Nat→Prop) (h1:(∀ X p q u v,H X p q u v→P X p q u v)→R) (h2:∀ X p q u v,H X p q u v→P X p q u v):R:=h1 h2
theorem wrapJ {j k:Nat} (h:j<k) (hk:k≤1048576):wrap64 ((j:Int)+1)=(j:Int)+1:=by unfold wrap64;omega
theorem lenLe {α β γ:Type} (f:α→β) (g:α→γ) (bs:List α) (j k:Nat) (h:j<k) (h2:k≤1048576):((bs.take j).map f).length≤1048576∧((bs.take j).map g).length≤1048576:=by
 rw [List.length_map,List.length_map,List.length_take];omega
theorem newNe {o:Option Nat} {b B:Nat} (e:some b=o) (h:∀ g,o=some g→g<B) (hb:B≤b):False:=by have:=h b e.symm;omega
theorem mapTake {β:Type} (f:Int×Int×Int→β) (bs:List (Int×Int×Int)) (j:Nat) (h:j<bs.length):(bs.take (j+1)).map f=(bs.take j).map f++[f (nthB bs j)]:=by
 rw [List.take_add_one,List.map_append]
 congr 1
 simp [nthB,List.getD,h]
theorem errVm {z:Int×Int×Int} {z1 z2:Int} {m:Nat} (h:z=(z1,z2,(m:Int)+2)) (hw:IntKind.i64.wrap (m:Int)=(m:Int)):Ending.returned (.tuple #[.slice none 0 0,.slice none 0 0,.agg #[.int .i64 140,.int .i64 (IntKind.i64.wrap (m:Int))]])=Ending.returned (.tuple #[.slice none 0 0,.slice none 0 0,.agg #[.int .i64 140,.int .i64 (z.2.2 - 2)]]):=by
 rw [h,hw]
 simp only
 rw [show (m:Int)+2 - 2=(m:Int) from by omega]
theorem errVt {z:Int×Int×Int} {z1 z2:Int} {m:Nat} (h:z=(z1,z2,(m:Int)+2)) (hw:IntKind.i64.wrap ((m:Int)+2 - 1)=(m:Int)+1):Ending.returned (.tuple #[.slice none 0 0,.slice none 0 0,.agg #[.int .i64 140,.int .i64 (IntKind.i64.wrap ((m:Int)+2 - 1))]])=Ending.returned (.tuple #[.slice none 0 0,.slice none 0 0,.agg #[.int .i64 140,.int .i64 (z.2.2 - 1)]]):=by
 rw [h,hw]
 simp only
 rw [show (m:Int)+2 - 1=(m:Int)+1 from by omega]
theorem eightLe {a b c:Nat} (h:a≤b) (e:b=c) (h2:24 * b≤140737488351232):8 * a≤140737488351232∧24 * c≤140737488351232:=by omega
theorem mgV_ldM (F:Int→Option Int) (l:List InstT) (b:Int×Int×Int):mgV F (ldR l b)=.agg #[.int .u8 (ldM F l b).1,.int .i64 (ldM F l b).2.1,.int .i64 (ldM F l b).2.2]:=rfl
theorem le2 (n:Nat):n≤n+1+1:=Nat.le_add_right _ 2
theorem keyed3 {P:World→Nat→Nat→Prop} {R:Prop} (H:World→Nat→Nat→Prop) (h1:(∀ X p q,H X p q→P X p q)→R) (h2:∀ X p q,H X p q→P X p q):R:=h1 h2
set_option maxHeartbeats 8000000 in
theorem lead2_any (gen bnd fi fa fe:Int) (a xp xq:Option Addr) (n c np cp nb cq:Nat) (l:List InstT) (bs:List (Int×Int×Int)) (w:World) (hv:InstsV w a l) (hok:InstsOk l) (hl:l.length=n) (hn:40 * n≤140737488351232) (hq:BlkV w xq bs) (hb:bs.length=nb) (hnb:nb≤1048576)
  (hto:∀ j,j<nb→0≤(nthB bs j).1∧(nthB bs j).1<4294967296∧2≤(nthB bs j).2.2∧(nthB bs j).2.2≤n) (har:∀ i,i<n→((nthI l i).1=246→2≤(nthI l i).2.2.2.length)∧((nthI l i).1=247→1≤(nthI l i).2.2.2.length)) :
  Calls Tryz.prog 40 #[modV gen bnd a n c,.agg #[.int .u32 fi,.int .i64 fa,.slice xp np cp,.slice xq nb cq,.int .i64 fe]] w fun e w'=>(4096<nb∧e=.returned (.tuple #[.slice none 0 0,.slice none 0 0,.agg #[.int .i64 4,.int .i64 fa]])∧Below w.heap.size w w')∨(nb≤4096∧LeadQ w w' (numT bs bs.length) l bs e):=by
 obtain⟨F,hF⟩:∃ F,F=numT bs bs.length:=⟨_,rfl⟩
 rw [← hF]
 have HF:Hid (F=numT bs nb):=by show _=_;rw [hF,hb]
 obtain⟨sz0,bl0,km0,kf0,ks0⟩:=leadBoxes w #[.int .u32 gen,.int .u32 bnd,.slice a n c] #[.int .u32 fi,.int .i64 fa,.slice xp np cp,.slice xq nb cq,.int .i64 fe]
 have HV:=hide hv
 have HOK:=hide hok
 have HL:=hide hl
 have HN:=hide hn
 have HQ:=hide hq
 have HB:=hide hb
 have HNB:=hide hnb
 have HTO:=hide hto
 have HAR:=hide har
 have hf1:=(fiveCells kf0).2.1
 have hf3:=(fiveCells kf0).2.2.2.1
 unfold modV
 rcases Nat.lt_or_ge 4096 nb with hbig | hsm
 ·have hbi:(4096:Int)<(nb:Int):=by omega
  have HBG:=hide hbig
  have HBL:=hide bl0
  have HKS:=hide ks0
  obtain⟨z0,z1,_,_⟩:=twoF ks0
  have x0:=(one_block ks0).1 0
  have x1:=(one_block ks0).1 1
  clear hv hok hl hn hq hb hnb hto har hF km0 kf0 ks0 sz0 bl0 hbig HV HOK HL HN HQ HB HNB HTO HAR HF
  go_enter Tryz.func40,Tryz.ntmps40
  go_wp2_with fail
  generalize World.alloc (World.alloc (World.alloc w _) _) _=W0 at *
  go_region_with (fail)
  all_goals
   go_wp2_with fail
   refine leadRet (B:=w.heap.size+2) rfl rfl rfl rfl (spotLd HKS.out _ _) (.inl ⟨HBG.out,rfl,?_⟩)
   have hle:w.heap.size≤w.heap.size+1+1:=Nat.le_add_right _ 2
   first | exact (HBL.out.setCell hle _).setCell hle _ | exact (HBL.out.drew.setCell hle _).setCell hle _ | exact ((HBL.out.setCell hle _).setCell hle _).drew
 ·have hbi:¬ (4096:Int)<(nb:Int):=by omega
  have HSM:=hide hsm
  have hkx:(nb:Int)≤1048576:=by omega
  have hmm:=@run_makeMap Tryz.prog
  have HM0:Hid (MapU ((((w.alloc (.cells #[.int .u32 gen,.int .u32 bnd,.slice a n c] 25)).alloc (.cells #[.int .u32 fi,.int .i64 fa,.slice xp np cp,.slice xq nb cq,.int .i64 fe] 29)).alloc (.cells #[.int .i64 0,.int .i64 0] 33)).alloc (.map #[] 0)) 3 .i64 (w.heap.size+3) 0 (fun _=>none)):=by
   have h:=MapU.made (((w.alloc (.cells #[.int .u32 gen,.int .u32 bnd,.slice a n c] 25)).alloc (.cells #[.int .u32 fi,.int .i64 fa,.slice xp np cp,.slice xq nb cq,.int .i64 fe] 29)).alloc (.cells #[.int .i64 0,.int .i64 0] 33)) 3 .i64
   rw [sz0] at h
   exact h
  have HBL:=hide (bl0.alloc bl0.size (.map #[] 0))
  have HKM:=hide (allocOld km0 (.map #[] 0))
  have HKF:=hide (allocOld kf0 (.map #[] 0))
  have HKS:=hide (allocOld ks0 (.map #[] 0))
  have hf4:=(fiveCells HKF.out).2.2.2.1
  have HSZ:Hid (((((w.alloc (.cells #[.int .u32 gen,.int .u32 bnd,.slice a n c] 25)).alloc (.cells #[.int .u32 fi,.int .i64 fa,.slice xp np cp,.slice xq nb cq,.int .i64 fe] 29)).alloc (.cells #[.int .i64 0,.int .i64 0] 33)).alloc (.map #[] 0)).heap.size=w.heap.size+4):=by
   show _=_
   rw [World.size_alloc,sz0]
  have HTT:=hide Tryz.underlying141
  have HTE:=hide Tryz.underlying3
  clear hv hok hl hn hq hb hnb hto har hF km0 kf0 ks0 sz0 bl0 hsm
  go_enter Tryz.func40,Tryz.ntmps40
  go_wp2_with fail
  generalize World.alloc (World.alloc (World.alloc (World.alloc w _) _) _) (.map #[] 0)=W1 at *
  go_loopw [30] (fun i wr=>∃ k:Nat,k≤nb∧i=.int .i64 k∧MapU wr 3 .i64 (w.heap.size+3) k (numT bs k)∧Below (w.heap.size+3) W1 wr) (fun i _=>nb - (intOf i).toNat)
  case atStart=>exact⟨0,Nat.zero_le _,rfl,HM0.out,Below.refl _ _⟩
  case round =>
   obtain⟨k,hk,rfl,hM,hBr⟩:=hrel
   clear HM0 hmm
   have hBw:=HBL.out.trans (hBr.mono (Nat.le_add_right _ _))
   have hms:=hM.lt
   by_cases hlt:k<nb
   ·have hkl:k<bs.length:=by rw [HB.out];exact hlt
    obtain⟨G,o,rfl,hG,p1,p2,p3⟩:=(HQ.out.below hBw) k hkl
    have hki:(k:Int)<(nb:Int):=by omega
    have HT:=hide (HTO.out k hlt)
    have HST:Hid ((fun y=>if y=(nthB bs k).1 then some (k:Int) else numT bs k y)=numT bs (k+1)):=rfl
    generalize nthB bs k=z at *
    obtain⟨z1,z2,z3⟩:=z
    simp only at *
    have hba:Below wr.heap.size wr (wr.alloc (.cells #[.int .u32 z1,.int .i64 z2,.int .i64 z3] 65)):=(Below.refl _ wr).alloc (Nat.le_refl _) _
    have HM2:=hide (hM.below hba)
    have HB2:=hide (hBr.trans (hba.mono (Nat.le_of_lt hms)))
    have HBD:Hid (k<maxLen∧k<nb):=⟨by have:=HNB.out;unfold maxLen;omega,hlt⟩
    have HWF:Hid ((Lit.int .i64 (k:Int)).wf=true):=WalkArith.wf_i64 (by have:=HNB.out;omega)
    have HMS:=hide hms
    clear hM hBr hba hBw
    go_wp2_with (at_mapUpdate;refine wpList_putU rfl _ _ _ 141 rfl 3 .i64 HTT.out HTE.out (w.heap.size+3) k (numT bs k) rfl HM2.out HBD.out.1 z1 (k:Int) rfl HT.out.1 HT.out.2.1 rfl HWF.out ?_;intro w5 hM5 hg5)
    exact⟨⟨k+1,HBD.out.2,by simp,hM5.congr (fun y=>congrFun HST.out y),HB2.out.grown hg5 (by have:=HMS.out;simp;omega) (fun j hj=>by cases hj;omega)⟩,measZ2 HBD.out.2⟩
   ·have e:k=nb:=by omega
    subst e
    rw [← HF.out] at hM
    have HM1:=hide hM
    have hkm:=(hBr.block w.heap.size (by omega)).trans HKM.out
    have hkf:=(hBr.block (w.heap.size+1) (by omega)).trans HKF.out
    have hks:=(hBr.block (w.heap.size+2) (by omega)).trans HKS.out
    have hf5:=(fiveCells hkf).2.2.2.1
    have HKM1:=hide hkm
    have HKS1:=hide hks
    have HBV:=hide hBw
    have HSV:=hide hms
    clear hM hBr hlt hk HF hBw HBL HKM HKF HKS hkm hkf hks hf4 HSZ hms
    go_wp2_with fail
    generalize hV1:wr=V1 at *
    clear hV1
    go_loopw [10,11,43] (fun hv mv i wx=>∃ j:Nat,j≤k∧i=.int .i64 j∧Below V1.heap.size V1 wx∧LeadR wx V1.heap.size hv ((bs.take j).map (ldN F l)) mv ((bs.take j).map (ldM F l))∧(∀ q,q<j→okM F l (nthB bs q)∧okT F l (nthB bs q))) (fun _ _ i _=>k - (intOf i).toNat)
    case atStart=>exact⟨0,Nat.zero_le _,rfl,Below.refl _ _,LeadR.nil _ _,fun q h=>absurd h (Nat.not_lt_zero q)⟩
    case round =>
     obtain⟨j,hj,rfl,hBx,hLR,hall⟩:=hrel
     by_cases hlt:j<k
     ·have hjl:j<bs.length:=by rw [HB.out];exact hlt
      have hBw:=HBV.out.trans (hBx.mono HBV.out.size)
      obtain⟨G,o,rfl,hG,p1,p2,p3⟩:=(HQ.out.below hBw) j hjl
      have hji:(j:Int)<(k:Int):=by omega
      have HT:=hide (HTO.out j hlt)
      have HALL:=hide hall
      have HLR:=hide hLR
      generalize hz:nthB bs j=z at *
      have HZ:=hide hz
      clear hz
      obtain⟨z1,z2,z3⟩:=z
      simp only at *
      obtain⟨m,rfl⟩:∃ m:Nat,z3=(m:Int)+2:=⟨(z3 - 2).toNat,by have:=HT.out.2.2.1;omega⟩
      have hmn:m+1<n:=by have:=HT.out.2.2.2;omega
      have hba:Below wr.heap.size wr (wr.alloc (.cells #[.int .u32 z1,.int .i64 z2,.int .i64 ((m:Int)+2)] 65)):=(Below.refl _ wr).alloc (Nat.le_refl _) _
      have hbz:=allocNew wr (.cells #[.int .u32 z1,.int .i64 z2,.int .i64 ((m:Int)+2)] 65) rfl
      have HBA:=hide (hBw.trans (hba.mono hBw.size))
      have HVA:=hide (hBx.trans (hba.mono hBx.size))
      have HBR:=hide hba
      have hI:=HV.out.below HBA.out
      have HI:=hide hI
      obtain⟨g1,o1,a1,c1,n1,rfl,hg1,r1,r2,r3,r4,r5,r6,r7⟩:=hI m (by rw [HL.out];omega)
      obtain⟨g2,o2,a2,c2,n2,e,hg2,s1,s2,s3,s4,s5,s6,s7⟩:=hI (m+1) (by rw [HL.out];omega)
      injection e with e;injection e with e1 e2 _;subst e1;subst e2
      have HBZ:=hide hbz
      have b2:=(one_block hbz).1 2
      have hmk:=(HVA.out.block _ (Array.getElem?_eq_some_iff.1 HKM1.out).1).trans HKM1.out
      have HMK:=hide hmk
      have m2:=(one_block hmk).1 2
      have q0:(m:Int)<(n:Int):=by omega
      have q1:(m:Int)+1<(n:Int):=by omega
      have q2:(0:Int)≤(m:Int)+1:=by omega
      have q3:(0:Int)≤(m:Int):=by omega
      have HW5:=hide (wrapL1 (m:=m) (by have:=HN.out;omega))
      have HW6:=hide (wrapL0 (m:=m) (by have:=HN.out;omega))
      have w3:((m:Int)+1).toNat=m+1:=by omega
      have w1:wrap64 ((m:Int)+2 - 1)=(m:Int)+1:=by have:=HN.out;unfold wrap64;omega
      have w2:wrap64 ((m:Int)+2 - 2)=(m:Int):=by have:=HN.out;unfold wrap64;omega
      have w4:wrap64 (m:Int)=(m:Int):=by have:=HN.out;unfold wrap64;omega
      clear hI hall hLR hBx hbz hba hBw hmk
      go_wp2_with fail
      generalize wr.alloc (.cells #[.int .u32 z1,.int .i64 z2,.int .i64 ((m:Int)+2)] 65)=W at *
      have LC:Hid (∀ w',Below W.heap.size W w'→w'.cell? ⟨g1,o1+m * 4,none⟩=some (.int .u16 (nthI l m).1)∧w'.cell? ⟨g1,o1+m * 4+1,none⟩=some (.int .u32 (nthI l m).2.1)∧w'.cell? ⟨g1,o1+m * 4+2,none⟩=some (.int .u32 (nthI l m).2.2.1)∧w'.cell? ⟨g1,o1+m * 4+3,none⟩=some (.slice a1 n1 c1)∧w'.cell? ⟨g1,o1+(m+1) * 4,none⟩=some (.int .u16 (nthI l (m+1)).1)∧w'.cell? ⟨g1,o1+(m+1) * 4+1,none⟩=some (.int .u32 (nthI l (m+1)).2.1)∧w'.cell? ⟨g1,o1+(m+1) * 4+2,none⟩=some (.int .u32 (nthI l (m+1)).2.2.1)∧w'.cell? ⟨g1,o1+(m+1) * 4+3,none⟩=some (.slice a2 n2 c2)∧w'.cell? ⟨wr.heap.size,2,none⟩=some (.int .i64 ((m:Int)+2))∧w'.cell? ⟨w.heap.size,2,none⟩=some (.slice (some ⟨g1,o1,none⟩) n c)):=fun w' h=>by
       have h1:=fun i=>h.cell (p:=⟨g1,i,none⟩) hg1
       have h2:=h.cell (p:=⟨wr.heap.size,2,none⟩) (Array.getElem?_eq_some_iff.1 HBZ.out).1
       have h3:=h.cell (p:=⟨w.heap.size,2,none⟩) (Array.getElem?_eq_some_iff.1 HMK.out).1
       exact⟨(h1 _).trans r1,(h1 _).trans r2,(h1 _).trans r3,(h1 _).trans r4,(h1 _).trans s1,(h1 _).trans s2,(h1 _).trans s3,(h1 _).trans s4,h2.trans b2,h3.trans m2⟩
      clear r1 r2 r3 r4 s1 s2 s3 s4 b2 m2
      have hC0:Below W.heap.size W W.drew:=below_drew W
      have hmix:Tryz.prog.follows .mixedOrders=true:=by kernel_rfl
      refine (wpIn_wide (n:=0)).1 ?_
      refine wpIn_normal (wpIn_region_any hmix (wpAnyE_sound (C:=Below W.heap.size W) (E:=fun _=>false) _ _ _ _ ?_))
      change wpAnyE _ _ _ _ _ _ _ _ _ _ _ (World.drew _)
      refine wpAnyE_takeD (i:=0) (some 47) (v:=(.pointer (some ⟨w.heap.size,2,none⟩))) (fun _=>trivial) (by kernel_rfl) rfl rfl (by kernel_rfl) (by kernel_rfl) (by kernel_rfl) (by kernel_rfl) (fun _ _ _ h=>by cases h.1) hC0 (Or.inl ⟨by rfl,fun w' hC=>by obtain⟨e1,e2,e3,e4,e5,e6,e7,e8,e9,e10⟩:=LC.out w' hC;clear hC;go_simp⟩) ?_
      simp only [Act.put,ap1,ap2,ap3]
      refine wpAnyE_takeD (i:=1) (some 48) (v:=(.slice (some ⟨g1,o1,none⟩) n c)) (fun _=>trivial) (by kernel_rfl) rfl rfl (by kernel_rfl) (by kernel_rfl) (by kernel_rfl) (by kernel_rfl) (fun _ _ _ h=>by cases h.1) hC0 (Or.inl ⟨by rfl,fun w' hC=>by obtain⟨e1,e2,e3,e4,e5,e6,e7,e8,e9,e10⟩:=LC.out w' hC;clear hC;go_simp⟩) ?_
      simp only [Act.put,ap1,ap2,ap3]
      refine wpAnyE_takeD (i:=2) (some 49) (v:=(.pointer (some ⟨wr.heap.size,2,none⟩))) (fun _=>trivial) (by kernel_rfl) rfl rfl (by kernel_rfl) (by kernel_rfl) (by kernel_rfl) (by kernel_rfl) (fun _ _ _ h=>by cases h.1) hC0 (Or.inl ⟨by rfl,fun w' hC=>by obtain⟨e1,e2,e3,e4,e5,e6,e7,e8,e9,e10⟩:=LC.out w' hC;clear hC;go_simp⟩) ?_
      simp only [Act.put,ap1,ap2,ap3]
      refine wpAnyE_takeD (i:=3) (some 50) (v:=(.int .i64 ((m:Int)+2))) (fun _=>trivial) (by kernel_rfl) rfl rfl (by kernel_rfl) (by kernel_rfl) (by kernel_rfl) (by kernel_rfl) (fun _ _ _ h=>by cases h.1) hC0 (Or.inl ⟨by rfl,fun w' hC=>by obtain⟨e1,e2,e3,e4,e5,e6,e7,e8,e9,e10⟩:=LC.out w' hC;clear hC;go_simp⟩) ?_
      simp only [Act.put,ap1,ap2,ap3]
      refine wpAnyE_takeD (i:=4) (some 51) (v:=(.int .i64 (m:Int))) (fun _=>trivial) (by kernel_rfl) rfl rfl (by kernel_rfl) (by kernel_rfl) (by kernel_rfl) (by kernel_rfl) (fun _ _ _ h=>by cases h.1) hC0 (Or.inl ⟨by rfl,fun w' hC=>by obtain⟨e1,e2,e3,e4,e5,e6,e7,e8,e9,e10⟩:=LC.out w' hC;clear hC;go_simp;exact HW6.out⟩) ?_
      simp only [Act.put,ap1,ap2,ap3]
      refine wpAnyE_takeD (i:=5) (some 52) (v:=(.pointer (some ⟨g1,o1+m * 4,none⟩))) (fun _=>trivial) (by kernel_rfl) rfl rfl (by kernel_rfl) (by kernel_rfl) (by kernel_rfl) (by kernel_rfl) (fun _ _ _ h=>by cases h.1) hC0 (Or.inl ⟨by rfl,fun w' hC=>by obtain⟨e1,e2,e3,e4,e5,e6,e7,e8,e9,e10⟩:=LC.out w' hC;clear hC;go_simp⟩) ?_
      simp only [Act.put,ap1,ap2,ap3]
      refine wpAnyE_takeD (i:=6) (some 53) (v:=(.agg #[.int .u16 (nthI l m).1,.int .u32 (nthI l m).2.1,.int .u32 (nthI l m).2.2.1,.slice a1 n1 c1])) (fun _=>trivial) (by kernel_rfl) rfl rfl (by kernel_rfl) (by kernel_rfl) (by kernel_rfl) (by kernel_rfl) (fun _ _ _ h=>by cases h.1) hC0 (Or.inl ⟨by rfl,fun w' hC=>by obtain⟨e1,e2,e3,e4,e5,e6,e7,e8,e9,e10⟩:=LC.out w' hC;clear hC;go_simp⟩) ?_
      simp only [Act.put,ap1,ap2,ap3]
      refine wpAnyE_takeD (i:=7) (some 54) (v:=(.pointer (some ⟨w.heap.size,2,none⟩))) (fun _=>trivial) (by kernel_rfl) rfl rfl (by kernel_rfl) (by kernel_rfl) (by kernel_rfl) (by kernel_rfl) (fun _ _ _ h=>by cases h.1) hC0 (Or.inl ⟨by rfl,fun w' hC=>by obtain⟨e1,e2,e3,e4,e5,e6,e7,e8,e9,e10⟩:=LC.out w' hC;clear hC;go_simp⟩) ?_
      simp only [Act.put,ap1,ap2,ap3]
      refine wpAnyE_takeD (i:=8) (some 55) (v:=(.slice (some ⟨g1,o1,none⟩) n c)) (fun _=>trivial) (by kernel_rfl) rfl rfl (by kernel_rfl) (by kernel_rfl) (by kernel_rfl) (by kernel_rfl) (fun _ _ _ h=>by cases h.1) hC0 (Or.inl ⟨by rfl,fun w' hC=>by obtain⟨e1,e2,e3,e4,e5,e6,e7,e8,e9,e10⟩:=LC.out w' hC;clear hC;go_simp⟩) ?_
      simp only [Act.put,ap1,ap2,ap3]
      refine wpAnyE_takeD (i:=9) (some 56) (v:=(.pointer (some ⟨wr.heap.size,2,none⟩))) (fun _=>trivial) (by kernel_rfl) rfl rfl (by kernel_rfl) (by kernel_rfl) (by kernel_rfl) (by kernel_rfl) (fun _ _ _ h=>by cases h.1) hC0 (Or.inl ⟨by rfl,fun w' hC=>by obtain⟨e1,e2,e3,e4,e5,e6,e7,e8,e9,e10⟩:=LC.out w' hC;clear hC;go_simp⟩) ?_
      simp only [Act.put,ap1,ap2,ap3]
      refine wpAnyE_takeD (i:=10) (some 57) (v:=(.int .i64 ((m:Int)+2))) (fun _=>trivial) (by kernel_rfl) rfl rfl (by kernel_rfl) (by kernel_rfl) (by kernel_rfl) (by kernel_rfl) (fun _ _ _ h=>by cases h.1) hC0 (Or.inl ⟨by rfl,fun w' hC=>by obtain⟨e1,e2,e3,e4,e5,e6,e7,e8,e9,e10⟩:=LC.out w' hC;clear hC;go_simp⟩) ?_
      simp only [Act.put,ap1,ap2,ap3]
      refine wpAnyE_takeD (i:=11) (some 58) (v:=(.int .i64 ((m:Int)+1))) (fun _=>trivial) (by kernel_rfl) rfl rfl (by kernel_rfl) (by kernel_rfl) (by kernel_rfl) (by kernel_rfl) (fun _ _ _ h=>by cases h.1) hC0 (Or.inl ⟨by rfl,fun w' hC=>by obtain⟨e1,e2,e3,e4,e5,e6,e7,e8,e9,e10⟩:=LC.out w' hC;clear hC;go_simp;exact HW5.out⟩) ?_
      simp only [Act.put,ap1,ap2,ap3]
      refine wpAnyE_takeD (i:=12) (some 59) (v:=(.pointer (some ⟨g1,o1+(m+1) * 4,none⟩))) (fun _=>trivial) (by kernel_rfl) rfl rfl (by kernel_rfl) (by kernel_rfl) (by kernel_rfl) (by kernel_rfl) (fun _ _ _ h=>by cases h.1) hC0 (Or.inl ⟨by rfl,fun w' hC=>by obtain⟨e1,e2,e3,e4,e5,e6,e7,e8,e9,e10⟩:=LC.out w' hC;clear hC;go_simp⟩) ?_
      simp only [Act.put,ap1,ap2,ap3]
      refine wpAnyE_takeD (i:=13) (some 60) (v:=(.agg #[.int .u16 (nthI l (m+1)).1,.int .u32 (nthI l (m+1)).2.1,.int .u32 (nthI l (m+1)).2.2.1,.slice a2 n2 c2])) (fun _=>trivial) (by kernel_rfl) rfl rfl (by kernel_rfl) (by kernel_rfl) (by kernel_rfl) (by kernel_rfl) (fun _ _ _ h=>by cases h.1) hC0 (Or.inl ⟨by rfl,fun w' hC=>by obtain⟨e1,e2,e3,e4,e5,e6,e7,e8,e9,e10⟩:=LC.out w' hC;clear hC;go_simp⟩) ?_
      simp only [Act.put,ap1,ap2,ap3]
      obtain⟨H,hH⟩:∃ H:World→Nat→Nat→Prop,H=fun X p q=>Below W.heap.size W X∧X.heap[p]?=some (.cells #[.int .u16 (nthI l m).1,.int .u32 (nthI l m).2.1,.int .u32 (nthI l m).2.2.1,.slice a1 n1 c1] 63 (0,0))∧X.heap[q]?=some (.cells #[.int .u16 (nthI l (m+1)).1,.int .u32 (nthI l (m+1)).2.1,.int .u32 (nthI l (m+1)).2.2.1,.slice a2 n2 c2] 63 (0,0)):=⟨_,rfl⟩
      apply keyed3 H ?h1 ?h2
      case h1 =>
       intro key
       refine wpAnyE_ready (rs:=[14,15]) (by kernel_rfl) (by simp) ?_
       refine AllE.cons rfl (fun Kk hK=>?_) (AllE.cons rfl (fun Kk hK=>?_) AllE.nil)
       ·go_simp
        refine hK _ _ (.inr (hC0.alloc hC0.size _)) ?_
        clear hK Kk
        refine wpAnyE_ready (rs:=[15]) (by kernel_rfl) (by simp) ?_
        refine AllE.cons rfl (fun Kk hK=>?_) AllE.nil
        go_simp
        refine hK _ _ (.inr ((hC0.alloc hC0.size _).alloc (by have:=hC0.size;simp) _)) ?_
        clear hK Kk
        refine wpAnyE_ready (rs:=[16]) (by kernel_rfl) (by simp) ?_
        refine AllE.cons rfl (fun Kk hK=>?_) AllE.nil
        go_simp
        refine hK _ _ (.inr (twoBoxes W _ _ _).1) ?_
        clear hK Kk
        refine wpAnyE_ready (rs:=[17]) (by kernel_rfl) (by simp) ?_
        refine AllE.cons rfl (fun Kk hK=>?_) AllE.nil
        go_simp
        refine hK _ _ (.inr (twoBoxes W _ _ _).1) ?_
        clear hK Kk
        refine wpAnyE_done (by kernel_rfl) ⟨rfl,?_⟩ _
        rw [then_normalLd]
        have hf:H ((W.alloc (.cells #[.int .u16 (nthI l m).1,.int .u32 (nthI l m).2.1,.int .u32 (nthI l m).2.2.1,.slice a1 n1 c1] 63)).alloc (.cells #[.int .u16 (nthI l (m+1)).1,.int .u32 (nthI l (m+1)).2.1,.int .u32 (nthI l (m+1)).2.2.1,.slice a2 n2 c2] 63)).drew W.heap.size (W.heap.size+1):=by
         rw [hH]
         obtain⟨hXB,hP,hQ⟩:=twoBoxes W #[.int .u16 (nthI l m).1,.int .u32 (nthI l m).2.1,.int .u32 (nthI l m).2.2.1,.slice a1 n1 c1] #[.int .u16 (nthI l (m+1)).1,.int .u32 (nthI l (m+1)).2.1,.int .u32 (nthI l (m+1)).2.2.1,.slice a2 n2 c2] 63
         exact⟨hXB,hP,hQ⟩
        generalize World.drew _=X at hf ⊢
        generalize W.heap.size+1=p at hf ⊢
        generalize W.heap.size=q at hf ⊢
        exact key _ _ _ hf
       ·go_simp
        refine hK _ _ (.inr (hC0.alloc hC0.size _)) ?_
        clear hK Kk
        refine wpAnyE_ready (rs:=[14]) (by kernel_rfl) (by simp) ?_
        refine AllE.cons rfl (fun Kk hK=>?_) AllE.nil
        go_simp
        refine hK _ _ (.inr ((hC0.alloc hC0.size _).alloc (by have:=hC0.size;simp) _)) ?_
        clear hK Kk
        refine wpAnyE_ready (rs:=[16]) (by kernel_rfl) (by simp) ?_
        refine AllE.cons rfl (fun Kk hK=>?_) AllE.nil
        go_simp
        refine hK _ _ (.inr (twoBoxes W _ _ _).1) ?_
        clear hK Kk
        refine wpAnyE_ready (rs:=[17]) (by kernel_rfl) (by simp) ?_
        refine AllE.cons rfl (fun Kk hK=>?_) AllE.nil
        go_simp
        refine hK _ _ (.inr (twoBoxes W _ _ _).1) ?_
        clear hK Kk
        refine wpAnyE_done (by kernel_rfl) ⟨rfl,?_⟩ _
        rw [then_normalLd]
        have hf:H ((W.alloc (.cells #[.int .u16 (nthI l (m+1)).1,.int .u32 (nthI l (m+1)).2.1,.int .u32 (nthI l (m+1)).2.2.1,.slice a2 n2 c2] 63)).alloc (.cells #[.int .u16 (nthI l m).1,.int .u32 (nthI l m).2.1,.int .u32 (nthI l m).2.2.1,.slice a1 n1 c1] 63)).drew (W.heap.size+1) W.heap.size:=by
         rw [hH]
         obtain⟨hXB,hQ,hP⟩:=twoBoxes W #[.int .u16 (nthI l (m+1)).1,.int .u32 (nthI l (m+1)).2.1,.int .u32 (nthI l (m+1)).2.2.1,.slice a2 n2 c2] #[.int .u16 (nthI l m).1,.int .u32 (nthI l m).2.1,.int .u32 (nthI l m).2.2.1,.slice a1 n1 c1] 63
         exact⟨hXB,hP,hQ⟩
        generalize World.drew _=X at hf ⊢
        generalize W.heap.size+1=p at hf ⊢
        generalize W.heap.size=q at hf ⊢
        exact key _ _ _ hf
      case h2 =>
       intro X p q hf
       rw [hH] at hf
       obtain⟨hXB,hP,hQ⟩:=hf
       clear hC0 LC hH
       have HXB:=hide hXB
       have HP:=hide hP
       have HQI:=hide hQ
       have HVX:=hide (HVA.out.trans (hXB.mono HVA.out.size))
       have HAP:=hide (r6.below hXB)
       have HAQ:=hide (s6.below hXB)
       have HRD:Hid (ldR l (nthB bs j)=mgOf (nthI l m).1 (nthI l (m+1)).1 (nthI l m).2.2.2):=by
        show _=_
        rw [HZ.out];exact ldR_at l z1 z2 m
       have HTG:Hid (tgL (backI l (nthB bs j) 1)=tgL (nthI l (m+1))):=by
        show _=_
        rw [HZ.out];exact backI_at l z1 z2 m
       have hmn2:m<n:=Nat.lt_of_succ_lt hmn
       have HI1:=hide (HOK.out m (HL.out.symm ▸ hmn2))
       have HI2:=hide (HOK.out (m+1) (HL.out.symm ▸ hmn))
       have HS5:=hide s5
       have har:=HAR.out m hmn2
       rw [r5] at har
       have hmg:=merge_any (w.heap.size+3) k F (nthI l m) (nthI l (m+1)) a1 a2 n1 c1 n2 c2 X (HM1.out.below HVX.out) HAP.out HI1.out.2.2.2.2.2.2.1 r5 har.1 har.2
       rw [← HRD.out] at hmg
       have x0:=(one_block hP).1 0
       have x1:=(one_block hP).1 1
       have x2:=(one_block hP).1 2
       have x3:=(one_block hP).1 3
       have y0:=(one_block hQ).1 0
       have y1:=(one_block hQ).1 1
       have y2:=(one_block hQ).1 2
       have y3:=(one_block hQ).1 3
       have HMN:=hide hmn
       have HLT:=hide hlt
       have HJL:=hide hjl
       clear hXB hP hQ r5 r6 r7 s5 s6 s7 har hmix p1 p2 p3 hG hg1 hg2 w3 w4 w1 w2 q0 q1 q2 q3 hmn hmn2 hji hj hlt hjl hkx hbi hf5
       go_wp2_with fail
       refine hmg.mono ?_
       rintro e w2 ⟨hq,hb2⟩
       have hbV2:=HVX.out.trans (hb2.mono HVX.out.size)
       have hbz2:=(hb2.block _ (Nat.lt_of_lt_of_le (Array.getElem?_eq_some_iff.1 HBZ.out).1 HXB.out.size)).trans ((HXB.out.block _ (Array.getElem?_eq_some_iff.1 HBZ.out).1).trans HBZ.out)
       have hks2:=(hbV2.block _ (Array.getElem?_eq_some_iff.1 HKS1.out).1).trans HKS1.out
       have HKB:=hide hks2
       have HBB:=hide hbz2
       have HV2:=hide hbV2
       have HX2:=hide hb2
       clear hmg x0 x1 x2 x3 y0 y1 y2 y3 hbV2 hbz2 hks2 hb2
       rcases hq with ⟨hyes,he⟩ | ⟨hno,he⟩
       ·have HYES:=hide hyes
        obtain⟨k1,k2,k3,hkk⟩:∃ k1 k2 k3,ldM F l (nthB bs j)=(k1,k2,k3):=⟨_,_,_,rfl⟩
        have HKK:=hide hkk
        rw [mgV_ldM,hkk] at he
        simp only at he
        subst he
        have hba2:=(Below.refl _ w2).alloc (Nat.le_refl _) (.cells #[.int .u8 k1,.int .i64 k2,.int .i64 k3] 96)
        have HT2:=hide (HV2.out.trans (hba2.mono HV2.out.size))
        have hXW:=(HX2.out.trans (hba2.mono HX2.out.size))
        have HLR2:=hide (HLR.out.below (HBR.out.trans ((HXB.out.trans (hXW.mono HXB.out.size)).mono HBR.out.size)))
        have HBS:=hide (Nat.le_trans (Nat.le_trans HBR.out.size HXB.out.size) HX2.out.size)
        have HAQ2:=hide (HAQ.out.below hXW)
        have hq2:=(hXW.block _ (Array.getElem?_eq_some_iff.1 HQI.out).1).trans HQI.out
        have HBB2:=hide (allocOld HBB.out (.cells #[.int .u8 k1,.int .i64 k2,.int .i64 k3] 96))
        have HKB2:=hide (allocOld HKB.out (.cells #[.int .u8 k1,.int .i64 k2,.int .i64 k3] 96))
        have HM16:=hide (allocNew w2 (.cells #[.int .u8 k1,.int .i64 k2,.int .i64 k3] 96) rfl)
        have htf:=tgL_facts (nthI l (m+1)) HI2.out.2.2.2.2.2.2.1
        have h8:=eightLe htf.1 HS5.out HI2.out.2.2.2.2.2.2.2
        have hbt:=blkTargets_any (nthI l (m+1)) a2 n2 c2 _ HAQ2.out HS5.out h8.2
        have HTR:=hide htf.2
        have HT8:=hide h8.1
        rw [← HTG.out] at hbt
        rw [← HTG.out] at HTR HT8
        have y0:=(one_block hq2).1 0
        have y1:=(one_block hq2).1 1
        have y2:=(one_block hq2).1 2
        have y3:=(one_block hq2).1 3
        clear hba2 hXW hq2 htf h8 hkk hyes HTG HRD HI1 HI2 HS5 HAP HAQ HVX HX2 HP HQI
        have HTN:Hid (ldN F l (nthB bs j)=(tgL (backI l (nthB bs j) 1)).map (numG F)):=rfl
        have HOT:Hid (okT F l (nthB bs j)=∀ x∈tgL (backI l (nthB bs j) 1),¬ numG F x=0):=rfl
        generalize tgL (backI l (nthB bs j) 1)=T at *
        go_wp2_with fail
        generalize World.alloc w2 _=W2 at *
        refine hbt.mono ?_
        rintro e w3 ⟨v,rfl,ho3,hb3⟩
        have HV3:=hide (HT2.out.trans (hb3.mono HT2.out.size))
        have HLR3:=hide (HLR2.out.below hb3)
        have HM3:=hide ((hb3.block _ (Array.getElem?_eq_some_iff.1 HM16.out).1).trans HM16.out)
        have HBB3:=hide ((hb3.block _ (Array.getElem?_eq_some_iff.1 HBB2.out).1).trans HBB2.out)
        have HKB3:=hide ((hb3.block _ (Array.getElem?_eq_some_iff.1 HKB2.out).1).trans HKB2.out)
        have HB3:=hide (Nat.le_trans HBS.out (Nat.le_of_lt (Array.getElem?_eq_some_iff.1 HM3.out).1))
        obtain⟨a3,c3,rfl⟩:=own_shapeG ho3
        have hfi:=find_any (w.heap.size+3) k F a3 T.length c3 T w3 (HM1.out.below HV3.out) (View.ofOwn ho3 rfl) rfl HT8.out HTR.out
        clear ho3 hb3 hbt y0 y1 y2 y3 HLR2 HT2 HBB2 HKB2 HAQ2 HT8 HTR
        go_wp2_with fail
        refine hfi.mono ?_
        rintro e w4 hq4
        rcases hq4 with ⟨hy4,v4,rfl,ho4,hb4⟩ | ⟨hn4,rfl,hb4⟩
        ·skip
         generalize T.map (numG F)=Z at *
         obtain⟨a5,c5,rfl⟩:=own_shapeG ho4
         have HYE:=hide hy4
         have HM4:=hide ((hb4.block _ (Array.getElem?_eq_some_iff.1 HM3.out).1).trans HM3.out)
         have HB4:=hide hb4
         have HO4:=hide ho4
         have HBK:Hid ((∀ g,u10.ownBlock=some g→V1.heap.size≤g∧g<w2.heap.size)∧(∀ g,u11.ownBlock=some g→V1.heap.size≤g∧g<w2.heap.size)):=⟨fun g e=>⟨(HLR.out.blocks.1 g e).1,Nat.lt_of_lt_of_le (HLR.out.blocks.1 g e).2 HBS.out⟩,fun g e=>⟨(HLR.out.blocks.2 g e).1,Nat.lt_of_lt_of_le (HLR.out.blocks.2 g e).2 HBS.out⟩⟩
         have HNL:Hid (((bs.take j).map (ldN F l)).length≤1048576∧((bs.take j).map (ldM F l)).length≤1048576):=by
          have h1:=HNB.out;have h2:=HLT.out
          exact lenLe (ldN F l) (ldM F l) bs j k h2 h1
         clear hfi hy4 ho4 hb4 HBB3 HKB3 HKB HBB
         go_wp2_with fail
         have hC0:w4.drew.heap[w2.heap.size]?=some (.cells #[.int .u8 k1,.int .i64 k2,.int .i64 k3] 96 (0,0)):=HM4.out
         have hmix:Tryz.prog.follows .mixedOrders=true:=by kernel_rfl
         have LC:Hid (∀ w':World,w'.heap[w2.heap.size]?=some (.cells #[.int .u8 k1,.int .i64 k2,.int .i64 k3] 96 (0,0))→w'.cell? ⟨w2.heap.size,0,none⟩=some (.int .u8 k1)∧w'.cell? ⟨w2.heap.size,1,none⟩=some (.int .i64 k2)∧w'.cell? ⟨w2.heap.size,2,none⟩=some (.int .i64 k3)):=fun w' h=>⟨(one_block h).1 0,(one_block h).1 1,(one_block h).1 2⟩
         refine (wpIn_wide (n:=0)).1 ?_
         refine wpIn_normal (wpIn_region_any hmix (wpAnyE_sound (C:=fun w'=>w'.heap[w2.heap.size]?=some (.cells #[.int .u8 k1,.int .i64 k2,.int .i64 k3] 96 (0,0))) (E:=fun _=>false) _ _ _ _ ?_))
         change wpAnyE _ _ _ _ _ _ _ _ _ _ _ (World.drew _)
         refine wpAnyE_takeD (i:=0) (some 87) (v:=(u10)) (fun _=>trivial) (by kernel_rfl) rfl rfl (by kernel_rfl) (by kernel_rfl) (by kernel_rfl) (by kernel_rfl) (fun _ _ _ h=>by cases h.1) hC0 (Or.inl ⟨by rfl,fun w' hC=>by obtain⟨e1,e2,e3⟩:=LC.out w' hC;clear hC;go_simp⟩) ?_
         simp only [Act.put,ap1,ap2,ap3]
         refine wpAnyE_takeD (i:=1) (some 88) (v:=(.slice a5 Z.length c5)) (fun _=>trivial) (by kernel_rfl) rfl rfl (by kernel_rfl) (by kernel_rfl) (by kernel_rfl) (by kernel_rfl) (fun _ _ _ h=>by cases h.1) hC0 (Or.inl ⟨by rfl,fun w' hC=>by obtain⟨e1,e2,e3⟩:=LC.out w' hC;clear hC;go_simp⟩) ?_
         simp only [Act.put,ap1,ap2,ap3]
         refine wpAnyE_takeD (i:=4) (some 91) (v:=(u11)) (fun _=>trivial) (by kernel_rfl) rfl rfl (by kernel_rfl) (by kernel_rfl) (by kernel_rfl) (by kernel_rfl) (fun _ _ _ h=>by cases h.1) hC0 (Or.inl ⟨by rfl,fun w' hC=>by obtain⟨e1,e2,e3⟩:=LC.out w' hC;clear hC;go_simp⟩) ?_
         simp only [Act.put,ap1,ap2,ap3]
         refine wpAnyE_takeD (i:=5) (some 92) (v:=(.agg #[.int .u8 k1,.int .i64 k2,.int .i64 k3])) (fun _=>trivial) (by kernel_rfl) rfl rfl (by kernel_rfl) (by kernel_rfl) (by kernel_rfl) (by kernel_rfl) (fun _ _ _ h=>by cases h.1) hC0 (Or.inl ⟨by rfl,fun w' hC=>by obtain⟨e1,e2,e3⟩:=LC.out w' hC;clear hC;go_simp⟩) ?_
         simp only [Act.put,ap1,ap2,ap3]
         have hW0:Below w3.heap.size w3 w4.drew:=HB4.out.drew
         have hV0:Below V1.heap.size V1 w4.drew:=HV3.out.trans (hW0.mono HV3.out.size)
         have hO0:w4.drew.ownsRow w3.heap.size 3 1 (.slice a5 Z.length c5) Z.length (Z.map (Value.int .i64)):=HO4.out
         clear LC
         apply keyed4 (fun (X:World) (hq mq:Value) (_ _:Nat)=>Below V1.heap.size V1 X∧LeadR X V1.heap.size hq ((bs.take j).map (ldN F l)++[Z]) mq ((bs.take j).map (ldM F l)++[(k1,k2,k3)])) ?h1 ?h2
         case h1 =>
          intro key
          refine wpAnyE_ready (rs:=[2,6]) (by kernel_rfl) (by simp) ?_
          refine AllE.cons rfl (fun Kk hK=>?_) (AllE.cons rfl (fun Kk hK=>?_) AllE.nil)
          ·skip
           go_simp
           have hC1:=allocOld hC0 (.cells #[.slice a5 Z.length c5] 26)
           refine hK _ _ (.inr hC1) ?_
           clear hK Kk
           have hV1:=hV0.alloc hV0.size (.cells #[.slice a5 Z.length c5] 26)
           have hS1:Below _ _ _:=(Below.refl _ w4.drew).alloc (Nat.le_refl _) (.cells #[.slice a5 Z.length c5] 26)
           have hW1:=hW0.alloc hW0.size (.cells #[.slice a5 Z.length c5] 26)
           have hO1:=own_below hO0 hS1
           have hB2_1:=allocNew w4.drew (.cells #[.slice a5 Z.length c5] 26) rfl
           refine wpAnyE_ready (rs:=[3,6]) (by kernel_rfl) (by simp) ?_
           refine AllE.cons rfl (fun Kk hK=>?_) (AllE.cons rfl (fun Kk hK=>?_) AllE.nil)
           ·skip
            refine leadStepN (fun _=>trivial) rfl (.tmp 87) (.tmp 89) rfl HLR3.out hW1 HV3.out.size hO1 rfl _ rfl hB2_1 HNL.out.1 ?_
            intro hv2 w6 hL2 hg2
            have hC2:=(hg2.block _ (Array.getElem?_eq_some_iff.1 hC1).1 (fun e=>Nat.lt_irrefl _ (HBK.out.1 _ e.symm).2)).trans hC1
            refine hK _ _ (.inr hC2) ?_
            clear hK Kk
            simp only [Act.put,ap1,ap2,ap3]
            have hV2:=hV1.grown hg2 hV1.size (fun g e=>(HBK.out.1 g e).1)
            refine wpAnyE_ready (rs:=[6]) (by kernel_rfl) (by simp) ?_
            refine AllE.cons rfl (fun Kk hK=>?_) AllE.nil
            go_simp
            have hC3:=allocOld hC2 (.cells #[.int .u8 k1,.int .i64 k2,.int .i64 k3] 96)
            refine hK _ _ (.inr hC3) ?_
            clear hK Kk
            have hV3:=hV2.alloc hV2.size (.cells #[.int .u8 k1,.int .i64 k2,.int .i64 k3] 96)
            have hL3:=hL2.below ((Below.refl _ w6).alloc (Nat.le_refl _) (.cells #[.int .u8 k1,.int .i64 k2,.int .i64 k3] 96))
            have hB6_3:=allocNew w6 (.cells #[.int .u8 k1,.int .i64 k2,.int .i64 k3] 96) rfl
            refine wpAnyE_ready (rs:=[7]) (by kernel_rfl) (by simp) ?_
            refine AllE.cons rfl (fun Kk hK=>?_) AllE.nil
            refine leadStepM (fun _=>trivial) rfl (.tmp 91) (.tmp 93) rfl k1 k2 k3 hL3 hV3.size rfl _ rfl hB6_3 HNL.out.2 ?_
            intro mv4 w8 hL4 hg4
            have hC4:=(hg4.block _ (Array.getElem?_eq_some_iff.1 hC3).1 (fun e=>Nat.lt_irrefl _ (HBK.out.2 _ e.symm).2)).trans hC3
            refine hK _ _ (.inr hC4) ?_
            clear hK Kk
            simp only [Act.put,ap1,ap2,ap3]
            have hV4:=hV3.grown hg4 hV3.size (fun g e=>(HBK.out.2 g e).1)
            refine wpAnyE_ready (rs:=[8]) (by kernel_rfl) (by simp) ?_
            refine AllE.cons rfl (fun Kk hK=>?_) AllE.nil
            go_simp
            refine hK _ _ (.inr hC4) ?_
            clear hK Kk
            refine wpAnyE_ready (rs:=[9]) (by kernel_rfl) (by simp) ?_
            refine AllE.cons rfl (fun Kk hK=>?_) AllE.nil
            go_simp
            refine hK _ _ (.inr hC4) ?_
            clear hK Kk
            refine wpAnyE_done (by kernel_rfl) ⟨rfl,?_⟩ _
            generalize w4.heap.size=m2
            generalize w6.heap.size=m6
            exact key _ _ _ m2 m6 ⟨hV4,hL4⟩
           ·skip
            go_simp
            have hC2:=allocOld hC1 (.cells #[.int .u8 k1,.int .i64 k2,.int .i64 k3] 96)
            refine hK _ _ (.inr hC2) ?_
            clear hK Kk
            have hV2:=hV1.alloc hV1.size (.cells #[.int .u8 k1,.int .i64 k2,.int .i64 k3] 96)
            have hS2:Below _ _ _:=(Below.refl _ (w4.drew.alloc (.cells #[.slice a5 Z.length c5] 26))).alloc (Nat.le_refl _) (.cells #[.int .u8 k1,.int .i64 k2,.int .i64 k3] 96)
            have hW2:=hW1.alloc hW1.size (.cells #[.int .u8 k1,.int .i64 k2,.int .i64 k3] 96)
            have hO2:=own_below hO1 hS2
            have hB2_2:=allocOld hB2_1 (.cells #[.int .u8 k1,.int .i64 k2,.int .i64 k3] 96)
            have hB6_2:=allocNew (w4.drew.alloc (.cells #[.slice a5 Z.length c5] 26)) (.cells #[.int .u8 k1,.int .i64 k2,.int .i64 k3] 96) (n:=w4.heap.size+1) (by simp)
            refine wpAnyE_ready (rs:=[3]) (by kernel_rfl) (by simp) ?_
            refine AllE.cons rfl (fun Kk hK=>?_) AllE.nil
            refine leadStepN (fun _=>trivial) rfl (.tmp 87) (.tmp 89) rfl HLR3.out hW2 HV3.out.size hO2 rfl _ rfl hB2_2 HNL.out.1 ?_
            intro hv3 w7 hL3 hg3
            have hC3:=(hg3.block _ (Array.getElem?_eq_some_iff.1 hC2).1 (fun e=>Nat.lt_irrefl _ (HBK.out.1 _ e.symm).2)).trans hC2
            refine hK _ _ (.inr hC3) ?_
            clear hK Kk
            simp only [Act.put,ap1,ap2,ap3]
            have hV3:=hV2.grown hg3 hV2.size (fun g e=>(HBK.out.1 g e).1)
            have hB6_3:=(hg3.block _ (Array.getElem?_eq_some_iff.1 hB6_2).1 (fun e=>newNe e (fun g h=>(HBK.out.1 g h).2) (Nat.le_trans (Nat.le_of_lt (Array.getElem?_eq_some_iff.1 HM4.out).1) (by simp)))).trans hB6_2
            refine wpAnyE_ready (rs:=[7]) (by kernel_rfl) (by simp) ?_
            refine AllE.cons rfl (fun Kk hK=>?_) AllE.nil
            refine leadStepM (fun _=>trivial) rfl (.tmp 91) (.tmp 93) rfl k1 k2 k3 hL3 hV3.size rfl _ rfl hB6_3 HNL.out.2 ?_
            intro mv4 w8 hL4 hg4
            have hC4:=(hg4.block _ (Array.getElem?_eq_some_iff.1 hC3).1 (fun e=>Nat.lt_irrefl _ (HBK.out.2 _ e.symm).2)).trans hC3
            refine hK _ _ (.inr hC4) ?_
            clear hK Kk
            simp only [Act.put,ap1,ap2,ap3]
            have hV4:=hV3.grown hg4 hV3.size (fun g e=>(HBK.out.2 g e).1)
            refine wpAnyE_ready (rs:=[8]) (by kernel_rfl) (by simp) ?_
            refine AllE.cons rfl (fun Kk hK=>?_) AllE.nil
            go_simp
            refine hK _ _ (.inr hC4) ?_
            clear hK Kk
            refine wpAnyE_ready (rs:=[9]) (by kernel_rfl) (by simp) ?_
            refine AllE.cons rfl (fun Kk hK=>?_) AllE.nil
            go_simp
            refine hK _ _ (.inr hC4) ?_
            clear hK Kk
            refine wpAnyE_done (by kernel_rfl) ⟨rfl,?_⟩ _
            generalize w4.heap.size+1=m6
            generalize w4.heap.size=m2
            exact key _ _ _ m2 m6 ⟨hV4,hL4⟩
          ·skip
           go_simp
           have hC1:=allocOld hC0 (.cells #[.int .u8 k1,.int .i64 k2,.int .i64 k3] 96)
           refine hK _ _ (.inr hC1) ?_
           clear hK Kk
           have hV1:=hV0.alloc hV0.size (.cells #[.int .u8 k1,.int .i64 k2,.int .i64 k3] 96)
           have hS1:Below _ _ _:=(Below.refl _ w4.drew).alloc (Nat.le_refl _) (.cells #[.int .u8 k1,.int .i64 k2,.int .i64 k3] 96)
           have hW1:=hW0.alloc hW0.size (.cells #[.int .u8 k1,.int .i64 k2,.int .i64 k3] 96)
           have hO1:=own_below hO0 hS1
           have hB6_1:=allocNew w4.drew (.cells #[.int .u8 k1,.int .i64 k2,.int .i64 k3] 96) rfl
           refine wpAnyE_ready (rs:=[2]) (by kernel_rfl) (by simp) ?_
           refine AllE.cons rfl (fun Kk hK=>?_) AllE.nil
           go_simp
           have hC2:=allocOld hC1 (.cells #[.slice a5 Z.length c5] 26)
           refine hK _ _ (.inr hC2) ?_
           clear hK Kk
           have hV2:=hV1.alloc hV1.size (.cells #[.slice a5 Z.length c5] 26)
           have hS2:Below _ _ _:=(Below.refl _ (w4.drew.alloc (.cells #[.int .u8 k1,.int .i64 k2,.int .i64 k3] 96))).alloc (Nat.le_refl _) (.cells #[.slice a5 Z.length c5] 26)
           have hW2:=hW1.alloc hW1.size (.cells #[.slice a5 Z.length c5] 26)
           have hO2:=own_below hO1 hS2
           have hB6_2:=allocOld hB6_1 (.cells #[.slice a5 Z.length c5] 26)
           have hB2_2:=allocNew (w4.drew.alloc (.cells #[.int .u8 k1,.int .i64 k2,.int .i64 k3] 96)) (.cells #[.slice a5 Z.length c5] 26) (n:=w4.heap.size+1) (by simp)
           refine wpAnyE_ready (rs:=[3]) (by kernel_rfl) (by simp) ?_
           refine AllE.cons rfl (fun Kk hK=>?_) AllE.nil
           refine leadStepN (fun _=>trivial) rfl (.tmp 87) (.tmp 89) rfl HLR3.out hW2 HV3.out.size hO2 rfl _ rfl hB2_2 HNL.out.1 ?_
           intro hv3 w7 hL3 hg3
           have hC3:=(hg3.block _ (Array.getElem?_eq_some_iff.1 hC2).1 (fun e=>Nat.lt_irrefl _ (HBK.out.1 _ e.symm).2)).trans hC2
           refine hK _ _ (.inr hC3) ?_
           clear hK Kk
           simp only [Act.put,ap1,ap2,ap3]
           have hV3:=hV2.grown hg3 hV2.size (fun g e=>(HBK.out.1 g e).1)
           have hB6_3:=(hg3.block _ (Array.getElem?_eq_some_iff.1 hB6_2).1 (fun e=>newNe e (fun g h=>(HBK.out.1 g h).2) (Nat.le_trans (Nat.le_of_lt (Array.getElem?_eq_some_iff.1 HM4.out).1) (by simp)))).trans hB6_2
           refine wpAnyE_ready (rs:=[7]) (by kernel_rfl) (by simp) ?_
           refine AllE.cons rfl (fun Kk hK=>?_) AllE.nil
           refine leadStepM (fun _=>trivial) rfl (.tmp 91) (.tmp 93) rfl k1 k2 k3 hL3 hV3.size rfl _ rfl hB6_3 HNL.out.2 ?_
           intro mv4 w8 hL4 hg4
           have hC4:=(hg4.block _ (Array.getElem?_eq_some_iff.1 hC3).1 (fun e=>Nat.lt_irrefl _ (HBK.out.2 _ e.symm).2)).trans hC3
           refine hK _ _ (.inr hC4) ?_
           clear hK Kk
           simp only [Act.put,ap1,ap2,ap3]
           have hV4:=hV3.grown hg4 hV3.size (fun g e=>(HBK.out.2 g e).1)
           refine wpAnyE_ready (rs:=[8]) (by kernel_rfl) (by simp) ?_
           refine AllE.cons rfl (fun Kk hK=>?_) AllE.nil
           go_simp
           refine hK _ _ (.inr hC4) ?_
           clear hK Kk
           refine wpAnyE_ready (rs:=[9]) (by kernel_rfl) (by simp) ?_
           refine AllE.cons rfl (fun Kk hK=>?_) AllE.nil
           go_simp
           refine hK _ _ (.inr hC4) ?_
           clear hK Kk
           refine wpAnyE_done (by kernel_rfl) ⟨rfl,?_⟩ _
           generalize w4.heap.size+1=m2
           generalize w4.heap.size=m6
           exact key _ _ _ m2 m6 ⟨hV4,hL4⟩
         case h2 =>
          rintro X hq mq _ _ ⟨hV9,hL9⟩
          have HV9:=hide hV9
          have HL9:=hide hL9
          have HTK:Hid ((bs.take (j+1)).map (ldN F l)=(bs.take j).map (ldN F l)++[Z]∧(bs.take (j+1)).map (ldM F l)=(bs.take j).map (ldM F l)++[(k1,k2,k3)]):=by
           rw [← HTN.out,← HKK.out]
           exact⟨mapTake _ bs j HJL.out,mapTake _ bs j HJL.out⟩
          have HALL2:Hid (∀ q,q<j+1→okM F l (nthB bs q)∧okT F l (nthB bs q)):=fun q hq=>by
           rcases Nat.lt_succ_iff_lt_or_eq.1 hq with h | rfl
           ·exact HALL.out q h
           ·exact⟨HYES.out,by rw [HOT.out];exact HYE.out⟩
          clear hV9 hL9 hC0 hW0 hV0 hO0 hmix
          rw [inBlock_normalL,then_normalLd]
          have hwj:=wrapJ HLT.out HNB.out
          go_wp2_with fail
          exact⟨⟨j+1,HLT.out,by rw [hwj];simp,HV9.out,by rw [HTK.out.1,HTK.out.2];exact HL9.out,HALL2.out⟩,by rw [hwj];exact measZ2 HLT.out⟩
        ·have HNO:=hide hn4
         have HT2:=hide (HV3.out.trans (hb4.mono HV3.out.size))
         have hz2:=(hb4.block _ (Array.getElem?_eq_some_iff.1 HBB3.out).1).trans HBB3.out
         have hs2:=(hb4.block _ (Array.getElem?_eq_some_iff.1 HKB3.out).1).trans HKB3.out
         have b2:=(one_block hz2).1 2
         obtain⟨z0,z1',_,_⟩:=twoF hs2
         have x0:=(one_block hs2).1 0
         have x1:=(one_block hs2).1 1
         have HKS2:=hide hs2
         clear hz2 hs2 hn4 hfi hb4
         go_wp2_with fail
         go_region_with (fail)
         all_goals
          go_wp2_with fail
          refine leadRet (B:=w.heap.size+2) rfl rfl rfl rfl (spotLd HKS2.out _ _) (.inr ⟨HSM.out,?_,.inr ⟨j,HJL.out,HALL.out,.inr ⟨HYES.out,?_,errVt HZ.out HW5.out⟩⟩⟩)
          ·exact (((HBV.out.trans (HT2.out.mono HBV.out.size)).setCell (le2 _) _).setCell (le2 _) _).drew
          ·rw [HOT.out];exact HNO.out
       ·subst he
        have HNO:=hide hno
        have HT2:=hide (HV2.out.trans (((Below.refl _ w2).alloc (Nat.le_refl _) (.cells #[.int .u8 0,.int .i64 0,.int .i64 0] 96)).mono HV2.out.size))
        have hz2:=allocOld HBB.out (.cells #[.int .u8 0,.int .i64 0,.int .i64 0] 96)
        have hs2:=allocOld HKB.out (.cells #[.int .u8 0,.int .i64 0,.int .i64 0] 96)
        have b2:=(one_block hz2).1 2
        obtain⟨z0,z1',_,_⟩:=twoF hs2
        have x0:=(one_block hs2).1 0
        have x1:=(one_block hs2).1 1
        have HKS2:=hide hs2
        clear hz2 hs2 hno
        go_wp2_with fail
        generalize World.alloc w2 _=W2 at *
        go_region_with (fail)
        all_goals
         go_wp2_with fail
         refine leadRet (B:=w.heap.size+2) rfl rfl rfl rfl (spotLd HKS2.out _ _) (.inr ⟨HSM.out,?_,.inr ⟨j,HJL.out,HALL.out,.inl ⟨HNO.out,errVm HZ.out HW6.out⟩⟩⟩)
         exact (((HBV.out.trans (HT2.out.mono HBV.out.size)).setCell (le2 _) _).setCell (le2 _) _).drew
     ·have e:j=k:=by omega
      subst e
      have HBw:=hide (HBV.out.trans (hBx.mono HBV.out.size))
      have hks:=(hBx.block _ (Array.getElem?_eq_some_iff.1 HKS1.out).1).trans HKS1.out
      have HKS2:=hide hks
      have HLR:=hide hLR
      have HTK:Hid (bs.take j=bs):=List.take_of_length_le (by rw [HB.out];exact Nat.le_refl _)
      have HALL:Hid (∀ b∈bs,okM F l b∧okT F l b):=by
       intro b hb
       obtain⟨q,hq,e⟩:=List.mem_iff_getElem.1 hb
       have:=hall q (by rw [HB.out] at hq;exact hq)
       have e2:nthB bs q=b:=by unfold nthB;rw [List.getD_eq_getElem?_getD,List.getElem?_eq_getElem hq];exact e
       rw [e2] at this
       exact this
      obtain⟨z0,z1,_,_⟩:=twoF hks
      have x0:=(one_block hks).1 0
      have x1:=(one_block hks).1 1
      clear hBx hLR hall hks hlt hj
      go_wp2_with fail
      refine leadRet (B:=w.heap.size+2) rfl rfl rfl rfl (spotLd HKS2.out _ _) (.inr ⟨HSM.out,?_,.inl ⟨HALL.out,_,_,rfl,?_⟩⟩)
      ·exact ((HBw.out.setCell (show w.heap.size≤w.heap.size+1+1 from Nat.le_add_right _ 2) _).setCell (show w.heap.size≤w.heap.size+1+1 from Nat.le_add_right _ 2) _)
      ·have h:=HLR.out
       rw [HTK.out] at h
       have hlo:=HSV.out
       exact ((h.kept (grown_setCell wr (w.heap.size+2) 0 _) (fun g e=>by cases e;omega)).kept (grown_setCell _ (w.heap.size+2) 1 _) (fun g e=>by cases e;omega)).low (by omega)
end Go.Proofs.YtlcaedibmlidlaaGreat
namespace Go.Proofs.YtlcaedibmlidlaaGreat
open Go.RowKit
set_option linter.unusedVariables false
set_option linter.unusedSimpArgs false
set_option maxRecDepth 10000
theorem partO_small (op:Int):0≤partO op∧partO op≤9:=by
 have h:refT.all (fun r=>decide (0≤r.2.2.2.2.2.2.2) && decide (r.2.2.2.2.2.2.2≤9))=true:=by decide +kernel
 unfold partO
 split
 ·next h1 =>
  have h2:=List.all_eq_true.1 h _ (lookF_true h1)
  simpa using h2
 ·omega
set_option maxHeartbeats 4000000 in
theorem refPart_any (x:InstT) (ax:Option Addr) (n cx:Nat) (w:World) (hv:ArgsV w ax x.2.2.2) (hl:x.2.2.2.length=n) (h59:x.1=59→1≤n) :
  Calls Tryz.prog 66 #[instV x ax n cx] w fun e w'=>e=.returned (.int .i64 (partI x))∧Below w.heap.size w w':=by
 obtain⟨xo,xt,xr,xl⟩:=x
 unfold instV partI
 simp only at *
 have hO:=fun wx=>refOf_any xo wx
 have hba:Below w.heap.size w (w.alloc (.cells #[.int .u16 xo,.int .u32 xt,.int .u32 xr,.slice ax n cx] 63)):=(Below.refl _ w).alloc (Nat.le_refl _) _
 have HBA:=hide hba
 have hof:∃ nm ty re fx rs mo o,ofV xo=.agg #[.int .u16 o,.string nm,.bool ty,.bool re,.string fx,.string rs,.int .i64 mo,.int .u8 (partO xo)]:=by
  unfold ofV partO formV
  cases h:(lookF refT xo).2 with
  | true=>exact⟨_,_,_,_,_,_,_,by simp;exact⟨rfl,rfl,rfl,rfl,rfl,rfl,rfl⟩⟩
  | false=>exact⟨_,_,_,_,_,_,_,by simp [noFrm];exact⟨rfl,rfl,rfl,rfl,rfl,rfl,rfl⟩⟩
 obtain⟨nm,ty,re,fx,rs,mo,o,ho⟩:=hof
 rw [ho] at hO
 have hsm:=partO_small xo
 generalize hp:partO xo=po at *
 have hw:wrap64 po=po:=by unfold wrap64;omega
 clear hsm
 have OTHER:¬ (xo=59∧(nthA xl 0).2.1=7)→Calls Tryz.prog 66 #[.agg #[.int .u16 xo,.int .u32 xt,.int .u32 xr,.slice ax n cx]] w fun e w'=>e=.returned (.int .i64 po)∧Below w.heap.size w w':=by
  intro hno
  by_cases h1:xo=59
  ·subst h1
   have h7:(nthA xl 0).2.1≠7:=fun e=>hno ⟨rfl,e⟩
   obtain⟨ba,oa,rfl,hb,z0,z1,z2⟩:=hv 0 (by have:=h59 rfl;omega)
   have hn0:(0:Int)<(n:Int):=by have:=h59 rfl;omega
   have zz1:=(hba.cell (p:=⟨ba,oa+0 * 3+1,none⟩) hb).trans z1
   rw [show oa+0 * 3+1=oa+1 by omega] at zz1
   generalize (nthA xl 0).2.1=y at *
   have h7':(y==7)=false:=by simpa using h7
   clear hno h7 hv hl h59 z0 z1 z2 hba hp ho
   go_enter Tryz.func66,Tryz.ntmps66
   go_wp2_with fail
   refine (hO _).mono ?_
   rintro e w1 ⟨rfl,hb1⟩
   have HB1:=hide (HBA.out.trans (hb1.mono HBA.out.size))
   clear hb1 hO zz1
   go_wp2_with fail
   rw [hw]
   go_ret
   exact⟨rfl,HB1.out.alloc HB1.out.size _⟩
  ·have h1':(xo==59)=false:=by simpa using h1
   clear hno h1 hv hl h59 hba hp ho
   go_enter Tryz.func66,Tryz.ntmps66
   go_wp2_with fail
   refine (hO _).mono ?_
   rintro e w1 ⟨rfl,hb1⟩
   have HB1:=hide (HBA.out.trans (hb1.mono HBA.out.size))
   clear hb1 hO
   go_wp2_with fail
   rw [hw]
   go_ret
   exact⟨rfl,HB1.out.alloc HB1.out.size _⟩
 by_cases hc:xo=59∧(nthA xl 0).2.1=7
 ·rw [if_pos hc]
  obtain⟨rfl,h7⟩:=hc
  obtain⟨ba,oa,rfl,hb,z0,z1,z2⟩:=hv 0 (by have:=h59 rfl;omega)
  have hn0:(0:Int)<(n:Int):=by have:=h59 rfl;omega
  rw [h7] at z1
  have zz1:=(hba.cell (p:=⟨ba,oa+0 * 3+1,none⟩) hb).trans z1
  rw [show oa+0 * 3+1=oa+1 by omega] at zz1
  clear OTHER h7 hv hl h59 z0 z1 z2 hba hp ho hO
  go_enter Tryz.func66,Tryz.ntmps66
  go_wp2_with fail
  go_ret
  exact⟨rfl,HBA.out⟩
 ·rw [if_neg hc]
  exact OTHER hc
end Go.Proofs.YtlcaedibmlidlaaGreat
