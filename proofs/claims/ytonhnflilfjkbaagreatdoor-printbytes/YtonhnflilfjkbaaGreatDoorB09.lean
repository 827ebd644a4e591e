/-
  Texts in one: FrameRead.
-/
import Derived.Test.YtonhnflilfjkbaaGreatDoorB08
namespace Go.Proofs.YtonhnflilfjkbaaGreatDoor
open Go.RowKit Go.Shelf
attribute [local go_sem] Oper.semAt_some

theorem read_large (a:Option Addr) (n cap:Nat) (w:World) (h:1048576<n) :
  Calls Tryz.prog 62 #[.slice a n cap] w fun e w'=>e=.returned (.tuple #[.agg #[.int .u32 0,.int .u32 0],.slice none 0 0,.agg #[.int .i64 4,.int .i64 1048576]])∧Below w.heap.size w w':=by
 have b1:decide ((1048576:Int)<(n:Int))=true:=decide_eq_true (by omega)
 go_enter Tryz.func62,Tryz.ntmps62
 go_wp2
 exact bodyPost_ret (v:=.tuple #[.agg #[.int .u32 0,.int .u32 0],.slice none 0 0,.agg #[.int .i64 4,.int .i64 1048576]]) (by simp [results,Tryz.results62,go_sem]) rfl ⟨rfl,((Below.refl _ _).alloc (Nat.le_refl _) _).alloc (by simp) _⟩
set_option maxHeartbeats 1000000 in
theorem read_head (a:Option Addr) (n cap:Nat) (zs:List Int) (w:World) (ha:View .u32 w a zs) (hl:zs.length=n) (hw:Within 4294967296 zs) (hn:n≤1048576) (he:(headE zs 0).1≠0) :
  Calls Tryz.prog 62 #[.slice a n cap] w fun e w'=>e=.returned (.tuple #[.agg #[.int .u32 0,.int .u32 0],.slice none 0 0,.agg #[.int .i64 (headE zs 0).1,.int .i64 (headE zs 0).2]])∧Below w.heap.size w w':=by
 have b1:decide ((1048576:Int)<(n:Int))=false:=decide_eq_false (by omega)
 have hH:=fun wx (hb:Below w.heap.size w wx)=>readHead_any a n cap zs wx (ha.below hb) hl hw hn
 have heb:((headE zs 0).1==0)=false:=by simpa using he
 clear he hl ha
 generalize (headE zs 0).1=er at *
 generalize (headE zs 0).2=at_ at *
 generalize headAt zs 2=h2 at *
 generalize headAt zs 3=h3 at *
 go_enter Tryz.func62,Tryz.ntmps62
 go_wp2_with fail
 refine (hH _ (((Below.refl _ w).alloc (Nat.le_refl _) (.cells #[.int .u32 0,.int .u32 0] 106)).alloc (by simp) (.cells #[.int .i64 0,.int .i64 0] 28))).mono ?_
 rintro e w1 ⟨rfl,hb1⟩
 have s1:=hb1.size
 simp only [World.size_alloc] at s1
 have hr0:=(hb1.block w.heap.size (by simp;omega)).trans ((Below.heap_alloc _ (.cells #[.int .i64 0,.int .i64 0] 28) _ (by simp)).trans (heap_alloc_new w (.cells #[.int .u32 0,.int .u32 0] 106)))
 have hr1:w1.heap[w.heap.size+1]?=some (.cells #[.int .i64 0,.int .i64 0] 28 (0,0)):=(hb1.block _ (by simp)).trans (by simpa using heap_alloc_new (w.alloc (.cells #[.int .u32 0,.int .u32 0] 106)) (.cells #[.int .i64 0,.int .i64 0] 28))
 have hbw:Below w.heap.size w w1:=(((Below.refl _ w).alloc (Nat.le_refl _) _).alloc (by simp) _).trans (hb1.mono (by simp;omega))
 obtain⟨X,hX⟩:∃ X,X=(w1.alloc (.cells #[.int .u32 h2,.int .u32 h3] 106)).alloc (.cells #[.int .i64 er,.int .i64 at_] 28):=⟨_,rfl⟩
 have x0:X.heap[w.heap.size]?=some (.cells #[.int .u32 0,.int .u32 0] 106 (0,0)):=by rw [hX];exact (Below.heap_alloc _ _ _ (by simp;omega)).trans ((Below.heap_alloc _ _ _ (by omega)).trans hr0)
 have x1:X.heap[w.heap.size+1]?=some (.cells #[.int .i64 0,.int .i64 0] 28 (0,0)):=by rw [hX];exact (Below.heap_alloc _ _ _ (by simp;omega)).trans ((Below.heap_alloc _ _ _ (by omega)).trans hr1)
 have hbX:Below w.heap.size w X:=by rw [hX];exact (hbw.alloc (by omega) _).alloc (by simp;omega) _
 obtain⟨c0,c1,f1⟩:=cell_of_two x0
 obtain⟨d0,d1,g1⟩:=cell_of_two x1
 have f0:X.frozen? ⟨w.heap.size,0,none⟩=false:=by simp [World.frozen?,x0]
 have g0:X.frozen? ⟨w.heap.size+1,0,none⟩=false:=by simp [World.frozen?,x1]
 have hz:=set_two_boxes x0 x1 (by omega) (.int .u32 0) (.int .u32 0) (.int .i64 er) (.int .i64 at_)
 have HZ:Hid _:=hz
 have HB:Hid _:=hbX
 clear hz hbX x0 x1 hr0 hr1 hbw hb1 hH
 subst hX
 go_wp2
 go_region
 all_goals
  go_wp2
  refine bodyPost_ret (v:=.tuple #[.agg #[.int .u32 0,.int .u32 0],.slice none 0 0,.agg #[.int .i64 er,.int .i64 at_]]) (by simp [results,Tryz.results62,go_sem,HZ.out.1,HZ.out.2.1,HZ.out.2.2.1,HZ.out.2.2.2]) rfl ⟨rfl,?_⟩
  first
   | exact ((((HB.out.setCell (by simp) _).setCell (by simp) _).setCell (by simp) _).setCell (by simp) _).drew
   | exact (((HB.out.drew.setCell (by simp) _).setCell (by simp) _).setCell (by simp) _).setCell (by simp) _
theorem cells_stay {W W':World} {row:Option Nat} {k B:Nat} {cs:Array Value} {t:TypeId} {fr:Nat×Nat} (h:W.heap[k]?=some (.cells cs t fr)) (hg:W.grownBy W' row) (hr:∀ r,row=some r→B≤r∧∃ o:Obj,W.heap[r]?=some o∧o.isCells=false):W'.heap[k]?=some (.cells cs t fr) :=
 (hg.block k (Array.getElem?_eq_some_iff.1 h).1 (fun e=>by
  obtain⟨_,o,ho,hc⟩:=hr k e.symm
  rw [h] at ho;cases ho;cases hc)).trans h
theorem below_stay {n₀:Nat} {w W W':World} {row:Option Nat} {B:Nat} (h:Below n₀ w W) (hn:n₀≤w.heap.size) (hB:n₀≤B) (hg:W.grownBy W' row) (hr:∀ r,row=some r→B≤r∧∃ o:Obj,W.heap[r]?=some o∧o.isCells=false):Below n₀ w W' :=
 h.grown hg (Nat.le_trans hn h.size) (fun k e=>Nat.le_trans hB (hr k e).1)
theorem heap_alloc_at (w:World) (o:Obj) (k:Nat):(w.alloc o).heap[k]?=if k=w.heap.size then some o else w.heap[k]?:=by
 show (w.heap.push o)[k]?=_
 rw [Array.getElem?_push]
theorem heap_five (w:World) (o0 o1 o2 o3 o4:Obj):(((((w.alloc o0).alloc o1).alloc o2).alloc o3).alloc o4).heap[w.heap.size]?=some o0∧(((((w.alloc o0).alloc o1).alloc o2).alloc o3).alloc o4).heap[w.heap.size+1]?=some o1∧(((((w.alloc o0).alloc o1).alloc o2).alloc o3).alloc o4).heap[w.heap.size+2]?=some o2 ∧
  (((((w.alloc o0).alloc o1).alloc o2).alloc o3).alloc o4).heap[w.heap.size+3]?=some o3∧(((((w.alloc o0).alloc o1).alloc o2).alloc o3).alloc o4).heap[w.heap.size+4]?=some o4:=by
 refine⟨?_,?_,?_,?_,?_⟩
 ·rw [heap_alloc_at,if_neg (by simp only [World.size_alloc];omega),heap_alloc_at,if_neg (by simp only [World.size_alloc];omega),heap_alloc_at,if_neg (by simp only [World.size_alloc];omega),heap_alloc_at,if_neg (by simp only [World.size_alloc];omega),heap_alloc_at,if_pos rfl]
 ·rw [heap_alloc_at,if_neg (by simp only [World.size_alloc];omega),heap_alloc_at,if_neg (by simp only [World.size_alloc];omega),heap_alloc_at,if_neg (by simp only [World.size_alloc];omega),heap_alloc_at,if_pos (by simp)]
 ·rw [heap_alloc_at,if_neg (by simp only [World.size_alloc];omega),heap_alloc_at,if_neg (by simp only [World.size_alloc];omega),heap_alloc_at,if_pos (by simp)]
 ·rw [heap_alloc_at,if_neg (by simp),heap_alloc_at,if_pos (by simp)]
 ·rw [heap_alloc_at,if_pos (by simp)]
theorem stepIn_append {P:Program} (w:World) {l:Nat} {o:Oper} {ops:Array Oper} {a:Act} {K:Act→World→Prop} {Q:Exit→Act→World→Prop} (hgd:o.guard=none) (s x:Operand) (t:TypeId)
  (ho:o.op=.call { callee:=.builtin .append,args:=#[s,x],argTypes:=#[t,t] }) (base:Nat) (e:TypeId) (i:TypeInfo) (z:Value) (size bytes:Nat) (ht:P.underlying t=some (.slice e)) (hi:P.info? e=some i) (hz:i.zero=some z)
  (hsize:i.size=size) (hby:i.bytes=bytes) (hzs:z.cells.size=size) (hsz:0<size) (v:Value) (n:Nat) (xs:List Value) (hs:a.eval s=v) (hown:w.ownsRow base e size v n xs)
  (ad:Addr) (m c:Nat) (news:List Value) (hx:a.eval x=.slice (some ad) m c) (hl:news.length=m * size) (hnews:∀ j u,news[j]?=some u→w.cell? (ad.add j)=some u) (h1:∀ u∈news,u.oneCell'=true)
  (hm:0<m) (h63:n+m≤maxLen) (hbytes:(n+m) * bytes≤140737488355328) (hbase:base≤w.heap.size) (H:Nat) (hH:w.heap.size=H)
  (h:∀ g cap w',w'.ownsRow base e size (.slice (some ⟨g,0,none⟩) (n+m) cap) (n+m) (xs++news)→w.grownBy w' v.ownBlock→(v.ownBlock=some g∨g=H)→g<w'.heap.size→K (a.put o.dst (.slice (some ⟨g,0,none⟩) (n+m) cap)) w') :
  if Region.wanted o (yielded ops a.tmps)=true then Oper.wpIn (Fence.wide.inRound l) 0 P o a w K Q else (∀ f,o.about P w a.eval=some f→(Fence.wide.inRound l).fn f)∧K (a.put o.dst undef) w:=by
 obtain⟨g,cap,w',hr,h2,h3,h4,h5⟩:=run_append_lies (P:=P) w t o.type base e i z size bytes ht hi hz hsize hby hzs hsz v n xs hown ad m c news hl hnews h1 hm h63 hbytes hbase H hH
 rw [if_pos (by simp [Region.wanted,hgd])]
 refine⟨fun _ _=>trivial,?_⟩
 rw [Oper.semAt_eq _ _ _ (fun c hc=>by rw [ho] at hc;cases hc)]
 unfold execOp
 simp only [ho,resolve,invoke,builtin,Sem.run_bind,Sem.run_pure,Result.andThen_ok,List.map_toArray,List.map_cons,List.map_nil,hs,hx,hr]
 exact h g cap w' h2 h3 h4 h5
def ReadI (zs:List Int) (w:World) (H:Nat) (pre:List Nat) (W:World):Prop :=
 (Below w.heap.size w W∧H+5≤W.heap.size)∧W.heap[w.heap.size]?=some (.cells #[.int .u32 0,.int .u32 0] 106 (0,0))∧W.heap[w.heap.size+1]?=some (.cells #[.int .i64 0,.int .i64 0] 28 (0,0)) ∧
 W.heap[H]?=some (.cells #[.int .u32 (nth zs 2),.int .u32 (nth zs 3)] 106 (0,0)) ∧
 (∃ q:Nat,pre++rest zs q=rest zs 5∧stop zs q=stop zs 5∧W.heap[H+3]?=some (.cells #[.int .i64 q] 3 (0,0))) ∧
 ∃ v cs,W.heap[H+2]?=some (.cells #[v] 71 (0,0))∧W.ownsRow (H+5) 54 2 v pre.length cs∧RowO W (H+5) v.ownBlock (pre.map (rawAt zs)) cs
theorem readI_own (zs:List Int) (w:World) (H:Nat) (hH:w.heap.size≤H):OwnFrom (H+5) (ReadI zs w H):=by
 rintro pre W W' row ⟨h1,h2,h3,h4,⟨q,h5,h6,h7⟩,v,cs,h8,h9,h10⟩ hg hr
 have hap:Apartly W (H+5) row:=fun g e=>.inr (hr g e).2
 exact⟨⟨below_stay h1.1 (Nat.le_refl _) (by omega) hg hr,Nat.le_trans h1.2 hg.size⟩,cells_stay h2 hg hr,cells_stay h3 hg hr,cells_stay h4 hg hr,⟨q,h5,h6,cells_stay h7 hg hr⟩,v,cs,cells_stay h8 hg hr,own_apartly h9 hg hap,h10.grown hg hap⟩
theorem readI_next (zs:List Int) (w W w5:World) (H q c:Nat) (pre:List Nat) (v:Value) (cs:List Value) (hwH:w.heap.size+2≤H) (hl5:H+5≤w5.heap.size)
  (hkf:KeepsFrom (H+5) W w5) (hkt:KeptT (fun t=>t=52) W w5) (hbn:Below w.heap.size W w5) (hbel:Below w.heap.size w w5)
  (i0:w5.heap[w.heap.size]?=some (.cells #[.int .u32 0,.int .u32 0] 106 (0,0))) (i1:w5.heap[w.heap.size+1]?=some (.cells #[.int .i64 0,.int .i64 0] 28 (0,0)))
  (iH:w5.heap[H]?=some (.cells #[.int .u32 (nth zs 2),.int .u32 (nth zs 3)] 106 (0,0))) (l5:w5.heap[H+2]?=some (.cells #[v] 71 (0,0))) (n5:w5.heap[H+3]?=some (.cells #[.int .i64 q] 3 (0,0)))
  (hown:w5.ownsRow (H+5) 54 2 v (pre.length+1) cs) (hrow:RowO w5 (H+5) v.ownBlock (pre.map (rawAt zs)++[rawAt zs q]) cs)
  (hG:pre++q :: rest zs (q+c)=rest zs 5) (hS:stop zs (q+c)=stop zs 5) (u:Int) (hu:u=((q+c:Nat):Int)) (o:Obj) :
  KeepsFrom (H+5) W ((w5.setCell ⟨H+3,0,none⟩ (.int .i64 u)).alloc o)∧Kept w.heap.size (fun t=>t=52) W ((w5.setCell ⟨H+3,0,none⟩ (.int .i64 u)).alloc o)∧ReadI zs w H (pre++[q]) ((w5.setCell ⟨H+3,0,none⟩ (.int .i64 u)).alloc o):=by
 subst hu
 have g6:=grown_setCell w5 (H+3) 0 (.int .i64 ((q+c:Nat):Int))
 have n6:(w5.setCell ⟨H+3,0,none⟩ (.int .i64 ((q+c:Nat):Int))).heap[H+3]?=some (.cells #[.int .i64 ((q+c:Nat):Int)] 3 (0,0)):=by simp [World.setCell,Array.getElem?_modify,n5]
 have hkf6:KeepsFrom (H+5) W (w5.setCell ⟨H+3,0,none⟩ (.int .i64 ((q+c:Nat):Int))):=hkf.trans ((KeepsOthers.setCell _ _ _).from _)
 have hkt6:KeptT (fun t=>t=52) W (w5.setCell ⟨H+3,0,none⟩ (.int .i64 ((q+c:Nat):Int))):=hkt.trans (KeptT.setCell n5 (by decide) 0 _)
 have hbn6:=hbn.setCell (p:=⟨H+3,0,none⟩) (by simp;omega) (.int .i64 ((q+c:Nat):Int))
 have hbel6:=hbel.setCell (p:=⟨H+3,0,none⟩) (by simp;omega) (.int .i64 ((q+c:Nat):Int))
 have hown6:=own_apartly hown g6 (fun g e=>.inl (by cases e;omega))
 have hrow6:=hrow.grown g6 (fun g e=>.inl (by cases e;omega))
 have keep:∀ k o,k≠H+3→w5.heap[k]?=some o→(w5.setCell ⟨H+3,0,none⟩ (.int .i64 ((q+c:Nat):Int))).heap[k]?=some o:=fun k o hk h=>(Below.heap_setCell _ _ _ _ (by simpa using hk)).trans h
 have i0':=keep _ _ (by omega) i0
 have i1':=keep _ _ (by omega) i1
 have iH':=keep _ _ (by omega) iH
 have l6:=keep _ _ (by omega) l5
 have s6:H+5≤(w5.setCell ⟨H+3,0,none⟩ (.int .i64 ((q+c:Nat):Int))).heap.size:=Nat.le_trans hl5 g6.size
 clear i0 i1 iH l5 n5 hown hrow keep hkf hkt hbn hbel g6
 generalize w5.setCell ⟨H+3,0,none⟩ (.int .i64 ((q+c:Nat):Int))=X at *
 have hX:Below X.heap.size X (X.alloc o):=(Below.refl _ X).alloc (Nat.le_refl _) o
 refine⟨hkf6.trans (KeepsFrom.of_below hX),⟨hbn6.trans (hX.mono (by omega)),hkt6.trans (KeptT.of_below hX)⟩,?_⟩
 refine OwnFrom.below (readI_own zs w H (by omega)) ?_ hX
 refine⟨⟨hbel6,s6⟩,i0',i1',iH',⟨q+c,by simpa using hG,hS,n6⟩,v,cs,l6,by simpa using hown6,by simpa using hrow6⟩
theorem rest_next {zs:List Int} {pre:List Nat} {q p:Nat} (h:pre++rest zs q=rest zs 5) (hp:pre++[p] <+: rest zs 5):q=p∧p<zs.length∧badB zs p=false:=by
 obtain⟨s,hs⟩:=hp
 rw [← h,List.append_assoc] at hs
 have hs':=List.append_cancel_left hs
 by_cases hq:q<zs.length
 ·cases hb:badB zs q with
  | true=>rw [rest_bad zs q hq hb] at hs';simp at hs'
  | false =>
   rw [rest_go zs q hq hb] at hs'
   simp at hs'
   obtain⟨rfl,_⟩:=hs'
   exact⟨rfl,hq,hb⟩
 ·rw [rest_end zs q (by omega)] at hs';simp at hs'
theorem rest_none {zs:List Int} {q:Nat} (h:rest zs q=[]):stop zs q=q:=by
 by_cases hq:q<zs.length
 ·cases hb:badB zs q with
  | true=>exact stop_bad zs q hq hb
  | false=>rw [rest_go zs q hq hb] at h;simp at h
 ·exact stop_end zs q (by omega)
set_option maxRecDepth 100000 in
set_option maxHeartbeats 4000000 in
theorem read_body (a : Option Addr) (n cap : Nat) (zs : List Int) (w : World) (ha : View .u32 w a zs) (hl : zs.length = n) (hw : Within 4294967296 zs) (hn : n ≤ 1048576) (hcp : n ≤ cap) (he : headE zs 0 = (0, 0)) :
    Calls Tryz.prog 62 #[.slice a n cap] w fun e w' => Below w.heap.size w w' ∧
      ((stop zs 5 < n ∧ e = .returned (.tuple #[.agg #[.int .u32 0, .int .u32 0], .slice none 0 0, .agg #[.int .i64 25, .int .i64 (stop zs 5)]])) ∨
       (¬ stop zs 5 < n ∧ ∃ ax cx m, e = .returned (.tuple #[.agg #[.int .u32 (nth zs 2), .int .u32 (nth zs 3)], .slice ax m cx, .agg #[.int .i64 0, .int .i64 0]]) ∧ (readR zs).length = m ∧ OwnR w' w.heap.size ax 0 (readR zs))) := by
  have b1 : decide ((1048576 : Int) < (n : Int)) = false := decide_eq_false (by omega)
  obtain ⟨i0, hi, hz0, hz1, hz2⟩ := info_parts RefRead.info
  have HL : Hid (zs.length = n) := hl
  have hH := fun wx (hb : Below w.heap.size w wx) => readHead_any a n cap zs wx (ha.below hb) hl hw hn
  have e2 : ∀ i, headAt zs i = nth zs i := fun i => by unfold headAt; rw [he, if_pos rfl]
  rw [he, e2, e2] at hH
  clear e2 he hl
  refine (callsIn_wide (n := 0)).1 ?_
  refine callsIn_of_wp_marks Tryz.func62 rfl trivial ?_ rfl
  simp only [Tryz.ntmps62, List.size_toArray, List.length_cons, List.length_nil, Nat.reduceAdd, Nat.reduceSub, Array.replicate_succ, Array.replicate_zero, List.push_toArray, List.append_toArray, List.nil_append, List.cons_append]
  gi_wp2_with fail
  refine ⟨trivial, rfl, (callsIn_wide.2 (hH _ (((Below.refl _ w).alloc (Nat.le_refl _) (.cells #[.int .u32 0, .int .u32 0] 106)).alloc (by simp) (.cells #[.int .i64 0, .int .i64 0] 28)))).mono ?_⟩
  rintro e w1 ⟨rfl, hb1⟩
  have s1 := hb1.size
  simp only [World.size_alloc] at s1
  have hr0 := (hb1.block w.heap.size (by simp; omega)).trans ((Below.heap_alloc _ (.cells #[.int .i64 0, .int .i64 0] 28) _ (by simp)).trans (heap_alloc_new w (.cells #[.int .u32 0, .int .u32 0] 106)))
  have hr1 : w1.heap[w.heap.size + 1]? = some (.cells #[.int .i64 0, .int .i64 0] 28 (0, 0)) := (hb1.block _ (by simp)).trans (by simpa using heap_alloc_new (w.alloc (.cells #[.int .u32 0, .int .u32 0] 106)) (.cells #[.int .i64 0, .int .i64 0] 28))
  have hbw : Below w.heap.size w w1 := (((Below.refl _ w).alloc (Nat.le_refl _) _).alloc (by simp) _).trans (hb1.mono (by simp; omega))
  clear hb1 hH
  gi_wp2_with fail
  refine ⟨trivial, rfl, (callsIn_wide.2 (parts_any a n cap _)).mono ?_⟩
  rintro e w2 ⟨rfl, rfl⟩
  obtain ⟨wL, hwL⟩ : ∃ X, X = (((((w1.alloc (.cells #[.int .u32 (nth zs 2), .int .u32 (nth zs 3)] 106)).alloc (.cells #[.int .i64 0, .int .i64 0] 28)).alloc (.cells #[.slice none 0 0] 71)).alloc (.cells #[.int .i64 5] 3)).alloc (.cells #[.slice a n cap] 52)) := ⟨_, rfl⟩
  have hsL : wL.heap.size = w1.heap.size + 5 := by rw [hwL]; simp
  have hbL1 : Below w1.heap.size w1 wL := by rw [hwL]; exact ((((((Below.refl _ w1).alloc (Nat.le_refl _) _).alloc (by simp) _).alloc (by simp; omega) _).alloc (by simp; omega) _).alloc (by simp; omega) _)
  have hbL : Below w.heap.size w wL := hbw.trans (hbL1.mono hbw.size)
  have hLh : wL.heap[w1.heap.size]? = some (.cells #[.int .u32 (nth zs 2), .int .u32 (nth zs 3)] 106 (0, 0)) := by rw [hwL]; exact (heap_five w1 _ _ _ _ _).1
  have hLl : wL.heap[w1.heap.size + 2]? = some (.cells #[.slice none 0 0] 71 (0, 0)) := by rw [hwL]; exact (heap_five w1 _ _ _ _ _).2.2.1
  have hLn : wL.heap[w1.heap.size + 3]? = some (.cells #[.int .i64 5] 3 (0, 0)) := by rw [hwL]; exact (heap_five w1 _ _ _ _ _).2.2.2.1
  have hLb : wL.heap[w1.heap.size + 4]? = some (.cells #[.slice a n cap] 52 (0, 0)) := by rw [hwL]; exact (heap_five w1 _ _ _ _ _).2.2.2.2
  have hL0 := (hbL1.block _ (by omega)).trans hr0
  have hL1 := (hbL1.block _ (by omega)).trans hr1
  have hmix : Tryz.prog.follows .mixedOrders = true := by kernel_rfl
  gi_wp2_with fail
  rw [← hwL]
  clear hwL hbL1 hr0 hr1 hbw
  generalize hH : w1.heap.size = H at *
  simp only [Nat.add_assoc, Nat.reduceAdd]
  refine wp_tells rfl (enters_of Tryz.func141 (by kernel_rfl) rfl) (parts_tells a n cap zs w ha HL.out hw (by omega) hcp (fun t => t = 52) rfl wL (H + 4) hbL hLb) (by omega) (fun _ => rfl)
    (ReadI zs w H) (fun _ _ _ => False) (by rw [hsL]; exact readI_own zs w H (by omega)) (fun _ _ _ _ _ hs _ _ => hs)
    ⟨⟨hbL, by omega⟩, hL0, hL1, hLh, ⟨5, rfl, rfl, hLn⟩, _, [], hLl, World.ownsRow_nil _ _ _ _, rowO_nil⟩
    (fun pre x a' W => ∃ Bx, H + 5 ≤ Bx ∧ W.heap[Bx]? = some (.cells #[.int .u16 (opI zs x), .slice (further a cap (x + 1)) (x + cntN zs x - (x + 1)) (cap - (x + 1))] 54 (0, 0)) ∧ (∃ v, W.heap[H + 2]? = some (.cells #[v] 71 (0, 0)) ∧ v.ownBlock ≠ some Bx) ∧ pre ++ [x] <+: rest zs 5 ∧ a' = { tmps := #[.slice a n cap, undef, .pointer (some ⟨w.heap.size, 0, none⟩), .slice none 0 0, .pointer (some ⟨w.heap.size + 1, 0, none⟩), .pointer (some ⟨H, 0, none⟩), .pointer (some ⟨H + 1, 0, none⟩), .pointer (some ⟨H + 2, 0, none⟩), .pointer (some ⟨H + 3, 0, none⟩), .int .i64 x, .pointer (some ⟨Bx, 0, none⟩), .slice a n cap, .int .i64 n, .bool false, undef, undef, .tuple #[.agg #[.int .u32 (nth zs 2), .int .u32 (nth zs 3)], .agg #[.int .i64 0, .int .i64 0]], .slice a n cap, .tuple #[.agg #[.int .u32 (nth zs 2), .int .u32 (nth zs 3)], .agg #[.int .i64 0, .int .i64 0]], .agg #[.int .u32 (nth zs 2), .int .u32 (nth zs 3)], .agg #[.int .i64 0, .int .i64 0], .pointer (some ⟨H + 1, 0, none⟩), .int .i64 0, .bool false, undef, undef, .slice a n cap, .func (.func 141) #[] #[.pointer (some ⟨H + 4, 0, none⟩)], .int .i64 x, .agg #[.int .u16 (opI zs x), .slice (further a cap (x + 1)) (x + cntN zs x - (x + 1)) (cap - (x + 1))], undef, undef, undef, undef, undef, undef, undef, undef, undef, undef, undef, undef, undef, undef, undef, undef, undef, undef, undef], defers := [] })
    ?hAx ?assign ?body ?done ?stop
  case hAx =>
    rintro pre x a' s W W' row ⟨Bx, h1, h2, ⟨v, h4, h5⟩, h3⟩ hg hr
    exact ⟨Bx, h1, cells_stay h2 hg hr, ⟨v, cells_stay h4 hg hr, h5⟩, h3⟩
  case assign =>
    rintro l pre x W K hI hV hK
    have hbel : ∀ o, Below W.heap.size W (W.alloc o) := fun o => (Below.refl _ W).alloc (Nat.le_refl _) o
    have hlt := hI.1.2
    have hrowne : ∀ o, ∃ v, (W.alloc o).heap[H + 2]? = some (.cells #[v] 71 (0, 0)) ∧ v.ownBlock ≠ some W.heap.size := fun o => by
      obtain ⟨_, _, _, _, _, v, cs, h8, h9, _⟩ := hI
      exact ⟨v, (Below.heap_alloc W _ _ (by omega)).trans h8, fun e => by have := (h9.lt _ e).2; omega⟩
    simp only [partV]
    gi_wp2
    exact hK _ _ (KeepsFrom.of_below (hbel _)) (Kept.of_below (hbel _) (by omega)) (OwnFrom.below (readI_own zs w H (by omega)) hI (hbel _)) ⟨W.heap.size, hlt, heap_alloc_new W _, hrowne _, hV, rfl⟩
  case body =>
    rintro l pre x a' W hl ⟨r, hr⟩ ⟨⟨h1, hlt⟩, h2, h3, h4, ⟨q, h5, h6, h7⟩, v, cs, h8, h9, h10⟩ ⟨Bx, hBx, hx, ⟨v', h8', hne'⟩, hV, rfl⟩
    obtain ⟨rfl, hxl, hbad⟩ := rest_next h5 hV
    have hcp0 := cnt_pos hbad
    have hcf := cnt_fits hbad
    rw [HL.out] at hxl hcf
    have HG : Hid (rest zs q = q :: rest zs (q + cntN zs q)) := rest_go zs q (by rw [HL.out]; exact hxl) hbad
    have HG2 : Hid (stop zs q = stop zs (q + cntN zs q)) := stop_go zs q (by rw [HL.out]; exact hxl) hbad
    obtain ⟨ax, cx, rfl⟩ := own_shape2 h9
    obtain rfl : v' = .slice ax pre.length cx := by rw [h8] at h8'; simpa using h8'.symm
    clear h8'
    have hxlt : Bx < W.heap.size := (Array.getElem?_eq_some_iff.1 hx).1
    have hav := ha.below h1
    obtain ⟨b, off, rfl, hbs, _⟩ := hav q (by rw [HL.out]; exact hxl)
    have hms : ∃ x, further (some ⟨b, off, none⟩) cap (q + 1) = some x ∧ View .u32 W (some x) (midL zs (q + 1) (cntN zs q - 1)) := by
      unfold further
      by_cases hc : cap = q + 1
      · rw [if_pos hc]
        refine ⟨_, rfl, fun j hj => ?_⟩
        rw [midL_len zs (q + 1) _ (by rw [HL.out]; omega)] at hj
        omega
      · rw [if_neg hc]
        refine ⟨_, rfl, fun j hj => ?_⟩
        have hj' := hj
        rw [midL_len zs (q + 1) _ (by rw [HL.out]; omega)] at hj'
        obtain ⟨b', off', e', _, hcj⟩ := hav (q + 1 + j) (by rw [HL.out]; omega)
        simp at e'
        obtain ⟨rfl, rfl⟩ := e'
        refine ⟨b, off + (q + 1), rfl, hbs, ?_⟩
        rw [show nth (midL zs (q + 1) (cntN zs q - 1)) j = nth zs (q + 1 + j) by simp [nth, midL, List.getD, List.getElem?_drop, hj'], Nat.add_assoc]
        exact hcj
    obtain ⟨y, hy, hvy⟩ := hms
    have HML : Hid ((midL zs (q + 1) (cntN zs q - 1)).length = cntN zs q - 1) := midL_len zs (q + 1) _ (by rw [HL.out]; omega)
    have HRA : Hid (rawAt zs q = (opI zs q, midL zs (q + 1) (cntN zs q - 1))) := rfl
    rw [hy, show q + cntN zs q - (q + 1) = cntN zs q - 1 by omega] at hx ⊢
    have HP : Hid (pre ++ rest zs q = rest zs 5) := h5
    have HST : Hid (stop zs q = stop zs 5) := h6
    have hA := fun wx (hb : Below W.heap.size W wx) => apart_any (opI zs q) y (cntN zs q - 1) (cap - (q + 1)) (midL zs (q + 1) (cntN zs q - 1)) wx (hvy.below hb) HML.out (by omega)
    have hpl : pre.length ≤ n := by
      have h11 := rest_len zs 5
      have h12 : pre.length ≤ (rest zs 5).length := by rw [← h5]; simp
      rw [HL.out] at h11; omega
    clear hy hvy hav hbad hV h5 h6
    generalize cntN zs q = c at *
    generalize midL zs (q + 1) (c - 1) = ms at *
    generalize opI zs q = op at *
    have k8 : W.cell? ⟨H + 2, 0, none⟩ = some (.slice ax pre.length cx) := by simp [World.cell?, h8]
    obtain ⟨kx0, kx1, _⟩ := cell_of_two hx
    gi_wp2_with fail
    have hl2 : H + 2 < W.heap.size := by omega
    have f8 : W.frozen? ⟨H + 2, 0, none⟩ = false := by simp [World.frozen?, h8]
    have hvo : ∀ b, Value.ownBlock (.slice ax pre.length cx) = some b → H + 5 ≤ b := fun b hb => (h9.lt b hb).1
    refine wpIn_region_any hmix ?_
    change wpAnyIn _ _ _ _ _ _ _ _ _ (World.drew _)
    refine wpAnyIn_ready (rs := [0, 1]) (by kernel_rfl) (by simp) ?_
    refine AllReadyIn.cons rfl (fun K hK => ?_) ?_
    · go_simp
      refine hK _ _ ?_
      clear hK K
      refine wpAnyIn_ready (rs := [1]) (by kernel_rfl) (by simp) ?_
      refine AllReadyIn.cons rfl (fun K hK => ?_) ?_
      · go_simp
        refine hK _ _ ?_
        clear hK K
        refine wpAnyIn_ready (rs := [2]) (by kernel_rfl) (by simp) ?_
        refine AllReadyIn.cons rfl (fun K hK => ?_) ?_
        · go_simp
          refine ⟨trivial, rfl, (CallsIn.inRound l (callsIn_wide.2 (hA _ (Below.refl _ _).drew))).mono ?_⟩
          rintro e w3 ⟨g3, cx3, rfl, hown3, hb3⟩
          dsimp only
          refine hK _ _ ?_
          clear hK K
          have e8 := (hb3.cell (p := ⟨H + 2, 0, none⟩) (by exact hl2)).trans k8
          have hb3' : Below W.heap.size W w3 := ((Below.refl W.heap.size W).drew).trans hb3
          have s3 := hb3'.size
          have hl3 : H + 2 < w3.heap.size := by omega
          refine wpAnyIn_ready (rs := [3]) (by kernel_rfl) (by simp) ?_
          refine AllReadyIn.cons rfl (fun K hK => ?_) ?_
          · go_simp
            refine hK _ _ ?_
            clear hK K
            refine wpAnyIn_ready (rs := [4]) (by kernel_rfl) (by simp) ?_
            refine AllReadyIn.cons rfl (fun K hK => ?_) ?_
            · refine (stepIn_append _ (by rfl) _ _ _ (by rfl) (H + 5) 54 i0 (.agg #[.int .u16 0, .slice none 0 0]) 2 32 Tryz.underlying71 hi hz0 hz1 hz2 rfl (by omega) (.slice ax pre.length cx) pre.length cs (by rfl) ((own_below h9 hb3').alloc _) ⟨w3.heap.size, 0, none⟩ 1 1 [.int .u16 op, .slice (some ⟨g3, 0, none⟩) (c - 1) cx3] (by rfl) (by rfl) (World.news_of_block (cs := #[.int .u16 op, .slice (some ⟨g3, 0, none⟩) (c - 1) cx3]) (t := 54) (fr := (0, 0)) (heap_alloc_new w3 _)) (by simp [Value.oneCell']) (by omega) (by unfold maxLen; omega) (by omega) (by simp; omega) (w3.heap.size + 1) (by simp) ?_)
              intro g4 cap4 w4 hown4 hgrow4 hat4 hlt4
              refine hK _ _ ?_
              clear hK K
              have hb4 := (hgrow4.block (H + 2) (by simp; omega) (fun e => by have := hvo _ e.symm; omega)).trans ((Below.heap_alloc w3 _ _ (by omega)).trans ((hb3'.block _ hl2).trans h8))
              have e10 : w4.cell? ⟨H + 2, 0, none⟩ = some (.slice ax pre.length cx) := by simp [World.cell?, hb4]
              have e11 : w4.frozen? ⟨H + 2, 0, none⟩ = false := by simp [World.frozen?, hb4]
              refine wpAnyIn_ready (rs := [5]) (by kernel_rfl) (by simp) ?_
              refine AllReadyIn.cons rfl (fun K hK => ?_) ?_
              · go_simp
                refine hK _ _ ?_
                clear hK K
                refine wpAnyIn_done (by kernel_rfl) ?_ _
                obtain ⟨w5, hw5⟩ : ∃ X, X = w4.setCell ⟨H + 2, 0, none⟩ (.slice (some ⟨g4, 0, none⟩) (pre.length + 1) cap4) := ⟨_, rfl⟩
                have hgs : w4.grownBy w5 (some (H + 2)) := by rw [hw5]; exact grown_setCell w4 (H + 2) 0 _
                have s4 := hgrow4.size
                simp only [World.size_alloc] at s4
                have s5 := hgs.size
                have keep : ∀ k o, W.heap[k]? = some o → Value.ownBlock (.slice ax pre.length cx) ≠ some k → k ≠ H + 2 → w5.heap[k]? = some o := fun k o hk h0 h2 => by
                  have hkl := (Array.getElem?_eq_some_iff.1 hk).1
                  exact (hgs.block k (by omega) (fun e => h2 (by cases e; rfl))).trans ((hgrow4.block k (by simp; omega) (fun e => h0 e.symm)).trans ((Below.heap_alloc w3 _ _ (by omega)).trans ((hb3'.block _ hkl).trans hk)))
                have keepl : ∀ k o, k < H + 5 → W.heap[k]? = some o → k ≠ H + 2 → w5.heap[k]? = some o := fun k o hk5 hk h2 => keep k o hk (fun e => by have := hvo _ e; omega) h2
                have x5 := keep Bx _ hx hne' (by omega)
                have n5 := keepl (H + 3) _ (by omega) h7 (by omega)
                have l5 : w5.heap[H + 2]? = some (.cells #[.slice (some ⟨g4, 0, none⟩) (pre.length + 1) cap4] 71 (0, 0)) := by rw [hw5]; simp [World.setCell, Array.getElem?_modify, hb4]
                have hown5 : w5.ownsRow (H + 5) 54 2 (.slice (some ⟨g4, 0, none⟩) (pre.length + 1) cap4) (pre.length + 1) (cs ++ [.int .u16 op, .slice (some ⟨g3, 0, none⟩) (c - 1) cx3]) := own_apartly hown4 hgs (fun g e => .inl (by cases e; omega))
                have hrow5 := (RowO.push (op := op) h10 (hb3'.alloc s3 _) ((own_base hown3 (by simp)).alloc _) HML.out (fun b e => (h9.lt b e).2) (by omega) hgrow4 (by simpa using hat4)).grown hgs (fun g e => .inl (by cases e; omega))
                have hbel5 : Below w.heap.size w w5 := ((h1.trans ((hb3'.alloc s3 _).mono h1.size)).grown hgrow4 (by simp; omega) (fun k hk => by have := hvo k hk; omega)).grown hgs (by omega) (fun k e => by cases e; omega)
                have hkf5 : KeepsFrom (H + 5) W w5 := ((KeepsFrom.of_below (hb3'.alloc s3 _)).trans ((others_row ((own_below h9 hb3').alloc _) hgrow4).from _)).trans (by rw [hw5]; exact (KeepsOthers.setCell _ _ _).from _)
                have hkt5 : KeptT (fun t => t = 52) W w5 := ((KeptT.of_below (hb3'.alloc s3 _)).trans (KeptT.row ((own_below h9 hb3').alloc _) hgrow4 (by decide))).trans (by rw [hw5]; exact KeptT.setCell hb4 (by decide) 0 _)
                have hbn5 : Below w.heap.size W w5 := (((hb3'.alloc s3 _).mono h1.size).grown hgrow4 (by simp; omega) (fun k hk => by have := hvo k hk; omega)).grown hgs (by omega) (fun k e => by cases e; omega)
                have i0' := keepl w.heap.size _ (by omega) h2 (by omega)
                have i1' := keepl (w.heap.size + 1) _ (by omega) h3 (by omega)
                have iH' := keepl H _ (by omega) h4 (by omega)
                have hl5 : H + 5 ≤ w5.heap.size := by omega
                obtain ⟨z0, z1, _⟩ := cell_of_two x5
                have y0 : w5.cell? ⟨H + 3, 0, none⟩ = some (.int .i64 q) := by simp [World.cell?, n5]
                have y1 : w5.frozen? ⟨H + 3, 0, none⟩ = false := by simp [World.frozen?, n5]
                have hl53 : H + 3 < w5.heap.size := by omega
                rw [← hw5]
                clear hw5 hgs keep keepl hown4 hgrow4 hat4 hlt4 hb4 e8 e10 e11 hown3 hb3 hb3' s3 s4 s5 x5 hx kx0 kx1 k8 f8 h9 h10 hvo h8 h7 hA hl3 h2 h3 h4
                gi_wp2_with fail
                refine ⟨trivial, rfl, (CallsIn.inRound l (callsIn_wide.2 (wordsOf_any op (some y) (c - 1) (cap - (q + 1)) _ (by omega)))).mono ?_⟩
                rintro e w6 ⟨rfl, rfl⟩
                gi_wp2_with fail
                have fin := readI_next zs w W w5 H q c pre _ _ (by omega) hl5 hkf5 hkt5 hbn5 hbel5 i0' i1' iH' l5 n5 hown5 (by rw [HRA.out]; exact hrow5) (by rw [← HG.out]; exact HP.out) (by rw [← HG2.out]; exact HST.out) ((q : Int) + (((c - 1 : Nat) : Int) + 1)) (by omega) (.cells #[.int .u16 op, .slice (some y) (c - 1) (cap - (q + 1))] 54)
                rw [← hsL] at fin
                exact fin
              exact AllReadyIn.nil
            exact AllReadyIn.nil
          exact AllReadyIn.nil
        exact AllReadyIn.nil
      exact AllReadyIn.nil
    refine AllReadyIn.cons rfl (fun K hK => ?_) ?_
    · go_simp
      refine hK _ _ ?_
      clear hK K
      refine wpAnyIn_ready (rs := [0, 2]) (by kernel_rfl) (by simp) ?_
      refine AllReadyIn.cons rfl (fun K hK => ?_) ?_
      · go_simp
        refine hK _ _ ?_
        clear hK K
        refine wpAnyIn_ready (rs := [2]) (by kernel_rfl) (by simp) ?_
        refine AllReadyIn.cons rfl (fun K hK => ?_) ?_
        · go_simp
          refine ⟨trivial, rfl, (CallsIn.inRound l (callsIn_wide.2 (hA _ (Below.refl _ _).drew))).mono ?_⟩
          rintro e w3 ⟨g3, cx3, rfl, hown3, hb3⟩
          dsimp only
          refine hK _ _ ?_
          clear hK K
          have e8 := (hb3.cell (p := ⟨H + 2, 0, none⟩) (by exact hl2)).trans k8
          have hb3' : Below W.heap.size W w3 := ((Below.refl W.heap.size W).drew).trans hb3
          have s3 := hb3'.size
          have hl3 : H + 2 < w3.heap.size := by omega
          refine wpAnyIn_ready (rs := [3]) (by kernel_rfl) (by simp) ?_
          refine AllReadyIn.cons rfl (fun K hK => ?_) ?_
          · go_simp
            refine hK _ _ ?_
            clear hK K
            refine wpAnyIn_ready (rs := [4]) (by kernel_rfl) (by simp) ?_
            refine AllReadyIn.cons rfl (fun K hK => ?_) ?_
            · refine (stepIn_append _ (by rfl) _ _ _ (by rfl) (H + 5) 54 i0 (.agg #[.int .u16 0, .slice none 0 0]) 2 32 Tryz.underlying71 hi hz0 hz1 hz2 rfl (by omega) (.slice ax pre.length cx) pre.length cs (by rfl) ((own_below h9 hb3').alloc _) ⟨w3.heap.size, 0, none⟩ 1 1 [.int .u16 op, .slice (some ⟨g3, 0, none⟩) (c - 1) cx3] (by rfl) (by rfl) (World.news_of_block (cs := #[.int .u16 op, .slice (some ⟨g3, 0, none⟩) (c - 1) cx3]) (t := 54) (fr := (0, 0)) (heap_alloc_new w3 _)) (by simp [Value.oneCell']) (by omega) (by unfold maxLen; omega) (by omega) (by simp; omega) (w3.heap.size + 1) (by simp) ?_)
              intro g4 cap4 w4 hown4 hgrow4 hat4 hlt4
              refine hK _ _ ?_
              clear hK K
              have hb4 := (hgrow4.block (H + 2) (by simp; omega) (fun e => by have := hvo _ e.symm; omega)).trans ((Below.heap_alloc w3 _ _ (by omega)).trans ((hb3'.block _ hl2).trans h8))
              have e10 : w4.cell? ⟨H + 2, 0, none⟩ = some (.slice ax pre.length cx) := by simp [World.cell?, hb4]
              have e11 : w4.frozen? ⟨H + 2, 0, none⟩ = false := by simp [World.frozen?, hb4]
              refine wpAnyIn_ready (rs := [5]) (by kernel_rfl) (by simp) ?_
              refine AllReadyIn.cons rfl (fun K hK => ?_) ?_
              · go_simp
                refine hK _ _ ?_
                clear hK K
                refine wpAnyIn_done (by kernel_rfl) ?_ _
                obtain ⟨w5, hw5⟩ : ∃ X, X = w4.setCell ⟨H + 2, 0, none⟩ (.slice (some ⟨g4, 0, none⟩) (pre.length + 1) cap4) := ⟨_, rfl⟩
                have hgs : w4.grownBy w5 (some (H + 2)) := by rw [hw5]; exact grown_setCell w4 (H + 2) 0 _
                have s4 := hgrow4.size
                simp only [World.size_alloc] at s4
                have s5 := hgs.size
                have keep : ∀ k o, W.heap[k]? = some o → Value.ownBlock (.slice ax pre.length cx) ≠ some k → k ≠ H + 2 → w5.heap[k]? = some o := fun k o hk h0 h2 => by
                  have hkl := (Array.getElem?_eq_some_iff.1 hk).1
                  exact (hgs.block k (by omega) (fun e => h2 (by cases e; rfl))).trans ((hgrow4.block k (by simp; omega) (fun e => h0 e.symm)).trans ((Below.heap_alloc w3 _ _ (by omega)).trans ((hb3'.block _ hkl).trans hk)))
                have keepl : ∀ k o, k < H + 5 → W.heap[k]? = some o → k ≠ H + 2 → w5.heap[k]? = some o := fun k o hk5 hk h2 => keep k o hk (fun e => by have := hvo _ e; omega) h2
                have x5 := keep Bx _ hx hne' (by omega)
                have n5 := keepl (H + 3) _ (by omega) h7 (by omega)
                have l5 : w5.heap[H + 2]? = some (.cells #[.slice (some ⟨g4, 0, none⟩) (pre.length + 1) cap4] 71 (0, 0)) := by rw [hw5]; simp [World.setCell, Array.getElem?_modify, hb4]
                have hown5 : w5.ownsRow (H + 5) 54 2 (.slice (some ⟨g4, 0, none⟩) (pre.length + 1) cap4) (pre.length + 1) (cs ++ [.int .u16 op, .slice (some ⟨g3, 0, none⟩) (c - 1) cx3]) := own_apartly hown4 hgs (fun g e => .inl (by cases e; omega))
                have hrow5 := (RowO.push (op := op) h10 (hb3'.alloc s3 _) ((own_base hown3 (by simp)).alloc _) HML.out (fun b e => (h9.lt b e).2) (by omega) hgrow4 (by simpa using hat4)).grown hgs (fun g e => .inl (by cases e; omega))
                have hbel5 : Below w.heap.size w w5 := ((h1.trans ((hb3'.alloc s3 _).mono h1.size)).grown hgrow4 (by simp; omega) (fun k hk => by have := hvo k hk; omega)).grown hgs (by omega) (fun k e => by cases e; omega)
                have hkf5 : KeepsFrom (H + 5) W w5 := ((KeepsFrom.of_below (hb3'.alloc s3 _)).trans ((others_row ((own_below h9 hb3').alloc _) hgrow4).from _)).trans (by rw [hw5]; exact (KeepsOthers.setCell _ _ _).from _)
                have hkt5 : KeptT (fun t => t = 52) W w5 := ((KeptT.of_below (hb3'.alloc s3 _)).trans (KeptT.row ((own_below h9 hb3').alloc _) hgrow4 (by decide))).trans (by rw [hw5]; exact KeptT.setCell hb4 (by decide) 0 _)
                have hbn5 : Below w.heap.size W w5 := (((hb3'.alloc s3 _).mono h1.size).grown hgrow4 (by simp; omega) (fun k hk => by have := hvo k hk; omega)).grown hgs (by omega) (fun k e => by cases e; omega)
                have i0' := keepl w.heap.size _ (by omega) h2 (by omega)
                have i1' := keepl (w.heap.size + 1) _ (by omega) h3 (by omega)
                have iH' := keepl H _ (by omega) h4 (by omega)
                have hl5 : H + 5 ≤ w5.heap.size := by omega
                obtain ⟨z0, z1, _⟩ := cell_of_two x5
                have y0 : w5.cell? ⟨H + 3, 0, none⟩ = some (.int .i64 q) := by simp [World.cell?, n5]
                have y1 : w5.frozen? ⟨H + 3, 0, none⟩ = false := by simp [World.frozen?, n5]
                have hl53 : H + 3 < w5.heap.size := by omega
                rw [← hw5]
                clear hw5 hgs keep keepl hown4 hgrow4 hat4 hlt4 hb4 e8 e10 e11 hown3 hb3 hb3' s3 s4 s5 x5 hx kx0 kx1 k8 f8 h9 h10 hvo h8 h7 hA hl3 h2 h3 h4
                gi_wp2_with fail
                refine ⟨trivial, rfl, (CallsIn.inRound l (callsIn_wide.2 (wordsOf_any op (some y) (c - 1) (cap - (q + 1)) _ (by omega)))).mono ?_⟩
                rintro e w6 ⟨rfl, rfl⟩
                gi_wp2_with fail
                have fin := readI_next zs w W w5 H q c pre _ _ (by omega) hl5 hkf5 hkt5 hbn5 hbel5 i0' i1' iH' l5 n5 hown5 (by rw [HRA.out]; exact hrow5) (by rw [← HG.out]; exact HP.out) (by rw [← HG2.out]; exact HST.out) ((q : Int) + (((c - 1 : Nat) : Int) + 1)) (by omega) (.cells #[.int .u16 op, .slice (some y) (c - 1) (cap - (q + 1))] 54)
                rw [← hsL] at fin
                exact fin
              exact AllReadyIn.nil
            exact AllReadyIn.nil
          exact AllReadyIn.nil
        exact AllReadyIn.nil
      refine AllReadyIn.cons rfl (fun K hK => ?_) ?_
      · go_simp
        refine ⟨trivial, rfl, (CallsIn.inRound l (callsIn_wide.2 (hA _ (Below.refl _ _).drew))).mono ?_⟩
        rintro e w3 ⟨g3, cx3, rfl, hown3, hb3⟩
        dsimp only
        refine hK _ _ ?_
        clear hK K
        have e8 := (hb3.cell (p := ⟨H + 2, 0, none⟩) (by exact hl2)).trans k8
        have hb3' : Below W.heap.size W w3 := ((Below.refl W.heap.size W).drew).trans hb3
        have s3 := hb3'.size
        have hl3 : H + 2 < w3.heap.size := by omega
        refine wpAnyIn_ready (rs := [0, 3]) (by kernel_rfl) (by simp) ?_
        refine AllReadyIn.cons rfl (fun K hK => ?_) ?_
        · go_simp
          refine hK _ _ ?_
          clear hK K
          refine wpAnyIn_ready (rs := [3]) (by kernel_rfl) (by simp) ?_
          refine AllReadyIn.cons rfl (fun K hK => ?_) ?_
          · go_simp
            refine hK _ _ ?_
            clear hK K
            refine wpAnyIn_ready (rs := [4]) (by kernel_rfl) (by simp) ?_
            refine AllReadyIn.cons rfl (fun K hK => ?_) ?_
            · refine (stepIn_append _ (by rfl) _ _ _ (by rfl) (H + 5) 54 i0 (.agg #[.int .u16 0, .slice none 0 0]) 2 32 Tryz.underlying71 hi hz0 hz1 hz2 rfl (by omega) (.slice ax pre.length cx) pre.length cs (by rfl) ((own_below h9 hb3').alloc _) ⟨w3.heap.size, 0, none⟩ 1 1 [.int .u16 op, .slice (some ⟨g3, 0, none⟩) (c - 1) cx3] (by rfl) (by rfl) (World.news_of_block (cs := #[.int .u16 op, .slice (some ⟨g3, 0, none⟩) (c - 1) cx3]) (t := 54) (fr := (0, 0)) (heap_alloc_new w3 _)) (by simp [Value.oneCell']) (by omega) (by unfold maxLen; omega) (by omega) (by simp; omega) (w3.heap.size + 1) (by simp) ?_)
              intro g4 cap4 w4 hown4 hgrow4 hat4 hlt4
              refine hK _ _ ?_
              clear hK K
              have hb4 := (hgrow4.block (H + 2) (by simp; omega) (fun e => by have := hvo _ e.symm; omega)).trans ((Below.heap_alloc w3 _ _ (by omega)).trans ((hb3'.block _ hl2).trans h8))
              have e10 : w4.cell? ⟨H + 2, 0, none⟩ = some (.slice ax pre.length cx) := by simp [World.cell?, hb4]
              have e11 : w4.frozen? ⟨H + 2, 0, none⟩ = false := by simp [World.frozen?, hb4]
              refine wpAnyIn_ready (rs := [5]) (by kernel_rfl) (by simp) ?_
              refine AllReadyIn.cons rfl (fun K hK => ?_) ?_
              · go_simp
                refine hK _ _ ?_
                clear hK K
                refine wpAnyIn_done (by kernel_rfl) ?_ _
                obtain ⟨w5, hw5⟩ : ∃ X, X = w4.setCell ⟨H + 2, 0, none⟩ (.slice (some ⟨g4, 0, none⟩) (pre.length + 1) cap4) := ⟨_, rfl⟩
                have hgs : w4.grownBy w5 (some (H + 2)) := by rw [hw5]; exact grown_setCell w4 (H + 2) 0 _
                have s4 := hgrow4.size
                simp only [World.size_alloc] at s4
                have s5 := hgs.size
                have keep : ∀ k o, W.heap[k]? = some o → Value.ownBlock (.slice ax pre.length cx) ≠ some k → k ≠ H + 2 → w5.heap[k]? = some o := fun k o hk h0 h2 => by
                  have hkl := (Array.getElem?_eq_some_iff.1 hk).1
                  exact (hgs.block k (by omega) (fun e => h2 (by cases e; rfl))).trans ((hgrow4.block k (by simp; omega) (fun e => h0 e.symm)).trans ((Below.heap_alloc w3 _ _ (by omega)).trans ((hb3'.block _ hkl).trans hk)))
                have keepl : ∀ k o, k < H + 5 → W.heap[k]? = some o → k ≠ H + 2 → w5.heap[k]? = some o := fun k o hk5 hk h2 => keep k o hk (fun e => by have := hvo _ e; omega) h2
                have x5 := keep Bx _ hx hne' (by omega)
                have n5 := keepl (H + 3) _ (by omega) h7 (by omega)
                have l5 : w5.heap[H + 2]? = some (.cells #[.slice (some ⟨g4, 0, none⟩) (pre.length + 1) cap4] 71 (0, 0)) := by rw [hw5]; simp [World.setCell, Array.getElem?_modify, hb4]
                have hown5 : w5.ownsRow (H + 5) 54 2 (.slice (some ⟨g4, 0, none⟩) (pre.length + 1) cap4) (pre.length + 1) (cs ++ [.int .u16 op, .slice (some ⟨g3, 0, none⟩) (c - 1) cx3]) := own_apartly hown4 hgs (fun g e => .inl (by cases e; omega))
                have hrow5 := (RowO.push (op := op) h10 (hb3'.alloc s3 _) ((own_base hown3 (by simp)).alloc _) HML.out (fun b e => (h9.lt b e).2) (by omega) hgrow4 (by simpa using hat4)).grown hgs (fun g e => .inl (by cases e; omega))
                have hbel5 : Below w.heap.size w w5 := ((h1.trans ((hb3'.alloc s3 _).mono h1.size)).grown hgrow4 (by simp; omega) (fun k hk => by have := hvo k hk; omega)).grown hgs (by omega) (fun k e => by cases e; omega)
                have hkf5 : KeepsFrom (H + 5) W w5 := ((KeepsFrom.of_below (hb3'.alloc s3 _)).trans ((others_row ((own_below h9 hb3').alloc _) hgrow4).from _)).trans (by rw [hw5]; exact (KeepsOthers.setCell _ _ _).from _)
                have hkt5 : KeptT (fun t => t = 52) W w5 := ((KeptT.of_below (hb3'.alloc s3 _)).trans (KeptT.row ((own_below h9 hb3').alloc _) hgrow4 (by decide))).trans (by rw [hw5]; exact KeptT.setCell hb4 (by decide) 0 _)
                have hbn5 : Below w.heap.size W w5 := (((hb3'.alloc s3 _).mono h1.size).grown hgrow4 (by simp; omega) (fun k hk => by have := hvo k hk; omega)).grown hgs (by omega) (fun k e => by cases e; omega)
                have i0' := keepl w.heap.size _ (by omega) h2 (by omega)
                have i1' := keepl (w.heap.size + 1) _ (by omega) h3 (by omega)
                have iH' := keepl H _ (by omega) h4 (by omega)
                have hl5 : H + 5 ≤ w5.heap.size := by omega
                obtain ⟨z0, z1, _⟩ := cell_of_two x5
                have y0 : w5.cell? ⟨H + 3, 0, none⟩ = some (.int .i64 q) := by simp [World.cell?, n5]
                have y1 : w5.frozen? ⟨H + 3, 0, none⟩ = false := by simp [World.frozen?, n5]
                have hl53 : H + 3 < w5.heap.size := by omega
                rw [← hw5]
                clear hw5 hgs keep keepl hown4 hgrow4 hat4 hlt4 hb4 e8 e10 e11 hown3 hb3 hb3' s3 s4 s5 x5 hx kx0 kx1 k8 f8 h9 h10 hvo h8 h7 hA hl3 h2 h3 h4
                gi_wp2_with fail
                refine ⟨trivial, rfl, (CallsIn.inRound l (callsIn_wide.2 (wordsOf_any op (some y) (c - 1) (cap - (q + 1)) _ (by omega)))).mono ?_⟩
                rintro e w6 ⟨rfl, rfl⟩
                gi_wp2_with fail
                have fin := readI_next zs w W w5 H q c pre _ _ (by omega) hl5 hkf5 hkt5 hbn5 hbel5 i0' i1' iH' l5 n5 hown5 (by rw [HRA.out]; exact hrow5) (by rw [← HG.out]; exact HP.out) (by rw [← HG2.out]; exact HST.out) ((q : Int) + (((c - 1 : Nat) : Int) + 1)) (by omega) (.cells #[.int .u16 op, .slice (some y) (c - 1) (cap - (q + 1))] 54)
                rw [← hsL] at fin
                exact fin
              exact AllReadyIn.nil
            exact AllReadyIn.nil
          exact AllReadyIn.nil
        refine AllReadyIn.cons rfl (fun K hK => ?_) ?_
        · go_simp
          refine hK _ _ ?_
          clear hK K
          refine wpAnyIn_ready (rs := [0]) (by kernel_rfl) (by simp) ?_
          refine AllReadyIn.cons rfl (fun K hK => ?_) ?_
          · go_simp
            refine hK _ _ ?_
            clear hK K
            refine wpAnyIn_ready (rs := [4]) (by kernel_rfl) (by simp) ?_
            refine AllReadyIn.cons rfl (fun K hK => ?_) ?_
            · refine (stepIn_append _ (by rfl) _ _ _ (by rfl) (H + 5) 54 i0 (.agg #[.int .u16 0, .slice none 0 0]) 2 32 Tryz.underlying71 hi hz0 hz1 hz2 rfl (by omega) (.slice ax pre.length cx) pre.length cs (by rfl) ((own_below h9 hb3').alloc _) ⟨w3.heap.size, 0, none⟩ 1 1 [.int .u16 op, .slice (some ⟨g3, 0, none⟩) (c - 1) cx3] (by rfl) (by rfl) (World.news_of_block (cs := #[.int .u16 op, .slice (some ⟨g3, 0, none⟩) (c - 1) cx3]) (t := 54) (fr := (0, 0)) (heap_alloc_new w3 _)) (by simp [Value.oneCell']) (by omega) (by unfold maxLen; omega) (by omega) (by simp; omega) (w3.heap.size + 1) (by simp) ?_)
              intro g4 cap4 w4 hown4 hgrow4 hat4 hlt4
              refine hK _ _ ?_
              clear hK K
              have hb4 := (hgrow4.block (H + 2) (by simp; omega) (fun e => by have := hvo _ e.symm; omega)).trans ((Below.heap_alloc w3 _ _ (by omega)).trans ((hb3'.block _ hl2).trans h8))
              have e10 : w4.cell? ⟨H + 2, 0, none⟩ = some (.slice ax pre.length cx) := by simp [World.cell?, hb4]
              have e11 : w4.frozen? ⟨H + 2, 0, none⟩ = false := by simp [World.frozen?, hb4]
              refine wpAnyIn_ready (rs := [5]) (by kernel_rfl) (by simp) ?_
              refine AllReadyIn.cons rfl (fun K hK => ?_) ?_
              · go_simp
                refine hK _ _ ?_
                clear hK K
                refine wpAnyIn_done (by kernel_rfl) ?_ _
                obtain ⟨w5, hw5⟩ : ∃ X, X = w4.setCell ⟨H + 2, 0, none⟩ (.slice (some ⟨g4, 0, none⟩) (pre.length + 1) cap4) := ⟨_, rfl⟩
                have hgs : w4.grownBy w5 (some (H + 2)) := by rw [hw5]; exact grown_setCell w4 (H + 2) 0 _
                have s4 := hgrow4.size
                simp only [World.size_alloc] at s4
                have s5 := hgs.size
                have keep : ∀ k o, W.heap[k]? = some o → Value.ownBlock (.slice ax pre.length cx) ≠ some k → k ≠ H + 2 → w5.heap[k]? = some o := fun k o hk h0 h2 => by
                  have hkl := (Array.getElem?_eq_some_iff.1 hk).1
                  exact (hgs.block k (by omega) (fun e => h2 (by cases e; rfl))).trans ((hgrow4.block k (by simp; omega) (fun e => h0 e.symm)).trans ((Below.heap_alloc w3 _ _ (by omega)).trans ((hb3'.block _ hkl).trans hk)))
                have keepl : ∀ k o, k < H + 5 → W.heap[k]? = some o → k ≠ H + 2 → w5.heap[k]? = some o := fun k o hk5 hk h2 => keep k o hk (fun e => by have := hvo _ e; omega) h2
                have x5 := keep Bx _ hx hne' (by omega)
                have n5 := keepl (H + 3) _ (by omega) h7 (by omega)
                have l5 : w5.heap[H + 2]? = some (.cells #[.slice (some ⟨g4, 0, none⟩) (pre.length + 1) cap4] 71 (0, 0)) := by rw [hw5]; simp [World.setCell, Array.getElem?_modify, hb4]
                have hown5 : w5.ownsRow (H + 5) 54 2 (.slice (some ⟨g4, 0, none⟩) (pre.length + 1) cap4) (pre.length + 1) (cs ++ [.int .u16 op, .slice (some ⟨g3, 0, none⟩) (c - 1) cx3]) := own_apartly hown4 hgs (fun g e => .inl (by cases e; omega))
                have hrow5 := (RowO.push (op := op) h10 (hb3'.alloc s3 _) ((own_base hown3 (by simp)).alloc _) HML.out (fun b e => (h9.lt b e).2) (by omega) hgrow4 (by simpa using hat4)).grown hgs (fun g e => .inl (by cases e; omega))
                have hbel5 : Below w.heap.size w w5 := ((h1.trans ((hb3'.alloc s3 _).mono h1.size)).grown hgrow4 (by simp; omega) (fun k hk => by have := hvo k hk; omega)).grown hgs (by omega) (fun k e => by cases e; omega)
                have hkf5 : KeepsFrom (H + 5) W w5 := ((KeepsFrom.of_below (hb3'.alloc s3 _)).trans ((others_row ((own_below h9 hb3').alloc _) hgrow4).from _)).trans (by rw [hw5]; exact (KeepsOthers.setCell _ _ _).from _)
                have hkt5 : KeptT (fun t => t = 52) W w5 := ((KeptT.of_below (hb3'.alloc s3 _)).trans (KeptT.row ((own_below h9 hb3').alloc _) hgrow4 (by decide))).trans (by rw [hw5]; exact KeptT.setCell hb4 (by decide) 0 _)
                have hbn5 : Below w.heap.size W w5 := (((hb3'.alloc s3 _).mono h1.size).grown hgrow4 (by simp; omega) (fun k hk => by have := hvo k hk; omega)).grown hgs (by omega) (fun k e => by cases e; omega)
                have i0' := keepl w.heap.size _ (by omega) h2 (by omega)
                have i1' := keepl (w.heap.size + 1) _ (by omega) h3 (by omega)
                have iH' := keepl H _ (by omega) h4 (by omega)
                have hl5 : H + 5 ≤ w5.heap.size := by omega
                obtain ⟨z0, z1, _⟩ := cell_of_two x5
                have y0 : w5.cell? ⟨H + 3, 0, none⟩ = some (.int .i64 q) := by simp [World.cell?, n5]
                have y1 : w5.frozen? ⟨H + 3, 0, none⟩ = false := by simp [World.frozen?, n5]
                have hl53 : H + 3 < w5.heap.size := by omega
                rw [← hw5]
                clear hw5 hgs keep keepl hown4 hgrow4 hat4 hlt4 hb4 e8 e10 e11 hown3 hb3 hb3' s3 s4 s5 x5 hx kx0 kx1 k8 f8 h9 h10 hvo h8 h7 hA hl3 h2 h3 h4
                gi_wp2_with fail
                refine ⟨trivial, rfl, (CallsIn.inRound l (callsIn_wide.2 (wordsOf_any op (some y) (c - 1) (cap - (q + 1)) _ (by omega)))).mono ?_⟩
                rintro e w6 ⟨rfl, rfl⟩
                gi_wp2_with fail
                have fin := readI_next zs w W w5 H q c pre _ _ (by omega) hl5 hkf5 hkt5 hbn5 hbel5 i0' i1' iH' l5 n5 hown5 (by rw [HRA.out]; exact hrow5) (by rw [← HG.out]; exact HP.out) (by rw [← HG2.out]; exact HST.out) ((q : Int) + (((c - 1 : Nat) : Int) + 1)) (by omega) (.cells #[.int .u16 op, .slice (some y) (c - 1) (cap - (q + 1))] 54)
                rw [← hsL] at fin
                exact fin
              exact AllReadyIn.nil
            exact AllReadyIn.nil
          exact AllReadyIn.nil
        exact AllReadyIn.nil
      exact AllReadyIn.nil
    exact AllReadyIn.nil
  case stop =>
    rintro D c pre W _ _ h _
    exact h.elim
  case done =>
    rintro D xs W hD rfl ⟨⟨h1, hlt⟩, h2, h3, h4, ⟨q, h5, h6, h7⟩, v, cs, h8, h9, h10⟩ hK
    have hq : q = stop zs 5 := by
      have h11 : rest zs q = [] := by
        have := h5
        simpa using this
      rw [← h6, rest_none h11]
    obtain ⟨ax, cx, rfl⟩ := own_shape2 h9
    obtain ⟨c0, c1, f1⟩ := cell_of_two h2
    obtain ⟨d0, d1, g1⟩ := cell_of_two h3
    obtain ⟨p0, p1, _⟩ := cell_of_two h4
    have f0 : W.frozen? ⟨w.heap.size, 0, none⟩ = false := by simp [World.frozen?, h2]
    have g0 : W.frozen? ⟨w.heap.size + 1, 0, none⟩ = false := by simp [World.frozen?, h3]
    have n0 : W.cell? ⟨H + 3, 0, none⟩ = some (.int .i64 q) := by simp [World.cell?, h7]
    have l0 : W.cell? ⟨H + 2, 0, none⟩ = some (.slice ax (rest zs 5).length cx) := by simp [World.cell?, h8]
    have HQ : Hid (q = stop zs 5) := hq
    clear h5 h6 hq h7 h8
    by_cases hst : q < n
    · have hqi : (q : Int) < (n : Int) := by omega
      obtain ⟨Y, hY⟩ : ∃ Y, Y = (((W.setCell ⟨w.heap.size, 0, none⟩ (.int .u32 0)).setCell ⟨w.heap.size, 1, none⟩ (.int .u32 0)).setCell ⟨w.heap.size + 1, 0, none⟩ (.int .i64 25)).setCell ⟨w.heap.size + 1, 1, none⟩ (.int .i64 (q : Int)) := ⟨_, rfl⟩
      have hz := set_two_boxes h2 h3 (by omega) (.int .u32 0) (.int .u32 0) (.int .i64 25) (.int .i64 (q : Int))
      have hgY : W.grownBy Y (some w.heap.size) ∨ True := .inr trivial
      have hoY : KeepsOthers W Y.drew := by rw [hY]; exact ((((KeepsOthers.setCell _ _ _).trans (KeepsOthers.setCell _ _ _)).trans (KeepsOthers.setCell _ _ _)).trans (KeepsOthers.setCell _ _ _)).trans (KeepsOthers.drew _)
      have hKY := hoY.same D _ hK rfl
      have hbY : Below w.heap.size w Y.drew := by rw [hY]; exact ((((h1.setCell (by simp) _).setCell (by simp) _).setCell (by simp) _).setCell (by simp) _).drew
      have hownY : Y.drew.ownsRow (H + 5) 54 2 (.slice ax (rest zs 5).length cx) (rest zs 5).length cs := by
        rw [hY]
        exact own_apartly (own_apartly (own_apartly (own_apartly (own_apartly h9 (grown_setCell _ _ _ _) (fun g e => .inl (by cases e; omega))) (grown_setCell _ _ _ _) (fun g e => .inl (by cases e; omega))) (grown_setCell _ _ _ _) (fun g e => .inl (by cases e; omega))) (grown_setCell _ _ _ _) (fun g e => .inl (by cases e; omega))) (grown_drew _ 1 none) (fun g e => by cases e)
      have hrowY : RowO Y.drew (H + 5) (Value.ownBlock (.slice ax (rest zs 5).length cx)) ((rest zs 5).map (rawAt zs)) cs := by
        rw [hY]
        exact ((((h10.grown (grown_setCell _ _ _ _) (fun g e => .inl (by cases e; omega))).grown (grown_setCell _ _ _ _) (fun g e => .inl (by cases e; omega))).grown (grown_setCell _ _ _ _) (fun g e => .inl (by cases e; omega))).grown (grown_setCell _ _ _ _) (fun g e => .inl (by cases e; omega))).grown (grown_drew _ 1 none) (fun g e => by cases e)
      rw [← hY] at hz
      have hput := grownBy_putObj' Y.drew D (.deferred none)
      have hpr : ∀ r, some D = some r → ∃ o : Obj, Y.drew.heap[r]? = some o ∧ o.isCells = false := fun r e => by cases e; exact ⟨_, hKY, rfl⟩
      have r0 := cell_kept (W := Y.drew) hz.1 hput hpr
      have r1 := cell_kept (W := Y.drew) hz.2.1 hput hpr
      have r2 := cell_kept (W := Y.drew) hz.2.2.1 hput hpr
      have r3 := cell_kept (W := Y.drew) hz.2.2.2 hput hpr
      have hbE : Below w.heap.size w (Y.drew.putObj D (.deferred none)) := hbY.trans (belowK_b (w := w) (Nat.le_refl _) Y.drew D _ _ (by omega) hKY rfl rfl)
      have hownE := own_apartly hownY hput (fun g e => .inr (hpr g e))
      have hrowE := hrowY.grown hput (fun g e => .inr (hpr g e))
      clear hz hgY hoY hbY hownY hrowY h2 h3 h4 h9 h10 h1 hput hpr
      gi_wp2_with fail
      gi_region_o
      gi_wp2_with fail
      rw [← hY]
      refine ⟨by simp, .inl ⟨_, _, rfl, run_takeDeferred hKY, ?_⟩⟩
      refine ⟨.tuple #[.agg #[.int .u32 0, .int .u32 0], .slice none 0 0, .agg #[.int .i64 25, .int .i64 q]], by simp [results, Tryz.results62, go_sem, r0, r1, r2, r3], hbE, ?_⟩
      exact .inl ⟨by rw [← HQ.out]; exact hst, by rw [HQ.out]⟩
    · have hqi : (n : Int) ≤ (q : Int) := by omega
      obtain ⟨Y, hY⟩ : ∃ Y, Y = (((W.setCell ⟨w.heap.size, 0, none⟩ (.int .u32 (nth zs 2))).setCell ⟨w.heap.size, 1, none⟩ (.int .u32 (nth zs 3))).setCell ⟨w.heap.size + 1, 0, none⟩ (.int .i64 0)).setCell ⟨w.heap.size + 1, 1, none⟩ (.int .i64 0) := ⟨_, rfl⟩
      have hz := set_two_boxes h2 h3 (by omega) (.int .u32 (nth zs 2)) (.int .u32 (nth zs 3)) (.int .i64 0) (.int .i64 0)
      have hgY : W.grownBy Y (some w.heap.size) ∨ True := .inr trivial
      have hoY : KeepsOthers W Y.drew := by rw [hY]; exact ((((KeepsOthers.setCell _ _ _).trans (KeepsOthers.setCell _ _ _)).trans (KeepsOthers.setCell _ _ _)).trans (KeepsOthers.setCell _ _ _)).trans (KeepsOthers.drew _)
      have hKY := hoY.same D _ hK rfl
      have hbY : Below w.heap.size w Y.drew := by rw [hY]; exact ((((h1.setCell (by simp) _).setCell (by simp) _).setCell (by simp) _).setCell (by simp) _).drew
      have hownY : Y.drew.ownsRow (H + 5) 54 2 (.slice ax (rest zs 5).length cx) (rest zs 5).length cs := by
        rw [hY]
        exact own_apartly (own_apartly (own_apartly (own_apartly (own_apartly h9 (grown_setCell _ _ _ _) (fun g e => .inl (by cases e; omega))) (grown_setCell _ _ _ _) (fun g e => .inl (by cases e; omega))) (grown_setCell _ _ _ _) (fun g e => .inl (by cases e; omega))) (grown_setCell _ _ _ _) (fun g e => .inl (by cases e; omega))) (grown_drew _ 1 none) (fun g e => by cases e)
      have hrowY : RowO Y.drew (H + 5) (Value.ownBlock (.slice ax (rest zs 5).length cx)) ((rest zs 5).map (rawAt zs)) cs := by
        rw [hY]
        exact ((((h10.grown (grown_setCell _ _ _ _) (fun g e => .inl (by cases e; omega))).grown (grown_setCell _ _ _ _) (fun g e => .inl (by cases e; omega))).grown (grown_setCell _ _ _ _) (fun g e => .inl (by cases e; omega))).grown (grown_setCell _ _ _ _) (fun g e => .inl (by cases e; omega))).grown (grown_drew _ 1 none) (fun g e => by cases e)
      rw [← hY] at hz
      have hput := grownBy_putObj' Y.drew D (.deferred none)
      have hpr : ∀ r, some D = some r → ∃ o : Obj, Y.drew.heap[r]? = some o ∧ o.isCells = false := fun r e => by cases e; exact ⟨_, hKY, rfl⟩
      have r0 := cell_kept (W := Y.drew) hz.1 hput hpr
      have r1 := cell_kept (W := Y.drew) hz.2.1 hput hpr
      have r2 := cell_kept (W := Y.drew) hz.2.2.1 hput hpr
      have r3 := cell_kept (W := Y.drew) hz.2.2.2 hput hpr
      have hbE : Below w.heap.size w (Y.drew.putObj D (.deferred none)) := hbY.trans (belowK_b (w := w) (Nat.le_refl _) Y.drew D _ _ (by omega) hKY rfl rfl)
      have hownE := own_apartly hownY hput (fun g e => .inr (hpr g e))
      have hrowE := hrowY.grown hput (fun g e => .inr (hpr g e))
      clear hz hgY hoY hbY hownY hrowY h2 h3 h4 h9 h10 h1 hput hpr
      gi_wp2_with fail
      gi_region_o
      gi_wp2_with fail
      rw [← hY]
      refine ⟨by simp, .inl ⟨_, _, rfl, run_takeDeferred hKY, ?_⟩⟩
      refine ⟨.tuple #[.agg #[.int .u32 (nth zs 2), .int .u32 (nth zs 3)], .slice ax (rest zs 5).length cx, .agg #[.int .i64 0, .int .i64 0]], by simp [results, Tryz.results62, go_sem, r0, r1, r2, r3], hbE, ?_⟩
      exact .inr ⟨by rw [← HQ.out]; exact hst, ax, cx, _, rfl, by simp [readR], OwnR.kept (ob := none) (hrowE.own hownE (by simp)) (World.grownBy.refl _ _) (fun g e => by cases e) (by omega)⟩
theorem readC:ReadC 62:=by
 intro a n cap zs w ha hl hw hn hc
 by_cases h1:1048576<n
 ·have e1:readE zs=(4,1048576):=by unfold readE;rw [if_pos (by omega)]
  refine (read_large a n cap w h1).mono ?_
  rintro e w' ⟨rfl,hb⟩
  refine⟨hb,none,0,0,?_,?_,?_⟩
  ·simp [readAt,e1]
  ·simp [readL,e1]
  ·simp only [readL,e1];exact fun j _ hj=>by simp at hj
 ·rcases headE_any zs with h2 | h2
  ·refine (read_body a n cap zs w ha hl hw (by omega) hc h2).mono ?_
   rintro e w' ⟨hb,⟨h3,rfl⟩ | ⟨h3,ax,cx,m,rfl,h4,h5⟩⟩
   ·have e1:readE zs=(25,stop zs 5):=by unfold readE;rw [if_neg (by omega),if_neg (by simp [h2]),if_pos (by omega)]
    refine⟨hb,none,0,0,?_,?_,?_⟩
    ·simp [readAt,e1]
    ·simp [readL,e1]
    ·simp only [readL,e1];exact fun j _ hj=>by simp at hj
   ·have e1:readE zs=(0,0):=by unfold readE;rw [if_neg (by omega),if_neg (by simp [h2]),if_neg (by omega)]
    refine⟨hb,ax,cx,m,?_,?_,?_⟩
    ·simp [readAt,e1]
    ·simp [readL,e1,h4]
    ·simp only [readL,e1];exact h5
  ·have e1:readE zs=headE zs 0:=by unfold readE;rw [if_neg (by omega),if_pos h2]
   refine (read_head a n cap zs w ha hl hw (by omega) h2).mono ?_
   rintro e w' ⟨rfl,hb⟩
   refine⟨hb,none,0,0,?_,?_,?_⟩
   ·simp [readAt,e1,h2]
   ·simp [readL,e1,h2]
   ·simp only [readL,e1,h2,if_false];exact fun j _ hj=>by simp at hj
end Go.Proofs.YtonhnflilfjkbaaGreatDoor
