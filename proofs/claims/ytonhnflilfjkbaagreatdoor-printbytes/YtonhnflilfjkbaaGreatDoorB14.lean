/-
  Texts in one: CodeDecode2, Law04One, Law08One.
-/
import Derived.Test.YtonhnflilfjkbaaGreatDoorB13
namespace Go.Proofs.YtonhnflilfjkbaaGreatDoor
open Go.RowKit Go.Shelf
attribute [local go_sem] Oper.semAt_some
set_option linter.unusedVariables false
set_option linter.unusedSimpArgs false

theorem stepIn_make {P:Program} {ops:Array Oper} {o:Oper} {a:Act} {w:World} {K:Act→World→Prop} {Q:Exit→Act→World→Prop} (hgd:o.guard=none) (l c:Operand) (t:TypeId) (ho:o.op=.makeSlice t l c)
  (base:Nat) (e:TypeId) (i:TypeInfo) (z:Value) (size:Nat) (ht:P.underlying t=some (.slice e)) (hi:P.info? e=some i) (hz:i.zero=some z) (hsize:i.size=size) (kl kc:IntKind) (m:Nat) (hl:a.eval l=.int kl 0) (hc:a.eval c=.int kc (m:Int))
  (hb:i.bytes * m≤281474976710656) (h63:m≤maxLen) (hbase:base≤w.heap.size)
  (h:∀ w',w'.ownsRow base e size (.slice (some ⟨w.heap.size,0,none⟩) 0 m) 0 []→w.grownBy w' none→K (a.put o.dst (.slice (some ⟨w.heap.size,0,none⟩) 0 m)) w') :
  if Region.wanted o (yielded ops a.tmps)=true then Oper.wpIn Fence.wide 0 P o a w K Q else (∀ f,o.about P w a.eval=some f→Fence.wide.fn f)∧K (a.put o.dst undef) w:=by
 obtain⟨w',hr,h1,h2⟩:=run_make_own (P:=P) w base t e i z size ht hi hz hsize kl kc m hb h63 hbase
 rw [if_pos (by simp [Region.wanted,hgd])]
 refine⟨fun _ _=>trivial,?_⟩
 rw [Oper.semAt_eq _ _ _ (fun c hc=>by rw [ho] at hc;cases hc)]
 unfold execOp
 simp only [ho,Sem.run_bind,Sem.run_pure,Result.andThen_ok,hl,hc,hr]
 exact h w' h1 h2
def DecI (zs:List Int) (gen bnd:Int) (w:World) (H MB lo:Nat) (pre:List Told) (W:World):Prop :=
 DecB w W (.int .u32 0) (.int .u32 0) (.slice none 0 0) (.int .i64 0) (.int .i64 0)∧lo≤W.heap.size∧W.heap[H]?=some (.cells #[.int .u32 gen,.int .u32 bnd] 106 (0,0)) ∧
 (pre.map (·.1) <+: rest zs 5∧∀ x∈pre,(instAt zs bnd x.1).2=0) ∧
 ∃ v cs,W.heap[MB]?=some (.cells #[.int .u32 gen,.int .u32 bnd,v] 25 (0,0))∧W.ownsRow (H+2) 38 4 v pre.length cs∧v.ownBlock≠some MB∧RowI W lo v.ownBlock (instsAt zs bnd (pre.map (·.1))) cs
theorem decB_stay {w W W':World} {v0 v1 v2 v3 v4:Value} {row:Option Nat} {lo:Nat} (h:DecB w W v0 v1 v2 v3 v4) (hlo:w.heap.size≤lo) (hg:W.grownBy W' row) (hr:∀ r,row=some r→lo≤r∧∃ o:Obj,W.heap[r]?=some o∧o.isCells=false):DecB w W' v0 v1 v2 v3 v4 :=
 ⟨cells_stay h.mod hg hr,cells_stay h.spot hg hr,below_stay h.bel (Nat.le_refl _) hlo hg hr⟩
theorem decI_own (zs:List Int) (gen bnd:Int) (w:World) (H MB lo:Nat) (hH:w.heap.size≤lo):OwnFrom lo (DecI zs gen bnd w H MB lo):=by
 rintro pre W W' row ⟨h1,h2,h3,h4,v,cs,h5,h6,h7,h8⟩ hg hr
 have hap:∀ L,Apartly W L row:=fun L g e=>.inr (hr g e).2
 exact⟨decB_stay h1 hH hg hr,Nat.le_trans h2 hg.size,cells_stay h3 hg hr,h4,v,cs,cells_stay h5 hg hr,own_apartly h6 hg (hap _),h7,h8.grown hg (hap _)⟩
def DecX (zs:List Int) (bnd:Int) (w:World) (lo:Nat) (c:Code) (pre:List Told) (W:World):Prop :=
 c=.ret∧(decF zs bnd (rest zs 5)).1≠0∧DecB w W (.int .u32 0) (.int .u32 0) (.slice none 0 0) (.int .i64 (decF zs bnd (rest zs 5)).1) (.int .i64 (decF zs bnd (rest zs 5)).2)
theorem decX_own (zs:List Int) (bnd:Int) (w:World) (lo:Nat) (hH:w.heap.size≤lo) (c:Code):OwnFrom lo (DecX zs bnd w lo c):=by
 rintro pre W W' row ⟨h0,h1,h2⟩ hg hr
 exact⟨h0,h1,decB_stay h2 hH hg hr⟩
theorem told_stay4 {zs:List Int} {lo:Nat} {pre:List Told} {x:Told} {W W':World} {row:Option Nat} {B:Nat} (h:ToldOk zs lo pre x W) (hg:W.grownBy W' row) (hr:∀ r,row=some r→B≤r∧∃ o:Obj,W.heap[r]?=some o∧o.isCells=false):ToldOk zs lo pre x W' :=
 ⟨h.1,own_apartly h.2 hg (fun g e=>.inr (hr g e).2)⟩
theorem told_below4 {zs:List Int} {lo:Nat} {pre:List Told} {x:Told} {W W':World} (h:ToldOk zs lo pre x W) (hb:Below W.heap.size W W'):ToldOk zs lo pre x W':=⟨h.1,own_below h.2 hb⟩
theorem appendIn_lies {F:Fence} {n:Nat} {P:Program} (w:World) {ops:Array Oper} {rest:List Oper} {o:Oper} {a:Act} {Q:Exit→Act→World→Prop}
  (hg:o.guard=none) (s x:Operand) (t:TypeId) (hop:o.op=Op.call { callee:=Callee.builtin Builtin.append,args:=#[s,x],argTypes:=#[t,t] })
  (base:Nat) (e:TypeId) (i:TypeInfo) (z:Value) (size bytes:Nat) (h1:P.underlying t=some (.slice e)) (h2:P.info? e=some i) (h3:i.zero=some z) (h4:i.size=size) (h5:i.bytes=bytes) (h6:z.cells.size=size) (h7:0<size)
  (v:Value) (k:Nat) (xs:List Value) (hs:a.eval s=v) (hown:w.ownsRow base e size v k xs) (ad:Addr) (m c:Nat) (news:List Value) (hx:a.eval x=.slice (some ad) m c) (hn:news.length=m * size)
  (hc:∀ j u,news[j]?=some u→w.cell? (ad.add j)=some u) (h1c:∀ u∈news,u.oneCell'=true) (hm:0<m) (b1:k+m≤maxLen) (b2:(k+m) * bytes≤140737488355328) (b3:base≤w.heap.size) (H:Nat) (hH:w.heap.size=H)
  (hK:∀ g cap w',w'.ownsRow base e size (.slice (some ⟨g,0,none⟩) (k+m) cap) (k+m) (xs++news)→w.grownBy w' v.ownBlock→(v.ownBlock=some g∨g=H)→g<w'.heap.size→wpListIn F n P ops Q rest (a.put o.dst (.slice (some ⟨g,0,none⟩) (k+m) cap)) w') :
  wpListIn F n P ops Q (o :: rest) a w:=by
 refine wpListIn_plain hg fun K hK'=>?_
 obtain⟨g,cap,w',hrun,r1,r2,r3,r4⟩:=run_append_lies (P:=P) w t o.type base e i z size bytes h1 h2 h3 h4 h5 h6 h7 v k xs hown ad m c news hn hc h1c hm b1 b2 b3 H hH
 unfold Oper.wpIn
 refine⟨?_,?_⟩
 ·simp [Oper.about,hop,resolve,Target.leads,Sem.run_pure]
 ·rw [Oper.semAt_plain F _ _ (by rw [hop];intro c hc';cases hc')]
  simp [execOp,hop,resolve,invoke,builtin,hs,hx,hrun,Result.andThen]
  exact hK' _ _ (hK g cap w' r1 r2 r3 r4)
theorem RowI.lower {w:World} {lo lo':Nat} {ob:Option Nat} {rs:List InstT} {cs:List Value} (h:RowI w lo ob rs cs) (hl:lo'≤lo):RowI w lo' ob rs cs:=by
 refine⟨h.len,fun j hj=>?_⟩
 obtain⟨aj,cj,nj,h1,d1,d2,h2,h3,h4,h5,h6⟩:=h.each j hj
 exact⟨aj,cj,nj,h1,d1,d2,h2,h3,own_lo h4 hl,h5,h6⟩
theorem own_five {w W:World} {lo e size n:Nat} {v:Value} {xs:List Value} (h:W.ownsRow lo e size v n xs) (hlo:w.heap.size+1<lo) (u0 u1 u2 u3 u4:Value):(fiveW w W u0 u1 u2 u3 u4).ownsRow lo e size v n xs:=by
 unfold fiveW
 exact ownFar (ownFar (ownFar (ownFar (ownFar h (by omega) _ _) (by omega) _ _) (by omega) _ _) (by omega) _ _) (by omega) _ _
theorem rowI_five {w W:World} {lo:Nat} {ob:Option Nat} {rs:List InstT} {cs:List Value} (h:RowI W lo ob rs cs) (hlo:w.heap.size+1<lo) (u0 u1 u2 u3 u4:Value):RowI (fiveW w W u0 u1 u2 u3 u4) lo ob rs cs:=by
 unfold fiveW
 exact ((((h.grown (grown_setCell _ _ _ _) (fun g e=>.inl (by cases e;omega))).grown (grown_setCell _ _ _ _) (fun g e=>.inl (by cases e;omega))).grown (grown_setCell _ _ _ _) (fun g e=>.inl (by cases e;omega))).grown (grown_setCell _ _ _ _) (fun g e=>.inl (by cases e;omega))).grown (grown_setCell _ _ _ _) (fun g e=>.inl (by cases e;omega))
theorem own_shape4 {w:World} {lo e size n:Nat} {v:Value} {xs:List Value} (h:w.ownsRow lo e size v n xs):∃ a c,v=.slice a n c:=by
 rcases h.2 with ⟨rfl,h0⟩ | ⟨g,cap,cur,rfl,_⟩
 ·exact⟨none,0,by rw [h0]⟩
 ·exact⟨_,_,rfl⟩
theorem keeps_five (lo:Nat) (w W:World) (u0 u1 u2 u3 u4:Value):KeepsFrom lo W (fiveW w W u0 u1 u2 u3 u4):=by
 unfold fiveW
 exact ((((((KeepsOthers.setCell _ _ _).trans (KeepsOthers.setCell _ _ _)).trans (KeepsOthers.setCell _ _ _)).trans (KeepsOthers.setCell _ _ _)).trans (KeepsOthers.setCell _ _ _))).from _
theorem decF_next {zs:List Int} {bnd:Int} {lo:Nat} {pre:List Told} {x:Told} {W:World} (hV:ToldOk zs lo pre x W) (h:∀ y∈pre,(instAt zs bnd y.1).2=0) (hx:(instAt zs bnd x.1).2≠0):decF zs bnd (rest zs 5)=((instAt zs bnd x.1).2,x.1):=by
 obtain⟨s,hs⟩:=hV.1
 rw [← hs,List.append_assoc,decF_app _ _ _ _ (fun p hp=>by
  obtain⟨y,hy,rfl⟩:=List.mem_map.1 hp
  exact h y hy)]
 rw [List.singleton_append,decF,if_pos hx]
theorem instsAt_push (zs:List Int) (bnd:Int) (pre:List Told) (x:Told):instsAt zs bnd ((pre++[x]).map (·.1))=instsAt zs bnd (pre.map (·.1))++[(instAt zs bnd x.1).1]:=by simp [instsAt]
set_option maxRecDepth 100000 in
set_option maxHeartbeats 8000000 in
theorem decode_body (a : Option Addr) (n cap : Nat) (bs zs : List Int) (w : World) (ha : View .u8 w a bs) (hl : bs.length = n) (hw : Within 256 bs) (h : splitErr bs = 0) (hzs : zs = splitL bs) (h2 : readE zs = (0, 0)) :
    Calls Tryz.prog 31 #[.slice a n cap] w fun e w' => Below w.heap.size w w' ∧
      (((decF zs (nth zs 3) (rest zs 5)).1 ≠ 0 ∧ e = .returned (.tuple #[modV 0 0 none 0 0, .agg #[.int .i64 (decF zs (nth zs 3) (rest zs 5)).1, .int .i64 (decF zs (nth zs 3) (rest zs 5)).2]])) ∨
       ((∀ p ∈ rest zs 5, (instAt zs (nth zs 3) p).2 = 0) ∧ ∃ ax m cx, e = .returned (.tuple #[modV (nth zs 2) (nth zs 3) ax m cx, .agg #[.int .i64 0, .int .i64 0]]) ∧ (instsAt zs (nth zs 3) (rest zs 5)).length = m ∧ OwnI w' w.heap.size ax 0 (instsAt zs (nth zs 3) (rest zs 5)))) := by
  have hS := fun wx (hb : Below w.heap.size w wx) => split_any a n cap bs wx (ha.below hb) hl hw
  have hso : splitOut bs = zs := by unfold splitOut; rw [if_pos h, hzs]
  have HW : Hid (Within 4294967296 zs) := by rw [hzs]; exact splitL_within bs hw
  rw [hso, h] at hS
  have hok := readE_ok zs (by rw [h2])
  have hlen : zs.length ≤ 1048576 := hok.1
  have hlen5 : 5 ≤ zs.length := (headE_ok zs hok.2.1).1
  have hR := fun ax m wx (hv : View .u32 wx ax zs) (hm : zs.length = m) => readC ax m m zs wx hv hm HW.out (by omega) (Nat.le_refl _)
  have hr2 : readAt zs 2 = nth zs 2 := by unfold readAt; rw [h2, if_pos rfl]
  have hr3 : readAt zs 3 = nth zs 3 := by unfold readAt; rw [h2, if_pos rfl]
  have hrl : readL zs = readR zs := by unfold readL; rw [h2, if_pos rfl]
  rw [hr2, hr3, h2, hrl] at hR
  have hg := nth_range32 HW.out 2
  have hb := nth_range32 HW.out 3
  have hrl2 : (readR zs).length = (rest zs 5).length := by simp [readR]
  have hrl3 := rest_len zs 5
  have HRL : Hid ((readR zs).length = (rest zs 5).length) := hrl2
  obtain ⟨gen, hgen⟩ : ∃ g, g = nth zs 2 := ⟨_, rfl⟩
  obtain ⟨bnd, hbnd⟩ : ∃ b, b = nth zs 3 := ⟨_, rfl⟩
  rw [← hgen, ← hbnd]
  rw [← hgen, ← hbnd] at hR
  have hD0 := decB_new w
  have hC := hS _ hD0.bel
  have HD0 : Hid (DecB _ _ _ _ _ _ _) := hD0
  have hmix : Tryz.prog.follows .mixedOrders = true := by kernel_rfl
  clear hS hD0 ha hl hw h hzs h2 hso hok hr2 hr3 hrl hrl2 hgen hbnd
  refine (callsIn_wide (n := 0)).1 ?_
  refine callsIn_of_wp_marks Tryz.func31 rfl trivial ?_ rfl
  simp only [Tryz.ntmps31, List.size_toArray, List.length_cons, List.length_nil, Nat.reduceAdd, Nat.reduceSub, Array.replicate_succ, Array.replicate_zero, List.push_toArray, List.append_toArray, List.nil_append, List.cons_append]
  gi_wp2_with fail
  have hD0 := HD0.out
  clear HD0
  generalize (w.alloc (.cells #[.int .u32 0, .int .u32 0, .slice none 0 0] 25)).alloc (.cells #[.int .i64 0, .int .i64 0] 28) = W0 at *
  refine ⟨trivial, rfl, (callsIn_wide.2 hC).mono ?_⟩
  rintro e w1 ⟨ax, m, rfl, hm, hv1, _, hb1⟩
  have hD1 := hD0.below hb1
  have hC2 := hR ax m w1 hv1 hm
  obtain ⟨bx, ox, rfl, _, _⟩ := hv1 0 (by omega)
  have HM : Hid (zs.length = m) := hm
  have HV1 : Hid (View .u32 w1 (some ⟨bx, ox, none⟩) zs) := hv1
  clear hC hD0 hb1 hR hv1 hm
  gi_wp2_with fail
  refine ⟨trivial, rfl, (callsIn_wide.2 hC2).mono ?_⟩
  rintro e w2 ⟨hb2, ay, cy, m2, rfl, hm2, _⟩
  have hb2a : Below w2.heap.size w2 ((w2.alloc (.cells #[.int .u32 gen, .int .u32 bnd] 106)).alloc (.cells #[.int .i64 0, .int .i64 0] 28)) := ((Below.refl _ w2).alloc (Nat.le_refl _) _).alloc (by simp) _
  have hD2 := (hD1.below hb2).below hb2a
  have HV2 : Hid (View .u32 _ (some ⟨bx, ox, none⟩) zs) := (HV1.out.below hb2).below hb2a
  have kS : ((w2.alloc (.cells #[.int .u32 gen, .int .u32 bnd] 106)).alloc (.cells #[.int .i64 0, .int .i64 0] 28)).heap[w2.heap.size + 1]? = some (.cells #[.int .i64 0, .int .i64 0] 28 (0, 0)) := by simpa using alloc_new (w2.alloc (.cells #[.int .u32 gen, .int .u32 bnd] 106)) #[.int .i64 0, .int .i64 0] 28
  have kH : ((w2.alloc (.cells #[.int .u32 gen, .int .u32 bnd] 106)).alloc (.cells #[.int .i64 0, .int .i64 0] 28)).heap[w2.heap.size]? = some (.cells #[.int .u32 gen, .int .u32 bnd] 106 (0, 0)) := (Below.heap_alloc _ _ _ (by simp)).trans (alloc_new w2 _ _)
  obtain ⟨k0, k1, _⟩ := cell_of_two kS
  have hl2 := (Array.getElem?_eq_some_iff.1 (hD1.below hb2).spot).1
  have HD2 : Hid (DecB w _ (.int .u32 0) (.int .u32 0) (.slice none 0 0) (.int .i64 0) (.int .i64 0)) := hD2
  have HH : Hid _ := kH
  have hz : ((0 : Nat) : Int) = 0 := rfl
  have hm2' : m2 ≤ 1048576 := by rw [← hm2, HRL.out]; omega
  have HM2 : Hid (m2 = (rest zs 5).length) := by show _ = _; rw [← hm2, HRL.out]
  have hsW : ((w2.alloc (.cells #[.int .u32 gen, .int .u32 bnd] 106)).alloc (.cells #[.int .i64 0, .int .i64 0] 28)).heap.size = w2.heap.size + 2 := by simp
  have HSW : Hid _ := hsW
  clear hC2 hD1 hb2 hD2 kS kH hm2 HV1 hb2a hsW hrl3
  gi_wp2_with fail
  have hD2 := HD2.out
  have kH := HH.out
  have hV2 := HV2.out
  have hsW := HSW.out
  clear HD2 HH HV2 HSW k0 k1
  generalize (w2.alloc (.cells #[.int .u32 gen, .int .u32 bnd] 106)).alloc (.cells #[.int .i64 0, .int .i64 0] 28) = W at *
  generalize w2.heap.size = H at *
  rename_i K0 hK0 hZ0
  have KEY : ∀ (MB G : Nat) (X : World), Below W.heap.size W X → X.heap[MB]? = some (.cells #[.int .u32 gen, .int .u32 bnd, .slice (some ⟨G, 0, none⟩) 0 m2] 25 (0, 0)) → X.ownsRow (H + 2) 38 4 (.slice (some ⟨G, 0, none⟩) 0 m2) 0 [] → MB ≠ G → H + 2 ≤ MB →
      K0 { tmps := #[.slice a n cap, undef, .pointer (some ⟨w.heap.size, 0, none⟩), .pointer (some ⟨w.heap.size + 1, 0, none⟩), .slice (some ⟨bx, ox, none⟩) m m, .int .i64 0, .pointer (some ⟨H, 0, none⟩), .slice ay m2 cy, .pointer (some ⟨H + 1, 0, none⟩), .pointer (some ⟨MB, 0, none⟩), undef, undef, undef, undef, .tuple #[.slice (some ⟨bx, ox, none⟩) m m, .int .i64 0], .slice a n cap, .tuple #[.slice (some ⟨bx, ox, none⟩) m m, .int .i64 0], .slice (some ⟨bx, ox, none⟩) m m, .int .i64 0, .int .i64 0, .bool false, undef, undef, undef, .tuple #[.agg #[.int .u32 gen, .int .u32 bnd], .slice ay m2 cy, .agg #[.int .i64 0, .int .i64 0]], .slice (some ⟨bx, ox, none⟩) m m, .tuple #[.agg #[.int .u32 gen, .int .u32 bnd], .slice ay m2 cy, .agg #[.int .i64 0, .int .i64 0]], .agg #[.int .u32 gen, .int .u32 bnd], .slice ay m2 cy, .agg #[.int .i64 0, .int .i64 0], .pointer (some ⟨H + 1, 0, none⟩), .int .i64 0, .bool false, undef, undef, .pointer (some ⟨H, 0, none⟩), .int .u32 gen, .pointer (some ⟨H, 1, none⟩), .int .u32 bnd, .slice ay m2 cy, .int .i64 m2, .slice (some ⟨G, 0, none⟩) 0 m2, .agg #[.int .u32 gen, .int .u32 bnd, .slice (some ⟨G, 0, none⟩) 0 m2], undef, undef, undef, undef, undef, undef, undef, undef, undef, undef, undef, undef, undef, undef, undef, undef, undef, undef, undef, undef, undef, undef, undef, undef, undef], defers := [] } X := by
    intro MB G X hbX kMB hown hne hMB
    refine hK0 _ _ ?_
    have hE := each_own ⟨bx, ox, none⟩ m m zs X (hV2.below hbX) HM.out (by have := HM.out; omega)
    have hDX := hD2.below hbX
    have kHX := (hbX.block _ (by omega)).trans kH
    clear hbX hV2 hD2 kH hK0
    gi_wp2_with fail
    refine ⟨trivial, rfl, (callsIn_wide.2 hE).mono ?_⟩
    rintro e w3 ⟨B, g, cx, rfl, kB, hvg, hcx, hb3, hBX, cs3, fr3, kg⟩
    have hD3 := hDX.below hb3
    have lMB := (Array.getElem?_eq_some_iff.1 kMB).1
    have kMB3 := (hb3.block _ lMB).trans kMB
    have lH := (Array.getElem?_eq_some_iff.1 kHX).1
    have kH3 := (hb3.block _ lH).trans kHX
    have hown3 := own_below hown hb3
    have s3 := hb3.size
    clear hE hDX kHX kMB hown hb3
    have hm4 : 4 * m ≤ 140737488351232 := by have := HM.out; omega
    gi_wp2_with fail
    refine wp_tells rfl (enters_of Tryz.func105 (by kernel_rfl) rfl) (each_tellsK g m cx zs w3 w.heap.size (fun t => t = 52 ∨ t = 162 ∨ t = 22) (fun X hX => view_kept hvg kg (.inr (.inr rfl)) hX.2) HM.out HW.out hm4 hcx (.inl rfl) (.inr (.inl rfl)) w3 B (Kept.refl _ _ _) (by omega) kB) (by omega) (fun _ => rfl)
      (DecI zs gen bnd w H MB w3.heap.size) (DecX zs bnd w w3.heap.size) (decI_own zs gen bnd w H MB _ (by omega)) (decX_own zs bnd w _ (by omega))
      ⟨hD3, Nat.le_refl _, kH3, ⟨by simp, by simp⟩, _, [], kMB3, hown3, by simp [Value.ownBlock]; omega, rowI_nil⟩
      (fun pre x a' W2 => ∃ Bx, w3.heap.size ≤ Bx ∧ W2.heap[Bx]? = some (.cells #[.int .u16 (opI zs x.1), .slice (some ⟨x.2.1, 0, none⟩) (cntN zs x.1 - 1) x.2.2] 54 (0, 0)) ∧ ToldOk zs w3.heap.size pre x W2 ∧ a' = { tmps := #[.slice a n cap, undef, .pointer (some ⟨w.heap.size, 0, none⟩), .pointer (some ⟨w.heap.size + 1, 0, none⟩), .slice (some ⟨bx, ox, none⟩) m m, .int .i64 0, .pointer (some ⟨H, 0, none⟩), .slice ay m2 cy, .pointer (some ⟨H + 1, 0, none⟩), .pointer (some ⟨MB, 0, none⟩), .int .i64 x.1, .pointer (some ⟨Bx, 0, none⟩), undef, undef, .tuple #[.slice (some ⟨bx, ox, none⟩) m m, .int .i64 0], .slice a n cap, .tuple #[.slice (some ⟨bx, ox, none⟩) m m, .int .i64 0], .slice (some ⟨bx, ox, none⟩) m m, .int .i64 0, .int .i64 0, .bool false, undef, undef, undef, .tuple #[.agg #[.int .u32 gen, .int .u32 bnd], .slice ay m2 cy, .agg #[.int .i64 0, .int .i64 0]], .slice (some ⟨bx, ox, none⟩) m m, .tuple #[.agg #[.int .u32 gen, .int .u32 bnd], .slice ay m2 cy, .agg #[.int .i64 0, .int .i64 0]], .agg #[.int .u32 gen, .int .u32 bnd], .slice ay m2 cy, .agg #[.int .i64 0, .int .i64 0], .pointer (some ⟨H + 1, 0, none⟩), .int .i64 0, .bool false, undef, undef, .pointer (some ⟨H, 0, none⟩), .int .u32 gen, .pointer (some ⟨H, 1, none⟩), .int .u32 bnd, .slice ay m2 cy, .int .i64 m2, .slice (some ⟨G, 0, none⟩) 0 m2, .agg #[.int .u32 gen, .int .u32 bnd, .slice (some ⟨G, 0, none⟩) 0 m2], .slice (some ⟨bx, ox, none⟩) m m, .func (.func 105) #[] #[.pointer (some ⟨B, 0, none⟩)], .int .i64 x.1, .agg #[.int .u16 (opI zs x.1), .slice (some ⟨x.2.1, 0, none⟩) (cntN zs x.1 - 1) x.2.2], undef, undef, undef, undef, undef, undef, undef, undef, undef, undef, undef, undef, undef, undef, undef, undef, undef, undef, undef, undef, undef], defers := [] })
      ?hAx ?assign ?body ?done ?stop
    case hAx =>
      rintro pre x a' s W2 W' row ⟨Bx, h1, h2, h3, h4⟩ hg hr
      exact ⟨Bx, h1, cells_stay h2 hg hr, told_stay4 h3 hg hr, h4⟩
    case assign =>
      rintro l pre x W2 K hI hV hK
      have hbel : ∀ o, Below W2.heap.size W2 (W2.alloc o) := fun o => (Below.refl _ W2).alloc (Nat.le_refl _) o
      have hlt2 := hI.2.1
      simp only [toldV]
      gi_wp2
      exact hK _ _ (KeepsFrom.of_below (hbel _)) (Kept.of_below (hbel _) (by omega)) (OwnFrom.below (decI_own zs gen bnd w H MB _ (by omega)) hI (hbel _)) ⟨W2.heap.size, hlt2, heap_alloc_new W2 _, told_below4 hV (hbel _), rfl⟩
    case stop =>
      rintro D c pre W2 hD _ ⟨rfl, hne2, hDB⟩ hK
      have hput := grownBy_putObj' W2 D (.deferred none)
      have hDE := decB_stay (lo := w3.heap.size) hDB (by omega) hput (fun r e => by cases e; exact ⟨hD, _, hK, rfl⟩)
      obtain ⟨r0, r1, r2, r3, r4⟩ := hDE.cells
      have HDE : Hid _ := hDE.bel
      clear hDB hput hDE kB kg hvg hD3 kMB3 kH3 hown3
      gi_wp2_with fail
      refine ⟨by simp, .inl ⟨_, _, rfl, run_takeDeferred hK, ?_⟩⟩
      refine ⟨.tuple #[.agg #[.int .u32 0, .int .u32 0, .slice none 0 0], .agg #[.int .i64 (decF zs bnd (rest zs 5)).1, .int .i64 (decF zs bnd (rest zs 5)).2]], by simp [results, Tryz.results31, go_sem, r0, r1, r2, r3, r4], HDE.out, .inl ⟨hne2, rfl⟩⟩
    case done =>
      rintro D xs W2 hD hxs ⟨h1, h2, h3, ⟨h4, h4'⟩, v, cs, h5, h6, h7, h8⟩ hK
      obtain ⟨a4, c4, rfl⟩ := own_shape4 h6
      rw [hxs] at h8
      have hok : ∀ p ∈ rest zs 5, (instAt zs bnd p).2 = 0 := fun p hp => by
        rw [← hxs] at hp
        obtain ⟨y, hy, rfl⟩ := List.mem_map.1 hp
        exact h4' y hy
      have hxl : (instsAt zs bnd (rest zs 5)).length = xs.length := by rw [← hxs]; simp [instsAt]
      obtain ⟨c0, c1, c2, c3, c5⟩ := h1.cells
      obtain ⟨f0, f1, f2, f3, f4⟩ := h1.free
      obtain ⟨hcM, _⟩ := one_block h5
      have m0 := hcM 0
      have m1 := hcM 1
      have m2' := hcM 2
      have lMB2 := (Array.getElem?_eq_some_iff.1 h5).1
      obtain ⟨Y, hY⟩ : ∃ Y, Y = fiveW w W2 (.int .u32 gen) (.int .u32 bnd) (.slice a4 xs.length c4) (.int .i64 0) (.int .i64 0) := ⟨_, rfl⟩
      have hDY : DecB w Y (.int .u32 gen) (.int .u32 bnd) (.slice a4 xs.length c4) (.int .i64 0) (.int .i64 0) := by rw [hY]; exact h1.put _ _ _ _ _
      have hKY : Y.heap[D]? = some (.deferred (some [])) := by rw [hY, fiveW_grown _ _ _ _ _ _ _ D (by omega) (by omega)]; exact hK
      have hput := grownBy_putObj' Y D (.deferred none)
      have hpr : ∀ r, some D = some r → ∃ o : Obj, Y.heap[r]? = some o ∧ o.isCells = false := fun r e => by cases e; exact ⟨_, hKY, rfl⟩
      have hDE := decB_stay (lo := w3.heap.size) hDY (by omega) hput (fun r e => by cases e; exact ⟨hD, _, hKY, rfl⟩)
      have hownE : (Y.putObj D (.deferred none)).ownsRow (H + 2) 38 4 (.slice a4 xs.length c4) xs.length cs := own_apartly (by rw [hY]; exact own_five h6 (by omega) _ _ _ _ _) hput (fun g e => .inr (hpr g e))
      have hrowE : RowI (Y.putObj D (.deferred none)) (H + 2) (Value.ownBlock (.slice a4 xs.length c4)) (instsAt zs bnd (rest zs 5)) cs := RowI.grown (by rw [hY]; exact rowI_five (h8.lower (by omega)) (by omega) _ _ _ _ _) hput (fun g e => .inr (hpr g e))
      have hO := hrowE.own hownE hxl
      have HO : Hid (OwnI _ w.heap.size a4 0 _) := OwnI.kept (ob := none) (lo' := w.heap.size) hO (World.grownBy.refl _ _) (fun g e => by cases e) (by omega)
      obtain ⟨r0, r1, r2, r3, r4⟩ := hDE.cells
      have HDE : Hid _ := hDE.bel
      have HY : Hid (Y = fiveW w W2 (.int .u32 gen) (.int .u32 bnd) (.slice a4 xs.length c4) (.int .i64 0) (.int .i64 0)) := hY
      have HOK : Hid (∀ p ∈ rest zs 5, (instAt zs bnd p).2 = 0) := hok
      have HXL : Hid _ := hxl
      clear kB kg hvg hD3 kMB3 kH3 hown3 h1 h3 h4 h4' h5 h6 h7 h8 hK hY hDY hput hpr hDE hownE hrowE hO hcM hok hxl hxs
      gi_wp2_with fail
      have hY := HY.out
      unfold fiveW at hY
      rw [← hY]
      refine ⟨by simp, .inl ⟨_, _, rfl, run_takeDeferred hKY, ?_⟩⟩
      refine ⟨.tuple #[.agg #[.int .u32 gen, .int .u32 bnd, .slice a4 xs.length c4], .agg #[.int .i64 0, .int .i64 0]], by simp [results, Tryz.results31, go_sem, r0, r1, r2, r3, r4], HDE.out, .inr ⟨HOK.out, a4, _, c4, rfl, HXL.out, HO.out⟩⟩
    case body =>
      rintro l pre x a' W2 hl ⟨r, hr⟩ ⟨h1, h2, h3, ⟨h4, h4'⟩, v, cs, h5, h6, h7, h8⟩ ⟨Bx, hBx, hx, hV, rfl⟩
      obtain ⟨a4, c4, rfl⟩ := own_shape4 h6
      have hxm : x.1 ∈ rest zs 5 := by obtain ⟨s, hs⟩ := hV.1; rw [← hs]; simp
      obtain ⟨_, hxl, hbad⟩ := rest_mem zs 5 x.1 hxm
      have hcp := cnt_pos hbad
      have hcf := cnt_fits hbad
      have hml := midL_len zs (x.1 + 1) (cntN zs x.1 - 1) (by omega)
      have hpl : pre.length < (rest zs 5).length := by
        obtain ⟨s, hs⟩ := hV.1
        rw [← hs]; simp
      have hrl := rest_len zs 5
      have hC := inst_any (opI zs x.1) bnd ⟨x.2.1, 0, none⟩ (cntN zs x.1 - 1) x.2.2 (midL zs (x.1 + 1) (cntN zs x.1 - 1)) W2 (View.ofOwn hV.2 hml) hml (rawAt_within HW.out x.1) (by omega)
      rw [show instI (opI zs x.1) (midL zs (x.1 + 1) (cntN zs x.1 - 1)) bnd = instAt zs bnd x.1 from rfl] at hC
      have HDN : Hid ((instAt zs bnd x.1).2 ≠ 0 → decF zs bnd (rest zs 5) = ((instAt zs bnd x.1).2, x.1)) := fun h => decF_next hV h4' h
      have HNX : Hid ((instAt zs bnd x.1).2 = 0 → (pre ++ [x]).map (·.1) <+: rest zs 5 ∧ ∀ y ∈ pre ++ [x], (instAt zs bnd y.1).2 = 0) := fun h => ⟨by rw [List.map_append]; exact hV.1, fun y hy => by
        rcases List.mem_append.1 hy with hy | hy
        · exact h4' y hy
        · rw [List.mem_singleton] at hy; subst hy; exact h⟩
      have HPU : Hid (instsAt zs bnd ((pre ++ [x]).map (·.1)) = instsAt zs bnd (pre.map (·.1)) ++ [(instAt zs bnd x.1).1]) := instsAt_push zs bnd pre x
      generalize instAt zs bnd x.1 = I at *
      obtain ⟨⟨io, it, ir, il⟩, ie⟩ := I
      obtain ⟨kx0, kx1, _⟩ := cell_of_two hx
      obtain ⟨_, kh1, _⟩ := cell_of_two h3
      have lMB2 := (Array.getElem?_eq_some_iff.1 h5).1
      clear hbad hml hcp hcf hxm hx
      generalize opI zs x.1 = op at *
      generalize cntN zs x.1 - 1 = cn at *
      unfold InstR instV at hC
      simp only at *
      gi_wp2_with fail
      refine ⟨trivial, rfl, (CallsIn.inRound l (callsIn_wide.2 hC)).mono ?_⟩
      rintro e w5 ⟨hb5, a5, m5, c5, rfl, hm5, hown5⟩
      have s5 := hb5.size
      have hb6 : Below W2.heap.size W2 (w5.alloc (.cells #[.int .u16 io, .int .u32 it, .int .u32 ir, .slice a5 m5 c5] 38)) := hb5.alloc s5 _
      have hD6 := h1.below hb6
      clear hC
      by_cases hie : ie = 0
      · subst hie
        have hNX := HNX.out rfl
        obtain ⟨i0, hi, hz0, hz1, hz2⟩ := info_parts CopyModule.info
        have HI : Hid (Tryz.prog.info? 38 = some i0 ∧ i0.zero = some (.agg #[.int .u16 0, .int .u32 0, .int .u32 0, .slice none 0 0]) ∧ i0.size = 4 ∧ i0.bytes = 40) := ⟨hi, hz0, hz1, hz2⟩
        have hb7 : Below W2.heap.size W2 ((w5.alloc (.cells #[.int .u16 io, .int .u32 it, .int .u32 ir, .slice a5 m5 c5] 38)).alloc (.cells #[.int .u16 io, .int .u32 it, .int .u32 ir, .slice a5 m5 c5] 38)) := hb6.alloc hb6.size _
        have hD7 := h1.below hb7
        have kI6 := alloc_new w5 #[.int .u16 io, .int .u32 it, .int .u32 ir, .slice a5 m5 c5] 38
        obtain ⟨i6, _⟩ := one_block kI6
        have j0 := i6 0
        have j1 := i6 1
        have j2 := i6 2
        have j3 := i6 3
        obtain ⟨mM, _⟩ := one_block ((hb6.block _ lMB2).trans h5)
        have m2' := mM 2
        have kMB7 := (hb7.block _ lMB2).trans h5
        have own7 := own_below h6 hb7
        have lo7 := h6.lt
        have N1 : Hid (((w5.alloc (.cells #[.int .u16 io, .int .u32 it, .int .u32 ir, .slice a5 m5 c5] 38)).alloc (.cells #[.int .u16 io, .int .u32 it, .int .u32 ir, .slice a5 m5 c5] 38)).ownsRow (H + 2) 38 4 (.slice a4 pre.length c4) pre.length cs) := own7
        have N2 : Hid (∀ (j : Nat) (u : Value), [Value.int .u16 io, .int .u32 it, .int .u32 ir, .slice a5 m5 c5][j]? = some u → ((w5.alloc (.cells #[.int .u16 io, .int .u32 it, .int .u32 ir, .slice a5 m5 c5] 38)).alloc (.cells #[.int .u16 io, .int .u32 it, .int .u32 ir, .slice a5 m5 c5] 38)).cell? ((⟨w5.heap.size + 1, 0, none⟩ : Addr).add j) = some u) := World.news_of_block (cs := #[.int .u16 io, .int .u32 it, .int .u32 ir, .slice a5 m5 c5]) (t := 38) (fr := (0, 0)) (by simpa using alloc_new (w5.alloc (.cells #[.int .u16 io, .int .u32 it, .int .u32 ir, .slice a5 m5 c5] 38)) #[.int .u16 io, .int .u32 it, .int .u32 ir, .slice a5 m5 c5] 38)
        have N3 : Hid (∀ u : Value, u ∈ [Value.int .u16 io, .int .u32 it, .int .u32 ir, .slice a5 m5 c5] → u.oneCell' = true) := by intro u hu; simp at hu; rcases hu with rfl | rfl | rfl | rfl <;> rfl
        have N4 : pre.length + 1 ≤ maxLen := by unfold maxLen; omega
        have N5 : (pre.length + 1) * 40 ≤ 140737488355328 := by omega
        have s7 := hb7.size
        have N6 : Hid (H + 2 ≤ ((w5.alloc (.cells #[.int .u16 io, .int .u32 it, .int .u32 ir, .slice a5 m5 c5] 38)).alloc (.cells #[.int .u16 io, .int .u32 it, .int .u32 ir, .slice a5 m5 c5] 38)).heap.size) := by show _ ≤ _; omega
        have N7 : Hid (((w5.alloc (.cells #[.int .u16 io, .int .u32 it, .int .u32 ir, .slice a5 m5 c5] 38)).alloc (.cells #[.int .u16 io, .int .u32 it, .int .u32 ir, .slice a5 m5 c5] 38)).ownsRow W2.heap.size 61 3 (.slice a5 m5 c5) m5 (il.flatMap argC)) := own_below (own_below hown5 ((Below.refl _ w5).alloc (Nat.le_refl _) _)) ((Below.refl _ _).alloc (Nat.le_refl _) _)
        have FIN : Hid (∀ (g8 cap8 : Nat) (w8 : World), w8.ownsRow (H + 2) 38 4 (.slice (some ⟨g8, 0, none⟩) (pre.length + 1) cap8) (pre.length + 1) (cs ++ [.int .u16 io, .int .u32 it, .int .u32 ir, .slice a5 m5 c5]) →
            ((w5.alloc (.cells #[.int .u16 io, .int .u32 it, .int .u32 ir, .slice a5 m5 c5] 38)).alloc (.cells #[.int .u16 io, .int .u32 it, .int .u32 ir, .slice a5 m5 c5] 38)).grownBy w8 (Value.ownBlock (.slice a4 pre.length c4)) →
            (Value.ownBlock (.slice a4 pre.length c4) = some g8 ∨ g8 = ((w5.alloc (.cells #[.int .u16 io, .int .u32 it, .int .u32 ir, .slice a5 m5 c5] 38)).alloc (.cells #[.int .u16 io, .int .u32 it, .int .u32 ir, .slice a5 m5 c5] 38)).heap.size) →
            w8.cell? ⟨MB, 2, none⟩ = some (.slice a4 pre.length c4) ∧ w8.frozen? ⟨MB, 2, none⟩ = false ∧
            KeepsFrom w3.heap.size W2 (w8.setCell ⟨MB, 2, none⟩ (.slice (some ⟨g8, 0, none⟩) (pre.length + 1) cap8)) ∧ Kept w.heap.size (fun t => t = 52 ∨ t = 162 ∨ t = 22) W2 (w8.setCell ⟨MB, 2, none⟩ (.slice (some ⟨g8, 0, none⟩) (pre.length + 1) cap8)) ∧
            DecI zs gen bnd w H MB w3.heap.size (pre ++ [x]) (w8.setCell ⟨MB, 2, none⟩ (.slice (some ⟨g8, 0, none⟩) (pre.length + 1) cap8))) := by
          intro g8 cap8 w8 hown8 hgr8 hat8
          have hp := RowI.push (x := (io, it, ir, il)) h8 hb7 N7.out hm5 (fun b e => (lo7 b e).2) h2 hgr8 hat8
          have hg8 : g8 ≠ MB := by
            rcases hat8 with h | h
            · exact fun e => h7 (by rw [h, e])
            · omega
          have kMB8 := (hgr8.block MB (by omega) (fun e => h7 e.symm)).trans kMB7
          obtain ⟨m8, mf8⟩ := one_block kMB8
          have gS := grown_setCell w8 MB 2 (.slice (some ⟨g8, 0, none⟩) (pre.length + 1) cap8)
          have kMB9 : (w8.setCell ⟨MB, 2, none⟩ (.slice (some ⟨g8, 0, none⟩) (pre.length + 1) cap8)).heap[MB]? = some (.cells #[.int .u32 gen, .int .u32 bnd, .slice (some ⟨g8, 0, none⟩) (pre.length + 1) cap8] 25 (0, 0)) := by simp [World.setCell, Array.getElem?_modify, kMB8]
          have keepL : ∀ k o, k < H + 2 → W2.heap[k]? = some o → (w8.setCell ⟨MB, 2, none⟩ (.slice (some ⟨g8, 0, none⟩) (pre.length + 1) cap8)).heap[k]? = some o := fun k o hk hko => by
            have lk := (Array.getElem?_eq_some_iff.1 hko).1
            exact (gS.block k (by have := hgr8.size; omega) (fun e => by cases e; omega)).trans ((hgr8.block k (by omega) (fun e => by have := (lo7 k e.symm).1; omega)).trans ((hb7.block k lk).trans hko))
          have hbn : Below w.heap.size W2 (w8.setCell ⟨MB, 2, none⟩ (.slice (some ⟨g8, 0, none⟩) (pre.length + 1) cap8)) := ((hb7.mono (by omega)).grown hgr8 (by omega) (fun k e => by have := (lo7 k e).1; omega)).grown gS (by have := hgr8.size; omega) (fun k e => by cases e; omega)
          refine ⟨m8 2, mf8 2, ?_, ⟨hbn, ?_⟩, ?_⟩
          · exact ((KeepsFrom.of_below hb7).trans ((others_row own7 hgr8).from _)).trans ((KeepsOthers.setCell _ _ _).from _)
          · exact ((KeptT.of_below hb7).trans (KeptT.row own7 hgr8 (by decide))).trans (KeptT.setCell kMB8 (by decide) 2 _)
          · refine ⟨⟨keepL _ _ (by omega) h1.mod, keepL _ _ (by omega) h1.spot, h1.bel.trans hbn⟩, by have := hbn.size; omega, keepL _ _ (by omega) h3, hNX, _, cs ++ [.int .u16 io, .int .u32 it, .int .u32 ir, .slice a5 m5 c5], kMB9, ?_, ?_, ?_⟩
            · rw [List.length_append]
              exact own_grown hown8 gS (fun g e e2 => by simp [Value.ownBlock] at e2; cases e; omega)
            · simp only [Value.ownBlock]; exact fun e => hg8 (by cases e; rfl)
            · rw [HPU.out]
              exact hp.grown gS (fun g e => .inl (by cases e; omega))
        clear hi hz0 hz1 hz2 h1 h3 h4 h4' h5 h6 h7 h8 hV hb5 hb6 hb7 hD6 hD7 kMB7 own7 lo7 hNX kI6 i6 mM HDN HNX HPU kx0 kx1 kh1 hown5 kB kg hvg hD3 kMB3 kH3 hown3 N7
        gi_wp2_with (gi_at_builtin; refine appendIn_lies _ rfl (.tmp 61) (.tmp 63) 23 rfl (H + 2) 38 i0 (.agg #[.int .u16 0, .int .u32 0, .int .u32 0, .slice none 0 0]) 4 40 Tryz.underlying23 HI.out.1 HI.out.2.1 HI.out.2.2.1 HI.out.2.2.2 rfl (by decide) (.slice a4 pre.length c4) pre.length cs rfl N1.out ⟨w5.heap.size + 1, 0, none⟩ 1 1 [.int .u16 io, .int .u32 it, .int .u32 ir, .slice a5 m5 c5] rfl rfl N2.out N3.out (by decide) N4 N5 N6.out _ rfl ?_)
        intro g8 cap8 w8 hown8 hgr8 hat8 hlt8
        obtain ⟨q0, q1, q2, q3, q4⟩ := FIN.out g8 cap8 w8 hown8 hgr8 (by simpa using hat8)
        have HQ2 : Hid _ := q2
        have HQ3 : Hid _ := q3
        have HQ4 : Hid (DecI _ _ _ _ _ _ _ _ _) := q4
        clear hown8 hgr8 hat8 hlt8 q2 q3 q4 FIN N1 N2 N3 N6 j0 j1 j2 j3 m2'
        gi_wp2_with fail
        exact ⟨HQ2.out, HQ3.out, HQ4.out⟩
      · have hDN := HDN.out hie
        have hieb : (ie == 0) = false := by simpa using hie
        obtain ⟨c0, c1, c2, c3, c5'⟩ := hD6.cells
        obtain ⟨f0, f1, f2, f3, f4⟩ := hD6.free
        obtain ⟨Y, hY⟩ : ∃ Y, Y = fiveW w (w5.alloc (.cells #[.int .u16 io, .int .u32 it, .int .u32 ir, .slice a5 m5 c5] 38)) (.int .u32 0) (.int .u32 0) (.slice none 0 0) (.int .i64 ie) (.int .i64 (x.1 : Int)) := ⟨_, rfl⟩
        have hDY : DecB w Y (.int .u32 0) (.int .u32 0) (.slice none 0 0) (.int .i64 ie) (.int .i64 (x.1 : Int)) := by rw [hY]; exact hD6.put _ _ _ _ _
        have HKF : Hid (KeepsFrom w3.heap.size W2 Y) := by
          show KeepsFrom _ _ _
          rw [hY]
          exact (KeepsFrom.of_below hb6).trans (keeps_five _ _ _ _ _ _ _ _)
        have HX : Hid (DecX zs bnd w w3.heap.size .ret (pre ++ [x]) Y) := ⟨rfl, by rw [hDN]; exact hie, by rw [hDN]; exact hDY⟩
        have HY : Hid (Y = fiveW w (w5.alloc (.cells #[.int .u16 io, .int .u32 it, .int .u32 ir, .slice a5 m5 c5] 38)) (.int .u32 0) (.int .u32 0) (.slice none 0 0) (.int .i64 ie) (.int .i64 (x.1 : Int))) := hY
        clear hb6 hb5 hD6 h1 h3 h4 h4' h5 h6 h7 h8 hV hDN HDN HNX HPU hY hDY kx0 kx1 kh1 hown5 kB kg hvg hD3 kMB3 kH3 hown3 hie
        gi_wp2_with fail
        have hY := HY.out
        unfold fiveW at hY
        rw [← hY]
        exact ⟨HKF.out, HX.out⟩
  clear hK0
  obtain ⟨i0, hi, hz0, hz1, hz2⟩ := info_parts CopyModule.info
  have hC0 : Below W.heap.size W W.drew := below_drew W
  have L0 : Hid (∀ w', Below W.heap.size W w' → w'.cell? ⟨H, 0, none⟩ = some (.int .u32 gen)) := fun w' hC => (one_block ((hC.block _ (by omega)).trans kH)).1 0
  have L1 : Hid (∀ w', Below W.heap.size W w' → w'.cell? ⟨H, 1, none⟩ = some (.int .u32 bnd)) := fun w' hC => (one_block ((hC.block _ (by omega)).trans kH)).1 1
  refine wpIn_normal (wpIn_region_any hmix (wpAnyC_sound (C := Below W.heap.size W) _ _ _ _ ?_))
  change wpAnyC _ _ _ _ _ _ _ _ _ _ (World.drew _)
  refine wpAnyC_takeD (i := 0) (some 35) (v := .pointer (some ⟨H, 0, none⟩)) (fun _ => trivial) (by kernel_rfl) rfl rfl (by kernel_rfl) (by kernel_rfl) (by kernel_rfl) (fun _ _ _ h => by cases h.1) hC0 (Or.inl ⟨by kernel_rfl, fun w' hC => by clear hC; go_simp⟩) ?_
  simp only [Act.put, List.setIfInBounds_toArray, List.set_cons_succ, List.set_cons_zero]
  refine wpAnyC_takeD (i := 1) (some 36) (v := .int .u32 gen) (fun _ => trivial) (by kernel_rfl) rfl rfl (by kernel_rfl) (by kernel_rfl) (by kernel_rfl) (fun _ _ _ h => by cases h.1) hC0 (Or.inl ⟨by kernel_rfl, fun w' hC => by have e := L0.out w' hC; clear hC; go_simp⟩) ?_
  simp only [Act.put, List.setIfInBounds_toArray, List.set_cons_succ, List.set_cons_zero]
  refine wpAnyC_takeD (i := 2) (some 37) (v := .pointer (some ⟨H, 1, none⟩)) (fun _ => trivial) (by kernel_rfl) rfl rfl (by kernel_rfl) (by kernel_rfl) (by kernel_rfl) (fun _ _ _ h => by cases h.1) hC0 (Or.inl ⟨by kernel_rfl, fun w' hC => by clear hC; go_simp⟩) ?_
  simp only [Act.put, List.setIfInBounds_toArray, List.set_cons_succ, List.set_cons_zero]
  refine wpAnyC_takeD (i := 3) (some 38) (v := .int .u32 bnd) (fun _ => trivial) (by kernel_rfl) rfl rfl (by kernel_rfl) (by kernel_rfl) (by kernel_rfl) (fun _ _ _ h => by cases h.1) hC0 (Or.inl ⟨by kernel_rfl, fun w' hC => by have e := L1.out w' hC; clear hC; go_simp⟩) ?_
  simp only [Act.put, List.setIfInBounds_toArray, List.set_cons_succ, List.set_cons_zero]
  refine wpAnyC_takeD (i := 4) (some 39) (v := .slice ay m2 cy) (fun _ => trivial) (by kernel_rfl) rfl rfl (by kernel_rfl) (by kernel_rfl) (by kernel_rfl) (fun _ _ _ h => by cases h.1) hC0 (Or.inl ⟨by kernel_rfl, fun w' hC => by clear hC; go_simp⟩) ?_
  simp only [Act.put, List.setIfInBounds_toArray, List.set_cons_succ, List.set_cons_zero]
  refine wpAnyC_takeD (i := 5) (some 40) (v := .int .i64 m2) (fun _ => trivial) (by kernel_rfl) rfl rfl (by kernel_rfl) (by kernel_rfl) (by kernel_rfl) (fun _ _ _ h => by cases h.1) hC0 (Or.inl ⟨by kernel_rfl, fun w' hC => by clear hC; go_simp⟩) ?_
  simp only [Act.put, List.setIfInBounds_toArray, List.set_cons_succ, List.set_cons_zero]
  refine wpAnyC_ready (rs := [6, 8]) (by kernel_rfl) (by simp) ?_
  refine AllC.cons rfl (fun K hK => ?_) (AllC.cons rfl (fun K hK => ?_) AllC.nil)
  · refine stepIn_make rfl (.const (.int .i64 0)) (.tmp 40) 23 rfl (H + 2) 38 i0 (.agg #[.int .u16 0, .int .u32 0, .int .u32 0, .slice none 0 0]) 4 Tryz.underlying23 hi hz0 hz1 .i64 .i64 m2 rfl rfl (by rw [hz2]; omega) (by unfold maxLen; omega) (by show H + 2 ≤ W.heap.size; omega) ?_
    intro w4 hown4 hgr4
    have hC4 : Below W.heap.size W w4 := hC0.grown hgr4 (Nat.le_refl _) (fun k e => by cases e)
    have hsz4 : H + 2 < w4.heap.size := by
      have := (hown4.lt W.drew.heap.size rfl).2
      rw [show W.drew.heap.size = W.heap.size from rfl, hsW] at this
      exact this
    rw [show W.drew.heap.size = W.heap.size from rfl, hsW] at hown4
    simp only [Act.put, List.setIfInBounds_toArray, List.set_cons_succ, List.set_cons_zero]
    rw [show W.drew.heap.size = W.heap.size from rfl, hsW]
    refine hK _ _ hC4 ?_
    clear hK K hgr4
    refine wpAnyC_takeD (i := 7) (some 42) (v := .agg #[.int .u32 gen, .int .u32 bnd, .slice (some ⟨H + 2, 0, none⟩) 0 m2]) (fun _ => trivial) (by kernel_rfl) rfl rfl (by kernel_rfl) (by kernel_rfl) (by kernel_rfl) (fun _ _ _ h => by cases h.1) hC4 (Or.inl ⟨by kernel_rfl, fun w' hC => by clear hC; go_simp⟩) ?_
    simp only [Act.put, List.setIfInBounds_toArray, List.set_cons_succ, List.set_cons_zero]
    refine wpAnyC_ready (rs := [8]) (by kernel_rfl) (by simp) ?_
    refine AllC.cons rfl (fun K hK => ?_) AllC.nil
    go_simp
    have hC5 : Below W.heap.size W (w4.alloc (.cells #[.int .u32 0, .int .u32 0, .slice none 0 0] 25)) := hC4.alloc hC4.size _
    refine hK _ _ hC5 ?_
    clear hK K
    refine wpAnyC_ready (rs := [9]) (by kernel_rfl) (by simp) ?_
    refine AllC.cons rfl (fun K hK => ?_) AllC.nil
    go_simp
    have hC6 : Below W.heap.size W (w4.alloc (.cells #[.int .u32 gen, .int .u32 bnd, .slice (some ⟨H + 2, 0, none⟩) 0 m2] 25)) := hC4.alloc hC4.size _
    refine hK _ _ hC6 ?_
    exact wpAnyC_done (by kernel_rfl) ⟨rfl, KEY w4.heap.size (H + 2) _ hC6 (alloc_new w4 _ _) (hown4.alloc _) (by omega) (by omega)⟩ _
  · go_simp
    have hC4 : Below W.heap.size W (W.alloc (.cells #[.int .u32 0, .int .u32 0, .slice none 0 0] 25)).drew := ((Below.refl _ W).alloc (Nat.le_refl _) _).drew
    refine hK _ _ hC4 ?_
    clear hK K
    have kZ : (W.alloc (.cells #[.int .u32 0, .int .u32 0, .slice none 0 0] 25)).drew.heap[H + 2]? = some (.cells #[.int .u32 0, .int .u32 0, .slice none 0 0] 25 (0, 0)) := by
      rw [← hsW]; exact alloc_new W _ _
    have hsz4 : (W.alloc (.cells #[.int .u32 0, .int .u32 0, .slice none 0 0] 25)).drew.heap.size = H + 3 := by
      show (W.alloc _).heap.size = _
      rw [World.size_alloc]; omega
    generalize (W.alloc (.cells #[.int .u32 0, .int .u32 0, .slice none 0 0] 25)).drew = W4 at *
    refine wpAnyC_ready (rs := [6]) (by kernel_rfl) (by simp) ?_
    refine AllC.cons rfl (fun K hK => ?_) AllC.nil
    refine stepIn_make rfl (.const (.int .i64 0)) (.tmp 40) 23 rfl (H + 2) 38 i0 (.agg #[.int .u16 0, .int .u32 0, .int .u32 0, .slice none 0 0]) 4 Tryz.underlying23 hi hz0 hz1 .i64 .i64 m2 rfl rfl (by rw [hz2]; omega) (by unfold maxLen; omega) (by omega) ?_
    intro w5 hown5 hgr5
    have hC5 : Below W.heap.size W w5 := hC4.grown hgr5 hC4.size (fun k e => by cases e)
    rw [hsz4] at hown5
    simp only [Act.put, List.setIfInBounds_toArray, List.set_cons_succ, List.set_cons_zero]
    rw [hsz4]
    have kZ5 := (hgr5.block (H + 2) (by omega) (fun e => by cases e)).trans kZ
    refine hK _ _ hC5 ?_
    clear hK K hgr5 kZ
    refine wpAnyC_takeD (i := 7) (some 42) (v := .agg #[.int .u32 gen, .int .u32 bnd, .slice (some ⟨H + 3, 0, none⟩) 0 m2]) (fun _ => trivial) (by kernel_rfl) rfl rfl (by kernel_rfl) (by kernel_rfl) (by kernel_rfl) (fun _ _ _ h => by cases h.1) hC5 (Or.inl ⟨by kernel_rfl, fun w' hC => by clear hC; go_simp⟩) ?_
    simp only [Act.put, List.setIfInBounds_toArray, List.set_cons_succ, List.set_cons_zero]
    refine wpAnyC_ready (rs := [9]) (by kernel_rfl) (by simp) ?_
    refine AllC.cons rfl (fun K hK => ?_) AllC.nil
    obtain ⟨z, zf⟩ := one_block kZ5
    have z0 := z 0
    have z1 := z 1
    have z2 := z 2
    have y0 := zf 0
    have y1 := zf 1
    have y2 := zf 2
    go_simp
    have hC6 : Below W.heap.size W (((w5.setCell ⟨H + 2, 0, none⟩ (.int .u32 gen)).setCell ⟨H + 2, 1, none⟩ (.int .u32 bnd)).setCell ⟨H + 2, 2, none⟩ (.slice (some ⟨H + 3, 0, none⟩) 0 m2)) := ((hC5.setCell (by show W.heap.size ≤ H + 2; omega) _).setCell (by show W.heap.size ≤ H + 2; omega) _).setCell (by show W.heap.size ≤ H + 2; omega) _
    refine hK _ _ hC6 ?_
    have hown6 := own_grown (own_grown (own_grown hown5 (grown_setCell w5 (H + 2) 0 (.int .u32 gen)) (fun g e e2 => by simp [Value.ownBlock] at e2; cases e; omega)) (grown_setCell _ (H + 2) 1 (.int .u32 bnd)) (fun g e e2 => by simp [Value.ownBlock] at e2; cases e; omega)) (grown_setCell _ (H + 2) 2 (.slice (some ⟨H + 3, 0, none⟩) 0 m2)) (fun g e e2 => by simp [Value.ownBlock] at e2; cases e; omega)
    exact wpAnyC_done (by kernel_rfl) ⟨rfl, KEY (H + 2) (H + 3) _ hC6 (three_set3 kZ5 _ _ _) hown6 (by omega) (by omega)⟩ _
theorem decode_any (a:Option Addr) (n cap:Nat) (bs:List Int) (w:World) (ha:View .u8 w a bs) (hl:bs.length=n) (hw:Within 256 bs) :
  Calls Tryz.prog 31 #[.slice a n cap] w fun e w'=>Below w.heap.size w w'∧∃ ax m cx,e=.returned (.tuple #[modV (decH bs 2) (decH bs 3) ax m cx,.agg #[.int .i64 (decE bs).1,.int .i64 (decE bs).2]])∧(decL bs).length=m∧OwnI w' w.heap.size ax 0 (decL bs):=by
 by_cases h:splitErr bs=0
 ·rcases readE_any (splitL bs) with h2 | h2
  ·refine (decode_body a n cap bs (splitL bs) w ha hl hw h rfl h2).mono ?_
   have hE:decE bs=decF (splitL bs) (nth (splitL bs) 3) (rest (splitL bs) 5):=by unfold decE;rw [if_neg (by simp [h]),if_neg (by simp [h2])]
   rintro e w' ⟨hb,⟨h3,rfl⟩ | ⟨h3,ax,m,cx,rfl,hm,hO⟩⟩
   ·have e1:decL bs=[]:=by unfold decL;rw [hE,if_neg h3]
    have e2:∀ i,decH bs i=0:=fun i=>by unfold decH;rw [hE,if_neg h3]
    rw [e1,e2,e2,hE]
    exact⟨hb,none,0,0,rfl,rfl,ownI_nil⟩
   ·have hE2:decE bs=(0,0):=by rw [hE];exact decF_all _ _ _ h3
    have e1:decL bs=instsAt (splitL bs) (nth (splitL bs) 3) (rest (splitL bs) 5):=by unfold decL;rw [hE2,if_pos rfl]
    have e2:∀ i,decH bs i=nth (splitL bs) i:=fun i=>by unfold decH;rw [hE2,if_pos rfl]
    rw [e1,e2,e2,hE2]
    exact⟨hb,ax,m,cx,rfl,hm,hO⟩
  ·refine (decode_read a n cap bs w ha hl hw h h2).mono ?_
   rintro e w' ⟨rfl,hb⟩
   have hE:decE bs=readE (splitL bs):=by unfold decE;rw [if_neg (by simp [h]),if_pos h2]
   have e1:decL bs=[]:=by unfold decL;rw [hE,if_neg h2]
   have e2:∀ i,decH bs i=0:=fun i=>by unfold decH;rw [hE,if_neg h2]
   rw [e1,e2,e2,hE]
   exact⟨hb,none,0,0,rfl,rfl,ownI_nil⟩
 ·refine (decode_split a n cap bs w ha hl hw h).mono ?_
  rintro e w' ⟨rfl,hb⟩
  have hE:decE bs=(splitErr bs,0):=by unfold decE;rw [if_pos h]
  have e1:decL bs=[]:=by unfold decL;rw [hE,if_neg h]
  have e2:∀ i,decH bs i=0:=fun i=>by unfold decH;rw [hE,if_neg h]
  rw [e1,e2,e2,hE]
  exact⟨hb,none,0,0,rfl,rfl,ownI_nil⟩
attribute [local go_sem] Oper.semAt_some
set_option linter.unusedVariables false
set_option linter.unusedSimpArgs false

def oneI:InstT:=(128,1,2,[(1,3,⟨#[]⟩),(1,4,⟨#[]⟩)])
theorem kitId_any (n:Int) (w:World):Calls Tryz.prog 41 #[.int .u32 n] w fun e w'=>e=.returned (.agg #[.int .u8 1,.int .u32 n,.string ⟨#[]⟩])∧Below w.heap.size w w':=by
 go_enter Tryz.func41,Tryz.ntmps41
 go_wp2
 refine bodyPost_ret (v:=.agg #[.int .u8 1,.int .u32 n,.string ⟨#[]⟩]) ?_ rfl ⟨rfl,?_⟩
 ·simp [results,Tryz.results41,go_sem]
 ·exact (Below.refl _ _).alloc (Nat.le_refl _) _
attribute [local go_sem] Oper.semAt_some
set_option linter.unusedVariables false
set_option linter.unusedSimpArgs false

set_option maxRecDepth 100000 in
set_option maxHeartbeats 4000000 in
theorem one8_any (w:World):Calls Tryz.prog 23 #[] w fun e w'=>∃ g c,e=.returned (modV 7 9 (some ⟨g,0,none⟩) 1 c)∧InstsV w' (some ⟨g,0,none⟩) [oneI]∧Below w.heap.size w w':=by
 have h3:=fun w=>kitId_any 3 w
 have h4:=fun w=>kitId_any 4 w
 obtain⟨i0,hi,hz0,hz1,hz2⟩:=info_parts CopyModule.info
 have hmix:Tryz.prog.follows .mixedOrders=true:=by kernel_rfl
 unfold modV
 refine (callsIn_wide (n:=0)).1 ?_
 refine callsIn_of_wp_marks Tryz.func23 rfl trivial ?_ rfl
 simp only [Tryz.ntmps23,List.size_toArray,List.length_cons,List.length_nil,Nat.reduceAdd,Nat.reduceSub,Array.replicate_succ,Array.replicate_zero,List.push_toArray,List.append_toArray,List.nil_append,List.cons_append]
 gi_wp2_with fail
 have hB0:Below w.heap.size w ((w.alloc (.cells #[.int .u32 0,.int .u32 0,.slice none 0 0] 25)).alloc (.cells #[.int .u32 7,.int .u32 9,.slice none 0 0] 25)):=((Below.refl _ w).alloc (Nat.le_refl _) _).alloc (by simp) _
 have kR:((w.alloc (.cells #[.int .u32 0,.int .u32 0,.slice none 0 0] 25)).alloc (.cells #[.int .u32 7,.int .u32 9,.slice none 0 0] 25)).heap[w.heap.size]?=some (.cells #[.int .u32 0,.int .u32 0,.slice none 0 0] 25 (0,0)):=(Below.heap_alloc _ _ _ (by simp)).trans (alloc_new w _ _)
 have kM:((w.alloc (.cells #[.int .u32 0,.int .u32 0,.slice none 0 0] 25)).alloc (.cells #[.int .u32 7,.int .u32 9,.slice none 0 0] 25)).heap[w.heap.size+1]?=some (.cells #[.int .u32 7,.int .u32 9,.slice none 0 0] 25 (0,0)):=by simpa using alloc_new (w.alloc (.cells #[.int .u32 0,.int .u32 0,.slice none 0 0] 25)) #[.int .u32 7,.int .u32 9,.slice none 0 0] 25
 generalize (w.alloc (.cells #[.int .u32 0,.int .u32 0,.slice none 0 0] 25)).alloc (.cells #[.int .u32 7,.int .u32 9,.slice none 0 0] 25)=W at *
 have lM:=(Array.getElem?_eq_some_iff.1 kM).1
 have hC0:Below W.heap.size W W.drew:=below_drew W
 have L2:Hid (∀ w',Below W.heap.size W w'→w'.cell? ⟨w.heap.size+1,2,none⟩=some (.slice none 0 0)):=fun w' hC=>(one_block ((hC.block _ lM).trans kM)).1 2
 refine wpIn_normal (wpIn_region_any hmix (wpAnyE_sound (C:=Below W.heap.size W) (E:=fun i=>i==9) _ _ _ _ ?_))
 change wpAnyE _ _ _ _ _ _ _ _ _ _ _ (World.drew _)
 refine wpAnyE_takeD (i:=0) (some 3) (v:=.pointer (some ⟨w.heap.size+1,2,none⟩)) (fun _=>trivial) (by kernel_rfl) rfl rfl (by kernel_rfl) (by kernel_rfl) (by kernel_rfl) (by kernel_rfl) (fun _ _ _ h=>by cases h.1) hC0 (Or.inl ⟨by kernel_rfl,fun w' hC=>by clear hC;go_simp⟩) ?_
 simp only [Act.put,ap1,ap2,ap3]
 refine wpAnyE_takeD (i:=1) (some 4) (v:=.slice none 0 0) (fun _=>trivial) (by kernel_rfl) rfl rfl (by kernel_rfl) (by kernel_rfl) (by kernel_rfl) (by kernel_rfl) (fun _ _ _ h=>by cases h.1) hC0 (Or.inl ⟨by kernel_rfl,fun w' hC=>by have e:=L2.out w' hC;clear hC;go_simp⟩) ?_
 simp only [Act.put,ap1,ap2,ap3]
 refine wpAnyE_ready (rs:=[2]) (by kernel_rfl) (by simp) ?_
 refine AllE.cons rfl (fun K hK=>?_) AllE.nil
 go_simp
 refine⟨trivial,rfl,(callsIn_wide.2 (h3 _)).mono ?_⟩
 rintro e w3 ⟨rfl,hb3⟩
 dsimp only
 have hC3:Below W.heap.size W w3:=hC0.trans hb3
 refine hK _ _ (.inr hC3) ?_
 clear hK K hb3
 refine wpAnyE_ready (rs:=[3]) (by kernel_rfl) (by simp) ?_
 refine AllE.cons rfl (fun K hK=>?_) AllE.nil
 go_simp
 refine⟨trivial,rfl,(callsIn_wide.2 (h4 _)).mono ?_⟩
 rintro e w4 ⟨rfl,hb4⟩
 dsimp only
 have hC4:Below W.heap.size W w4:=hC3.trans (hb4.mono hC3.size)
 refine hK _ _ (.inr hC4) ?_
 clear hK K hb4
 refine wpAnyE_ready (rs:=[4]) (by kernel_rfl) (by simp) ?_
 refine AllE.cons rfl (fun K hK=>?_) AllE.nil
 go_simp
 have hC5:Below W.heap.size W (w4.alloc (.cells #[.int .u8 1,.int .u32 3,.string ⟨#[]⟩,.int .u8 1,.int .u32 4,.string ⟨#[]⟩] 61)):=hC4.alloc hC4.size _
 refine hK _ _ (.inr hC5) ?_
 clear hK K
 refine wpAnyE_ready (rs:=[5]) (by kernel_rfl) (by simp) ?_
 refine AllE.cons rfl (fun K hK=>?_) AllE.nil
 go_simp
 refine hK _ _ (.inr hC5) ?_
 clear hK K
 refine wpAnyE_ready (rs:=[6]) (by kernel_rfl) (by simp) ?_
 refine AllE.cons rfl (fun K hK=>?_) AllE.nil
 go_simp
 have hC6:Below W.heap.size W ((w4.alloc (.cells #[.int .u8 1,.int .u32 3,.string ⟨#[]⟩,.int .u8 1,.int .u32 4,.string ⟨#[]⟩] 61)).alloc (.cells #[.int .u16 128,.int .u32 1,.int .u32 2,.slice (some ⟨w4.heap.size,0,none⟩) 2 2] 38)):=hC5.alloc hC5.size _
 refine hK _ _ (.inr hC6) ?_
 clear hK K
 refine wpAnyE_ready (rs:=[7]) (by kernel_rfl) (by simp) ?_
 refine AllE.cons rfl (fun K hK=>?_) AllE.nil
 have hA:ArgsV ((w4.alloc (.cells #[.int .u8 1,.int .u32 3,.string ⟨#[]⟩,.int .u8 1,.int .u32 4,.string ⟨#[]⟩] 61)).alloc (.cells #[.int .u16 128,.int .u32 1,.int .u32 2,.slice (some ⟨w4.heap.size,0,none⟩) 2 2] 38)) (some ⟨w4.heap.size,0,none⟩) [(1,3,⟨#[]⟩),(1,4,⟨#[]⟩)]:=by
  have kA:=(Below.heap_alloc (w4.alloc (.cells #[.int .u8 1,.int .u32 3,.string ⟨#[]⟩,.int .u8 1,.int .u32 4,.string ⟨#[]⟩] 61)) (.cells #[.int .u16 128,.int .u32 1,.int .u32 2,.slice (some ⟨w4.heap.size,0,none⟩) 2 2] 38) w4.heap.size (by simp)).trans (alloc_new w4 #[.int .u8 1,.int .u32 3,.string ⟨#[]⟩,.int .u8 1,.int .u32 4,.string ⟨#[]⟩] 61)
  obtain⟨hc,_⟩:=one_block kA
  intro j hj
  refine⟨w4.heap.size,0,rfl,by simp;omega,?_⟩
  match j,hj with
  | 0,_=>exact⟨hc 0,hc 1,hc 2⟩
  | 1,_=>exact⟨hc 3,hc 4,hc 5⟩
 have sW:W.heap.size≤w4.heap.size:=hC4.size
 refine stepAny_append _ (fun _=>trivial) rfl (.tmp 4) (.tmp 9) 23 rfl W.heap.size 38 i0 (.agg #[.int .u16 0,.int .u32 0,.int .u32 0,.slice none 0 0]) 4 40 Tryz.underlying23 hi hz0 hz1 hz2 rfl (by decide) (.slice none 0 0) 0 [] rfl (World.ownsRow_nil _ _ _ _) ⟨w4.heap.size+1,0,none⟩ 1 1 [.int .u16 128,.int .u32 1,.int .u32 2,.slice (some ⟨w4.heap.size,0,none⟩) 2 2] rfl rfl (World.news_of_block (cs:=#[.int .u16 128,.int .u32 1,.int .u32 2,.slice (some ⟨w4.heap.size,0,none⟩) 2 2]) (t:=38) (fr:=(0,0)) (by simpa using alloc_new (w4.alloc (.cells #[.int .u8 1,.int .u32 3,.string ⟨#[]⟩,.int .u8 1,.int .u32 4,.string ⟨#[]⟩] 61)) #[.int .u16 128,.int .u32 1,.int .u32 2,.slice (some ⟨w4.heap.size,0,none⟩) 2 2] 38)) (by intro u hu;simp at hu;rcases hu with rfl | rfl | rfl | rfl <;> rfl) (by decide) (by unfold maxLen;decide) (by decide) (by simp;omega) ?_
 intro g7 cap7 w7 hown7 hgr7
 have hb7:Below ((w4.alloc (.cells #[.int .u8 1,.int .u32 3,.string ⟨#[]⟩,.int .u8 1,.int .u32 4,.string ⟨#[]⟩] 61)).alloc (.cells #[.int .u16 128,.int .u32 1,.int .u32 2,.slice (some ⟨w4.heap.size,0,none⟩) 2 2] 38)).heap.size ((w4.alloc (.cells #[.int .u8 1,.int .u32 3,.string ⟨#[]⟩,.int .u8 1,.int .u32 4,.string ⟨#[]⟩] 61)).alloc (.cells #[.int .u16 128,.int .u32 1,.int .u32 2,.slice (some ⟨w4.heap.size,0,none⟩) 2 2] 38)) w7:=(Below.refl _ _).grown hgr7 (Nat.le_refl _) (fun k e=>by simp [Value.ownBlock] at e)
 have hC7:Below W.heap.size W w7:=hC6.trans (hb7.mono hC6.size)
 have hA7:=hA.below hb7
 have hV7:InstsV w7 (some ⟨g7,0,none⟩) [oneI]:=by
  intro j hj
  obtain rfl:j=0:=by simp at hj;exact hj
  have c0:=hown7.cellAt 0 (by decide)
  have c1:=hown7.cellAt 1 (by decide)
  have c2:=hown7.cellAt 2 (by decide)
  have c3:=hown7.cellAt 3 (by decide)
  exact⟨g7,0,some ⟨w4.heap.size,0,none⟩,2,2,rfl,World.block_lt_of_cell? _ _ c0,c0,c1,c2,c3,rfl,hA7,Nat.le_refl _⟩
 have hg7:W.heap.size≤g7:=(hown7.lt g7 rfl).1
 have HVX:Hid (∀ X:World,(∀ k,W.heap.size≤k→X.heap[k]?=w7.heap[k]?)→w7.heap.size≤X.heap.size→InstsV X (some ⟨g7,0,none⟩) [oneI]):=by
  intro X hX hs j hj
  obtain⟨b,off,aj,cj,nj,e,hlt,c1,c2,c3,c4,c5,c6,c7⟩:=hV7 j hj
  obtain rfl:j=0:=by simp at hj;exact hj
  have hc0:=hown7.cellAt 3 (by decide)
  cases e
  have e4:aj=some ⟨w4.heap.size,0,none⟩:=by
   rw [show w7.cell? ⟨g7,0+0 * 4+3,none⟩=w7.cell? ⟨g7,3,none⟩ from rfl,hc0] at c4
   simp at c4
   exact c4.1.symm
  subst e4
  have cell:∀ b o,W.heap.size≤b→X.cell? ⟨b,o,none⟩=w7.cell? ⟨b,o,none⟩:=fun b o hb=>World.cell?_of_block (hX b hb)
  refine⟨g7,0,some ⟨w4.heap.size,0,none⟩,cj,nj,rfl,by omega,(cell _ _ hg7).trans c1,(cell _ _ hg7).trans c2,(cell _ _ hg7).trans c3,(cell _ _ hg7).trans c4,c5,?_,c7⟩
  intro i hi
  obtain⟨b,off,e,hlt,a1,a2,a3⟩:=c6 i hi
  cases e
  exact⟨_,_,rfl,by omega,(cell _ _ sW).trans a1,(cell _ _ sW).trans a2,(cell _ _ sW).trans a3⟩
 simp only [Act.put,ap1,ap2,ap3]
 refine hK _ _ (.inr hC7) ?_
 clear hK K hgr7 hb7 hA hA7 hown7
 refine wpAnyE_ready (rs:=[8]) (by kernel_rfl) (by simp) ?_
 refine AllE.cons rfl (fun K hK=>?_) AllE.nil
 go_simp
 refine hK _ _ (.inr hC7) ?_
 clear hK K
 refine wpAnyE_ready (rs:=[9]) (by kernel_rfl) (by simp) ?_
 refine AllE.cons rfl (fun K hK=>?_) AllE.nil
 have kM7:=(hC7.block _ lM).trans kM
 have kR7:=(hC7.block _ (by omega)).trans kR
 obtain⟨m7,mf7⟩:=one_block kM7
 have y2:=m7 2
 have yf:=mf7 2
 go_simp
 refine hK _ _ (.inl rfl) ?_
 clear hK K y2 yf m7 mf7
 refine wpAnyE_done (by kernel_rfl) ⟨rfl,?_⟩ _
 have kM8:(w7.setCell ⟨w.heap.size+1,2,none⟩ (.slice (some ⟨g7,0,none⟩) 1 cap7)).heap[w.heap.size+1]?=some (.cells #[.int .u32 7,.int .u32 9,.slice (some ⟨g7,0,none⟩) 1 cap7] 25 (0,0)):=by simp [World.setCell,Array.getElem?_modify,kM7]
 have kR8:(w7.setCell ⟨w.heap.size+1,2,none⟩ (.slice (some ⟨g7,0,none⟩) 1 cap7)).heap[w.heap.size]?=some (.cells #[.int .u32 0,.int .u32 0,.slice none 0 0] 25 (0,0)):=(Below.heap_setCell _ _ _ _ (by simp)).trans kR7
 have hBw:Below w.heap.size w (w7.setCell ⟨w.heap.size+1,2,none⟩ (.slice (some ⟨g7,0,none⟩) 1 cap7)):=(hB0.trans (hC7.mono hB0.size)).setCell (by simp) _
 have HV8:Hid (InstsV (((((w7.setCell ⟨w.heap.size+1,2,none⟩ (.slice (some ⟨g7,0,none⟩) 1 cap7)).setCell ⟨w.heap.size,0,none⟩ (.int .u32 7)).setCell ⟨w.heap.size,1,none⟩ (.int .u32 9)).setCell ⟨w.heap.size,2,none⟩ (.slice (some ⟨g7,0,none⟩) 1 cap7))) (some ⟨g7,0,none⟩) [oneI]) :=
  HVX.out _ (fun k hk=>by
   rw [Below.heap_setCell _ _ _ _ (by simp;omega),Below.heap_setCell _ _ _ _ (by simp;omega),Below.heap_setCell _ _ _ _ (by simp;omega),Below.heap_setCell _ _ _ _ (by simp;omega)]) (by simp)
 have hB9:=three_set3 kR8 (.int .u32 7) (.int .u32 9) (.slice (some ⟨g7,0,none⟩) 1 cap7)
 have hBel:=hBw.trans (three_below3 (w7.setCell ⟨w.heap.size+1,2,none⟩ (.slice (some ⟨g7,0,none⟩) 1 cap7)) w.heap.size (.int .u32 7) (.int .u32 9) (.slice (some ⟨g7,0,none⟩) 1 cap7))
 obtain⟨mc,_⟩:=one_block kM8
 have m0:=mc 0
 have m1:=mc 1
 have m2:=mc 2
 obtain⟨rc,rf⟩:=one_block kR8
 have r0:=rc 0
 have r1:=rc 1
 have r2:=rc 2
 have e0:=rf 0
 have e1:=rf 1
 have e2:=rf 2
 have HB9:Hid _:=hB9
 have HBel:Hid _:=hBel
 clear kM8 kR8 hBw hB9 hBel mc rc rf kM7 kR7 hC0 hC3 hC4 hC5 hC6 hC7 kM kR hB0 HVX
 generalize w7.setCell ⟨w.heap.size+1,2,none⟩ (.slice (some ⟨g7,0,none⟩) 1 cap7)=X at *
 gi_wp2_with fail
 have hB9:=HB9.out
 have hBel:=HBel.out
 have hV8:=HV8.out
 clear r0 r1 r2 e0 e1 e2 m0 m1 m2 HB9 HBel HV8
 generalize ((X.setCell _ _).setCell _ _).setCell _ _=Y at *
 obtain⟨d,_⟩:=one_block hB9
 have d0:=d 0
 have d1:=d 1
 have d2:=d 2
 refine⟨.agg #[.int .u32 7,.int .u32 9,.slice (some ⟨g7,0,none⟩) 1 cap7],by simp [results,Tryz.results23,go_sem,d0,d1,d2],g7,cap7,rfl,hV8,hBel⟩
end Go.Proofs.YtonhnflilfjkbaaGreatDoor
