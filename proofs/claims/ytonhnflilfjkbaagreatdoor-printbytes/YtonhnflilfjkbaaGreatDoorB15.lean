/-
  Texts in one: CodeEncode, Law04Awake, MathL, LexBuilder, PrintPage, MathX, MathZ, MathDg, StrconvFormatUint, Toks.
-/
import Derived.Test.YtonhnflilfjkbaaGreatDoorB14
import Derived.Shelf.Strings.BuilderK
import Derived.Shelf.LaysM
import Derived.Shelf.Strconv.Itoa1
import Derived.Shelf.Strconv.Itoa2
import Derived.Lib.ItoaMem
import Derived.Lib.AppendIntMem
import Derived.BigCall
import Derived.BigGuard
namespace Go.Proofs.YtonhnflilfjkbaaGreatDoor
open Go.RowKit
set_option linter.unusedVariables false
set_option linter.unusedSimpArgs false
set_option maxRecDepth 10000
def encW (gen b:Int) (l:List InstT):List Int:=writeTo gen b (rawsL b l) l.length
def encL (gen b:Int) (l:List InstT):List Int:=if (shapeE b l).1=0 then joinL (encW gen b l) else []
set_option maxHeartbeats 2000000 in
theorem codeShape_any (gen bound:Int) (a:Option Addr) (n cap:Nat) (l:List InstT) (w:World) (hg0:0≤gen) (hg1:gen<4294967296) (hb0:0≤bound) (hb1:bound<4294967296) (hv:InstsV w a l) (hok:InstsOk l) (hl:l.length=n) (hn:40 * n≤140737488351232) :
  Calls Tryz.prog 21 #[modV gen bound a n cap] w fun e w'=>e=.returned (.agg #[.int .i64 (shapeE bound l).1,.int .i64 (shapeE bound l).2])∧Below w.heap.size w w':=by
 have hR:=fun wx (hb:Below w.heap.size w wx)=>raws_any gen bound a n cap l wx hg0 hg1 hb0 hb1 (hv.below hb) hok hl hn
 generalize (shapeE bound l).1=e1 at *
 generalize (shapeE bound l).2=e2 at *
 have HL:Hid (l.length=n):=hl
 unfold modV at *
 clear hv hok hl
 have hB0:Below w.heap.size w ((w.alloc (.cells #[.int .u32 gen,.int .u32 bound,.slice a n cap] 25)).alloc (.cells #[.int .i64 0,.int .i64 0] 28)):=((Below.refl _ w).alloc (Nat.le_refl _) _).alloc (by simp) _
 have hC:=hR _ hB0
 have kX:((w.alloc (.cells #[.int .u32 gen,.int .u32 bound,.slice a n cap] 25)).alloc (.cells #[.int .i64 0,.int .i64 0] 28)).heap[w.heap.size+1]?=some (.cells #[.int .i64 0,.int .i64 0] 28 (0,0)):=by simpa using alloc_new (w.alloc (.cells #[.int .u32 gen,.int .u32 bound,.slice a n cap] 25)) #[.int .i64 0,.int .i64 0] 28
 have HB0:Hid _:=hB0
 have HX:Hid _:=kX
 clear hR hB0 kX
 go_enter Tryz.func21,Tryz.ntmps21
 go_wp2_with fail
 have hB0:=HB0.out
 have kX:=HX.out
 clear HB0 HX
 generalize (w.alloc (.cells #[.int .u32 gen,.int .u32 bound,.slice a n cap] 25)).alloc (.cells #[.int .i64 0,.int .i64 0] 28)=W0 at *
 refine hC.mono ?_
 rintro e w1 ⟨hb1',ax,cx,m,rfl,hm,_,hV1⟩
 have l0:=(Array.getElem?_eq_some_iff.1 kX).1
 have s1:=hb1'.size
 have hb2:Below W0.heap.size W0 (w1.alloc (.cells #[.int .i64 e1,.int .i64 e2] 28)):=hb1'.alloc s1 _
 have kX2:=(hb2.block _ l0).trans kX
 obtain⟨d0,d1,_⟩:=cell_of_two (alloc_new w1 #[.int .i64 e1,.int .i64 e2] 28)
 obtain⟨hcX,hfX⟩:=one_block kX2
 have c0:=hcX 0
 have c1:=hcX 1
 have f0:=hfX 0
 have f1:=hfX 1
 have hBel:=hB0.trans (hb2.mono hB0.size)
 have hB3:=two_put2 kX2 (.int .i64 e1) (.int .i64 e2)
 have hBel2:=hBel.trans ((two_below (w1.alloc (.cells #[.int .i64 e1,.int .i64 e2] 28)) (w.heap.size+1) (.int .i64 e1) (.int .i64 e2)).mono (by omega))
 have HB3:Hid _:=hB3
 have HBel2:Hid _:=hBel2
 have hne:w1.heap.size≠w.heap.size+1:=by omega
 clear hC hb1' hb2 kX kX2 hcX hfX hB0 hBel hB3 hBel2 hV1 hm
 go_wp2
 have hB3:=HB3.out
 have hBel:=HBel2.out
 clear HB3 HBel2 c0 c1 f0 f1 d0 d1
 generalize ((w1.alloc _).setCell _ _).setCell _ _=W at hB3 hBel ⊢
 obtain⟨hd,_⟩:=one_block hB3
 have d0:=hd 0
 have d1:=hd 1
 refine bodyPost_ret (v:=.agg #[.int .i64 e1,.int .i64 e2]) ?_ rfl ⟨rfl,hBel⟩
 simp [results,Tryz.results21,go_sem,d0,d1]
end Go.Proofs.YtonhnflilfjkbaaGreatDoor
namespace Go.Proofs.YtonhnflilfjkbaaGreatDoor
open Go.RowKit Go.Shelf
attribute [local go_sem] Oper.semAt_some
set_option linter.unusedVariables false
set_option linter.unusedSimpArgs false

theorem oneB_shape:shapeE 9 [oneI]=(0,0):=by decide +kernel
theorem oneI_ok:InstsOk [oneI]:=by
 intro j hj
 obtain rfl:j=0:=by simp at hj;exact hj
 refine⟨by decide,by decide,by decide,by decide,by decide,by decide,?_,by decide⟩
 intro k hk
 have hk2:k<2:=hk
 match k,hk2 with
 | 0,_=>exact⟨by decide,by decide,by decide,by decide,by decide⟩
 | 1,_=>exact⟨by decide,by decide,by decide,by decide,by decide⟩
end Go.Proofs.YtonhnflilfjkbaaGreatDoor
namespace Go.Proofs.YtonhnflilfjkbaaGreatDoor
open Go.RowKit
def letterB (c:Int):Bool:=c==95 || decide (65≤c∧c≤90) || decide (97≤c∧c≤122)
def digitB (c:Int):Bool:=decide (48≤c∧c≤57)
def blankB (c:Int):Bool:=c==9 || c==13 || c==32
def runB (c:Int):Bool:=letterB c || digitB c
def hexB (c:Int):Bool:=digitB c || decide (97≤c∧c≤102) || decide (65≤c∧c≤70)
def printB (c:Int):Bool:=decide (32≤c∧c≤126)
def worthI (c:Int):Int:=if c≤57 then c - 48 else if 97≤c then c - 87 else c - 55
def dvI (c:Int):Int:=if hexB c then worthI c else 18446744073709551615
def kindL (c:Int):Int:=if letterB c then 3 else if digitB c then 4 else if blankB c then 2 else if c=37 then 5 else if c=45 then 6 else if c=34 then 7 else if c=92 then 8 else if c=61 then 9 else if c=59 then 10 else 1
theorem worth_lo {c:Int} (h:hexB c=true):0≤worthI c:=by
 simp only [hexB,digitB,Bool.or_eq_true,decide_eq_true_eq] at h
 unfold worthI;split
 ·omega
 ·split <;> omega
theorem worth_hi {c:Int} (h:hexB c=true):worthI c<16:=by
 simp only [hexB,digitB,Bool.or_eq_true,decide_eq_true_eq] at h
 unfold worthI;split
 ·omega
 ·split <;> omega
theorem dv_lo (c:Int):0≤dvI c:=by
 unfold dvI;split
 ·exact worth_lo (by assumption)
 ·omega
theorem dv_hi (c:Int):dvI c<18446744073709551616:=by
 unfold dvI;split
 ·have:=worth_hi (c:=c) (by assumption);omega
 ·omega
theorem dv_hex (c:Int):dvI c<16↔hexB c=true:=by
 unfold dvI;split
 ·have:=worth_hi (c:=c) (by assumption)
  constructor
  ·intro _;assumption
  ·intro _;omega
 ·constructor
  ·intro h;omega
  ·intro h;contradiction
theorem digit_hex {c:Int} (h:digitB c=true):hexB c=true:=by simp [hexB,h]
theorem dv_digit (c:Int):dvI c<10↔digitB c=true:=by
 unfold dvI;split
 ·rename_i h
  simp only [hexB,digitB,Bool.or_eq_true,decide_eq_true_eq] at h ⊢
  unfold worthI;split
  ·constructor <;> intro _ <;> omega
  ·split <;> constructor <;> intro _ <;> omega
 ·rename_i h
  constructor
  ·intro h;omega
  ·intro h';exact absurd (digit_hex h') h
/-! ### numbers in digits -/

def valF (b:Int):Int→List Int→Int
 | n,[]=>n
 | n,c :: r=>valF b (n * b+dvI c) r
def allD (b:Int) (l:List Int):Bool:=l.all fun c=>decide (dvI c<b)
theorem valF_snoc (b n:Int) (l:List Int) (c:Int):valF b n (l++[c])=valF b n l * b+dvI c:=by
 induction l generalizing n with
 | nil=>rfl
 | cons x l ih=>simp only [List.cons_append,valF];exact ih _
theorem valF_take (b:Int) (l:List Int) (k:Nat) (h:k<l.length):valF b 0 (l.take (k+1))=valF b 0 (l.take k) * b+dvI (nth l k):=by
 rw [take_snoc l k h,valF_snoc]
theorem valF_ge (b n:Int) (l:List Int) (hb:1≤b) (hn:0≤n):n≤valF b n l:=by
 induction l generalizing n with
 | nil=>exact Int.le_refl _
 | cons c l ih =>
  have h0:=dv_lo c
  have h1:n * 1≤n * b:=Int.mul_le_mul_of_nonneg_left hb hn
  have:=ih (n * b+dvI c) (by omega)
  simp only [valF];omega
theorem valF_lo (b:Int) (l:List Int) (hb:1≤b):0≤valF b 0 l:=valF_ge b 0 l hb (Int.le_refl _)
theorem valF_append (b n:Int) (l m:List Int):valF b n (l++m)=valF b (valF b n l) m:=by
 induction l generalizing n with
 | nil=>rfl
 | cons x l ih=>simp only [List.cons_append,valF];exact ih _
theorem valF_take_le (b:Int) (l:List Int) (k:Nat) (hb:1≤b):valF b 0 (l.take k)≤valF b 0 l:=by
 have e:l=l.take k++l.drop k:=(List.take_append_drop k l).symm
 have h:=valF_ge b (valF b 0 (l.take k)) (l.drop k) hb (valF_lo b _ hb)
 rw [← valF_append,← e] at h
 exact h
theorem valF_lt (b:Int) (l:List Int) (hb:1≤b) (h:allD b l=true) (n:Int) (j:Nat) (hn:n<b ^ j):valF b n l<b ^ (j+l.length):=by
 induction l generalizing n j with
 | nil=>simpa [valF] using hn
 | cons c l ih =>
  simp only [allD,List.all_cons,Bool.and_eq_true,decide_eq_true_eq] at h
  have h1:(n+1) * b≤b ^ j * b:=Int.mul_le_mul_of_nonneg_right (by omega) (by omega)
  have e:(n+1) * b=n * b+b:=by rw [Int.add_mul];omega
  have:=ih h.2 (n * b+dvI c) (j+1) (by rw [Int.pow_succ];omega)
  simp only [valF,List.length_cons]
  rw [show j+(l.length+1)=j+1+l.length by omega]
  exact this
theorem valF_pow (b n:Int) (l:List Int) (hb:1≤b) (hn:0≤n):n * b ^ l.length≤valF b n l:=by
 induction l generalizing n with
 | nil=>simp [valF]
 | cons c l ih =>
  have h0:=dv_lo c
  have hm:0≤n * b:=Int.mul_nonneg hn (by omega)
  have h1:=ih (n * b+dvI c) (by omega)
  have h2:n * b * b ^ l.length≤(n * b+dvI c) * b ^ l.length:=Int.mul_le_mul_of_nonneg_right (by omega) (Int.le_of_lt (Int.pow_pos (by omega)))
  simp only [valF,List.length_cons,Int.pow_succ]
  have e:n * (b ^ l.length * b)=n * b * b ^ l.length:=by rw [Int.mul_comm (b ^ l.length) b,Int.mul_assoc]
  omega
def digsB (b:Int) (l:List Int):Bool:=!l.isEmpty && allD b l && decide (valF b 0 l<4294967296)
def plainB (l:List Int):Bool:=!(decide (1<l.length) && nth l 0==48) && digsB 10 l
theorem allD_take {b:Int} {l:List Int} (h:allD b l=true) (k:Nat):allD b (l.take k)=true:=by
 simp only [allD,List.all_eq_true] at h ⊢
 exact fun x hx=>h x (List.mem_of_mem_take hx)
theorem allD_at {b:Int} {l:List Int} (h:allD b l=true) {k:Nat} (hk:k<l.length):dvI (nth l k)<b:=by
 simp only [allD,List.all_eq_true,decide_eq_true_eq] at h
 have e:nth l k=l[k]:=by simp [nth,List.getD,hk]
 rw [e];exact h _ (List.getElem_mem hk)
theorem allD_snoc {b:Int} {l:List Int} {k:Nat} (hk:k<l.length) (h:allD b (l.take k)=true) (h1:dvI (nth l k)<b):allD b (l.take (k+1))=true:=by
 rw [take_snoc l k hk]
 simp only [allD,List.all_append,Bool.and_eq_true] at h ⊢
 exact⟨h,by simpa using h1⟩
theorem digs_not {b:Int} {l:List Int} {k:Nat} (hk:k<l.length) (h1:b≤dvI (nth l k)):digsB b l=false:=by
 cases e:digsB b l
 ·rfl
 ·simp only [digsB,Bool.and_eq_true] at e
  have:=allD_at e.1.2 hk
  omega
theorem digs_large {b:Int} {l:List Int} {k:Nat} (hb:1≤b) (h1:4294967296≤valF b 0 (l.take k)):digsB b l=false:=by
 cases e:digsB b l
 ·rfl
 ·simp only [digsB,Bool.and_eq_true,decide_eq_true_eq] at e
  have:=valF_take_le b l k hb
  omega
theorem digs_all {b:Int} {l:List Int} (h:allD b l=true) (h1:valF b 0 l<4294967296):digsB b l=!l.isEmpty:=by
 simp [digsB,h,h1]
theorem plain_zero {l:List Int} (h:1<l.length) (h0:nth l 0=48):plainB l=false:=by simp [plainB,h,h0]
theorem plain_digs {l:List Int} (h:¬ (1<l.length∧nth l 0=48)):plainB l=digsB 10 l:=by
 have e:(decide (1<l.length) && nth l 0==48)=false:=by
  cases e:(decide (1<l.length) && nth l 0==48)
  ·rfl
  ·simp at e;exact absurd e h
 rw [plainB,e];rfl
theorem plain_long {l:List Int} (h:10<l.length):plainB l=false:=by
 cases e:plainB l
 ·rfl
 ·match l,h with
  | c :: r,h =>
   simp only [plainB,digsB,Bool.and_eq_true,decide_eq_true_eq,Bool.not_eq_true'] at e
   obtain⟨e1,⟨_,e3⟩,e4⟩:=e
   have hc:dvI c<10:=by have:=allD_at e3 (k:=0) (by simp);exact this
   have hd:=(dv_digit c).1 hc
   have hne:c≠48:=by
    intro hc;subst hc
    have:decide (1<(48 :: r).length)=true:=decide_eq_true (by simp at h ⊢;omega)
    rw [this] at e1
    simp [nth] at e1
   have h1:1≤dvI c:=by
    have:=digit_hex hd
    simp only [digitB,decide_eq_true_eq] at hd
    unfold dvI worthI;rw [if_pos this,if_pos (by omega)];omega
   have h2:=valF_pow 10 (0 * 10+dvI c) r (by omega) (by omega)
   have e5:valF 10 0 (c :: r)=valF 10 (0 * 10+dvI c) r:=rfl
   have h3:(10:Int) ^ 10≤10 ^ r.length:=by
    have hl:10≤r.length:=by simp at h;omega
    obtain⟨m,hm⟩:∃ m,r.length=10+m:=⟨r.length - 10,by omega⟩
    rw [hm,Int.pow_add]
    have h0:(0:Int)<10 ^ m:=Int.pow_pos (by decide)
    have:(1:Int)≤10 ^ m:=by omega
    have:=Int.mul_le_mul_of_nonneg_left this (show (0:Int)≤10 ^ 10 by decide)
    omega
   have h4:1 * (10:Int) ^ r.length≤(0 * 10+dvI c) * 10 ^ r.length:=Int.mul_le_mul_of_nonneg_right (by omega) (Int.le_of_lt (Int.pow_pos (by decide)))
   omega
def numB (l:List Int):Bool :=
 if l.take 1=[45] then plainB (l.drop 1) && decide (1≤valF 10 0 (l.drop 1)∧valF 10 0 (l.drop 1)≤2147483648)
 else if l.take 2=[48,120] then digsB 16 (l.drop 2) && decide (l.length≤10)
 else plainB l
def numV (l:List Int):Int :=
 if l.take 1=[45] then 4294967296 - valF 10 0 (l.drop 1)
 else if l.take 2=[48,120] then valF 16 0 (l.drop 2)
 else valF 10 0 l
def numOut (l:List Int):Int:=if numB l then numV l else 0
def numErr (l:List Int):Int:=if numB l then 0 else 62
/-! ### strings and their numbers -/

theorem strI_inj {s t:ByteArray} (h:strI s=strI t):s=t:=by rw [← str_of_strI s,← str_of_strI t,h]
theorem strI_of {l:List Int} (h:Within 256 l):strI (strOfNums l)=l:=by
 unfold strI strOfNums
 simp only [List.map_map]
 apply List.ext_getElem (by simp)
 intro k h1 h2
 simp only [List.getElem_map,Function.comp_def]
 have:=h (l[k]) (List.getElem_mem h2)
 have hlt:l[k].toNat<256:=by omega
 rw [UInt8.toNat_ofNat_of_lt' (by simpa using hlt)]
 omega
theorem strI_extract (s:ByteArray) (a b:Nat):strI (s.extract a b)=((strI s).take b).drop a:=by
 unfold strI
 rw [ByteArray.data_extract]
 simp [List.map_drop,List.map_take,List.extract_eq_take_drop,List.drop_take]
theorem strOfNums_append (a b:List Int):strOfNums (a++b)=strOfNums a++strOfNums b:=by
 unfold strOfNums
 apply ByteArray.ext
 rw [ByteArray.data_append];simp
end Go.Proofs.YtonhnflilfjkbaaGreatDoor
namespace Go.Proofs.YtonhnflilfjkbaaGreatDoor
open Go.RowKit Go.Shelf
set_option maxRecDepth 10000
set_option linter.unusedVariables false
set_option linter.unusedSimpArgs false
def Bld (B b:Nat) (zs:List Int) (w:World):Prop:=Lib.IsBuilderF 76 5 B b (zs.map (Value.int .u8)) w
theorem bld_lt {B b:Nat} {zs:List Int} {w:World} (h:Bld B b zs w):b<w.heap.size:=by
 rcases h with h | h
 ·exact h.lt
 ·exact h.lt
theorem bld_new (w:World) (B:Nat) (hB:B≤w.heap.size):Bld B w.heap.size [] (w.alloc (.cells #[.pointer none,.slice none 0 0] 76)) :=
 .inl ⟨hB,.slice none 0 0,heap_alloc_new w _,World.ownsRowF_nil _ _ _ _,by simp [Value.ownBlock]⟩
theorem bld_kept {B b:Nat} {zs:List Int} {w w':World} {row:Option Nat} (h:Bld B b zs w) (hg:w.grownBy w' row) (hb:row≠some b) (hr:∀ r,row=some r→∀ c fz,w.heap[r]?≠some (.cells c 5 fz)):Bld B b zs w':=by
 have key:∀ p,Lib.BuilderAtF 76 5 B b p (zs.map (Value.int .u8)) w→Lib.BuilderAtF 76 5 B b p (zs.map (Value.int .u8)) w':=by
  intro p hp
  have hlt:=hp.lt
  obtain⟨hB,v,hbk,hown,hne⟩:=hp
  refine⟨hB,v,(hg.block b hlt (fun e=>hb e.symm)).trans hbk,hown.kept hg ?_,hne⟩
  cases hv:v.ownBlock with
  | none=>exact .inl rfl
  | some g =>
   refine .inr fun e=>?_
   obtain⟨c,fz,hc⟩:=Lib.ownsRowF_kind hown g hv
   exact hr g e.symm c fz hc
 rcases h with h | h
 ·exact .inl (key _ h)
 ·exact .inr (key _ h)
theorem bld_below {B b:Nat} {zs:List Int} {w w':World} (h:Bld B b zs w) (hb:Below w.heap.size w w'):Bld B b zs w' :=
 bld_kept h (row:=none) ⟨hb.os,hb.tape,hb.output,hb.size,fun k hk _=>hb.block k hk⟩ (by simp) (fun r e=>by cases e)
theorem bld_alloc {B b:Nat} {zs:List Int} {w:World} (h:Bld B b zs w) (o:Obj):Bld B b zs (w.alloc o):=bld_below h ((Below.refl _ w).alloc (Nat.le_refl _) o)
theorem Bld.size:(Tryz.prog.info? 76).map (fun i=>i.size)=some 2:=by kernel_rfl
theorem Bld.lies:liesAt Tryz.prog Tryz.prog.depth 76 (2 / Tryz.prog.cellsOf 76) 0 76 1=true:=by kernel_rfl
theorem Bld.info:(Tryz.prog.info? 5).map (fun i=>(i.zero,i.size,i.bytes))=some (some (.int .u8 0),1,1):=by kernel_rfl
set_option maxHeartbeats 1000000 in
theorem copyCheck_used (b:Nat) (w:World) (h0:w.cell? ⟨b,0,none⟩=some (.pointer (some ⟨b,0,none⟩))) :
  Calls Tryz.prog 89 #[.pointer (some ⟨b,0,none⟩)] w fun e w'=>e=.returned (.tuple #[])∧w=w':=by
 obtain⟨j,hj,_⟩:=Option.map_eq_some_iff.1 Bld.size
 go_enter Tryz.func89,Tryz.ntmps89
 go_wp2
 rw [Lib.run_neq_ptr_same w _ Tryz.underlying74 hj]
 go_wp2
 go_end0
 exact⟨rfl,rfl⟩
set_option maxHeartbeats 1000000 in
theorem copyCheck_fresh (b:Nat) (w:World) (h0:w.cell? ⟨b,0,none⟩=some (.pointer none)) (hsh:w.shape? b=some (76,2)) (hfz:w.frozen? ⟨b,0,none⟩=false) :
  Calls Tryz.prog 89 #[.pointer (some ⟨b,0,none⟩)] w fun e w'=>e=.returned (.tuple #[])∧w'=w.setCell ⟨b,0,none⟩ (.pointer (some ⟨b,0,none⟩)):=by
 obtain⟨j,hj,hjs⟩:=Option.map_eq_some_iff.1 Bld.size
 go_enter Tryz.func89,Tryz.ntmps89
 go_wp2
 rw [Lib.run_to_unsafe w ⟨b,0,none⟩ Tryz.underlying74 Tryz.underlying186 hj (by rw [hjs];decide) hsh (Nat.zero_lt_succ 1)]
 simp only [Result.andThen]
 rw [Oper.upon_value]
 go_wp2
 rw [run_callFunc_extern Tryz.func133 (by kernel_rfl) (by kernel_rfl) (by kernel_rfl) (e:=Extern.AbiNoEscape.same) (by kernel_rfl)]
 rw [Lib.run_noEscape]
 simp only [Result.andThen]
 rw [Oper.upon_value]
 go_wp2
 rw [Lib.run_from_unsafe w ⟨b,0,none⟩ Tryz.underlying186 Tryz.underlying74 hj hsh Bld.lies]
 simp only [Result.andThen]
 rw [Oper.upon_value]
 go_wp2
 go_end0
 exact⟨rfl,rfl⟩
theorem copyCheck_any (B b:Nat) (bs:List Value) (w:World) (h:Lib.IsBuilderF 76 5 B b bs w) :
  Calls Tryz.prog 89 #[.pointer (some ⟨b,0,none⟩)] w fun e w'=>e=.returned (.tuple #[])∧(Lib.BuilderAtF 76 5 B b (.pointer (some ⟨b,0,none⟩)) bs w'∧Below B w w'∧Lib.OthersKept 5 (some b) w w'):=by
 rcases h with h | h
 ·refine (copyCheck_fresh b w h.cell0 h.shape h.frozen0).mono ?_
  rintro e w' ⟨rfl,rfl⟩
  exact⟨rfl,h.used _,(Below.refl B w).setCell (p:=⟨b,0,none⟩) h.1 _,(Lib.OthersKept.refl _ _ w).setCell ⟨b,0,none⟩ rfl _⟩
 ·refine (copyCheck_used b w h.cell0).mono ?_
  rintro e w' ⟨rfl,rfl⟩
  exact⟨rfl,h,Below.refl B _,Lib.OthersKept.refl _ _ _⟩
set_option maxHeartbeats 2000000 in
theorem writeByte_any (B b:Nat) (zs:List Int) (c:Int) (w:World) (h:Bld B b zs w) (hlen:zs.length+1≤140737488355328) (hBw:B≤w.heap.size) :
  Calls Tryz.prog 50 #[.pointer (some ⟨b,0,none⟩),.int .u8 c] w fun e w'=>e=.returned .nilIface∧Bld B b (zs++[c]) w'∧Below B w w'∧Lib.OthersKept 5 (some b) w w':=by
 obtain⟨i0,hi,hz0,hz1,hz2⟩:=info_parts Bld.info
 have hC:=copyCheck_any B b _ w h
 have HL:Hid ((zs.map (Value.int .u8)).length=zs.length):=List.length_map _
 clear h
 go_enter Tryz.func50,Tryz.ntmps50
 go_wp2_with fail
 refine hC.mono ?_
 rintro e w1 ⟨rfl,h1,hb1,hk1⟩
 obtain⟨hB,v,hbk,hown,hne⟩:=h1
 have c1:w1.cell? ⟨b,1,none⟩=some v:=by rw [Lib.cell_of_heap hbk];rfl
 rw [HL.out] at hown
 clear hC
 go_wp2_with (at_builtin;refine wpList_append_ownF _ rfl _ _ 44 rfl B 5 i0 (.int .u8 0) 1 1 Tryz.underlying44 hi hz0 hz1 hz2 rfl (by decide) _ _ _ rfl (hown.alloc _) ⟨w1.heap.size,0,none⟩ 1 1 [.int .u8 c] rfl rfl ?c1 ?c2 ?c3 ?c4 ?c5 ?_)
 case c1 =>
  intro j u hj
  match j,hj with
  | 0,hj=>simp at hj;subst hj;simp [Addr.add]
 case c2=>intro u hu;simp at hu;subst hu;rfl
 case c3=>unfold maxLen;omega
 case c4=>omega
 case c5=>have:=hb1.size;simp;omega
 intro v' w2 hown' hgrow _
 have hlt:b<w1.heap.size:=(Array.getElem?_eq_some_iff.1 hbk).1
 have hb2:w2.heap[b]?=some (.cells #[.pointer (some ⟨b,0,none⟩),v] 76 (0,0)):=by
  rw [hgrow.block b (by simp;omega) (fun e=>hne e.symm),Lib.alloc_old w1 _ b hlt]
  exact hbk
 have d1:w2.cell? ⟨b,1,none⟩=some v:=by rw [Lib.cell_of_heap hb2];rfl
 have f1:w2.frozen? ⟨b,1,none⟩=false:=Lib.frozen_of_heap hb2 1
 obtain⟨g,cap,rfl⟩:∃ g cap,v'=.slice (some ⟨g,0,none⟩) (zs.length+1) cap:=by
  rcases hown'.2 with ⟨_,h0⟩ | ⟨g,cap,cur,fz,hv,_⟩
  ·omega
  ·exact⟨g,cap,hv⟩
 have HP:=Lib.BuilderAtF.put (T:=76) (e:=5) hB hb2 (bs':=zs.map (Value.int .u8)++[.int .u8 c]) (by simpa using hown') (by decide)
 have HB:=((hb1.alloc (by have:=hb1.size;omega) _).grown hgrow (by have:=hb1.size;simp;omega) (fun k hk=>(hown.lt k hk).1)).setCell (p:=⟨b,1,none⟩) hB (.slice (some ⟨g,0,none⟩) (zs.length+1) cap)
 have HO:=((hk1.alloc _).grown hgrow (Lib.ownsRowF_kind (hown.alloc _))).setCell ⟨b,1,none⟩ rfl (.slice (some ⟨g,0,none⟩) (zs.length+1) cap)
 clear hown hown' hgrow hb1 hk1
 go_wp2
 go_ret
 exact⟨rfl,by refine .inr ?_;rw [List.map_append];exact HP,HB,HO⟩
set_option maxHeartbeats 2000000 in
theorem writeString_any (B b:Nat) (zs:List Int) (s:ByteArray) (w:World) (h:Bld B b zs w) (hlen:zs.length+s.size≤140737488355328) (hBw:B≤w.heap.size) :
  Calls Tryz.prog 51 #[.pointer (some ⟨b,0,none⟩),.string s] w fun e w'=>e=.returned (.tuple #[.int .i64 s.size,.nilIface])∧Bld B b (zs++strI s) w'∧Below B w w'∧Lib.OthersKept 5 (some b) w w':=by
 obtain⟨i0,hi,hz0,hz1,hz2⟩:=info_parts Bld.info
 have hC:=copyCheck_any B b _ w h
 have HL:Hid ((zs.map (Value.int .u8)).length=zs.length):=List.length_map _
 have HS:Hid (Lib.strCells s=(strI s).map (Value.int .u8)):=by show _=_;simp [Lib.strCells,strI]
 clear h
 go_enter Tryz.func51,Tryz.ntmps51
 go_wp2_with fail
 refine hC.mono ?_
 rintro e w1 ⟨rfl,h1,hb1,hk1⟩
 obtain⟨hB,v,hbk,hown,hne⟩:=h1
 have c1:w1.cell? ⟨b,1,none⟩=some v:=by rw [Lib.cell_of_heap hbk];rfl
 rw [HL.out] at hown
 clear hC
 go_wp2_with (at_builtin;refine Lib.wpList_append_own_stringF _ rfl _ _ 44 9 rfl B 5 i0 Tryz.underlying44 Tryz.underlying9 hi hz0 hz1 hz2 _ _ _ rfl hown s rfl ?c3 ?c4 ?c5 ?_)
 case c3=>unfold maxLen;omega
 case c4=>omega
 case c5=>have:=hb1.size;omega
 intro v' w2 hown' hgrow _
 have hlt:b<w1.heap.size:=(Array.getElem?_eq_some_iff.1 hbk).1
 have hb2:w2.heap[b]?=some (.cells #[.pointer (some ⟨b,0,none⟩),v] 76 (0,0)):=by
  rw [hgrow.block b hlt (fun e=>hne e.symm)]
  exact hbk
 have d1:w2.cell? ⟨b,1,none⟩=some v:=by rw [Lib.cell_of_heap hb2];rfl
 have f1:w2.frozen? ⟨b,1,none⟩=false:=Lib.frozen_of_heap hb2 1
 obtain⟨ao,n',cap,rfl⟩:∃ ao n' cap,v'=.slice ao n' cap:=by
  rcases hown'.2 with ⟨hv,_⟩ | ⟨g,cap,cur,fz,hv,_⟩
  ·exact⟨_,_,_,hv⟩
  ·exact⟨_,_,_,hv⟩
 have HP:=Lib.BuilderAtF.put (T:=76) (e:=5) hB hb2 (bs':=zs.map (Value.int .u8)++Lib.strCells s) (by simpa [Lib.strCells_length] using hown') (by decide)
 have HB:=(hb1.grown hgrow (by have:=hb1.size;omega) (fun k hk=>(hown.lt k hk).1)).setCell (p:=⟨b,1,none⟩) hB (.slice ao n' cap)
 have HO:=(hk1.grown hgrow (Lib.ownsRowF_kind hown)).setCell ⟨b,1,none⟩ rfl (.slice ao n' cap)
 rw [HS.out] at HP
 clear hown hown' hgrow hb1 hk1
 go_wp2
 go_ret2
 exact⟨rfl,by refine .inr ?_;rw [List.map_append];exact HP,HB,HO⟩
def Bld.ren:Go.Shelf.Ren:=⟨fun | 169=>40 | n=>n,fun | 70=>74 | 9=>9 | 0=>0 | 72=>76 | 37=>44 | 127=>125 | 3=>3 | 5=>5 | n=>n,fun | n=>n⟩
theorem Bld.lays:Go.Proofs.Lays.n169 Tryz.prog Bld.ren:={
 mixed:=by kernel_rfl
 f169:=Tryz.func40.trans (congrArg some (by kernel_rfl))
 t0:=Tryz.underlying0
 a0:=Tryz.isAgg0
 z0:=Tryz.sizeOf0
 v0:=Tryz.zeroValue0
 t3:=Tryz.underlying3
 a3:=Tryz.isAgg3
 z3:=Tryz.sizeOf3
 v3:=Tryz.zeroValue3
 t9:=Tryz.underlying9
 a9:=Tryz.isAgg9
 z9:=Tryz.sizeOf9
 v9:=Tryz.zeroValue9
 t37:=Tryz.underlying44
 a37:=Tryz.isAgg44
 z37:=Tryz.sizeOf44
 v37:=Tryz.zeroValue44
 t70:=Tryz.underlying74
 a70:=Tryz.isAgg74
 z70:=Tryz.sizeOf74
 v70:=Tryz.zeroValue74
 t72:=Tryz.underlying76
 a72:=Tryz.isAgg76
 z72:=Tryz.sizeOf76
 v72:=Tryz.zeroValue76
 t127:=Tryz.underlying125
 a127:=Tryz.isAgg125
 z127:=Tryz.sizeOf125
 v127:=Tryz.zeroValue125 }
theorem Bld.extra:Builder.Extra Tryz.prog Bld.ren:={
 sizeBuilder:=by kernel_rfl
 liesBuilder:=by kernel_rfl
 t5:=Tryz.underlying5
 a5:=Tryz.isAgg5
 z5:=Tryz.sizeOf5
 v5:=Tryz.zeroValue5
 infoByte:=by kernel_rfl
 cellsByte:=by kernel_rfl
 sizeByte:=by kernel_rfl
 neB5:=by decide }
theorem within_bytes {zs:List Int} (h:Within 256 zs):zs.map (Value.int .u8)=Lib.byteCells (zs.map fun n=>UInt8.ofNat n.toNat):=by
 unfold Lib.byteCells
 rw [List.map_map]
 apply List.map_congr_left
 intro z hz
 have:=h z hz
 have hlt:z.toNat<256:=by omega
 simp only [Function.comp_def]
 rw [UInt8.toNat_ofNat_of_lt' (by simpa using hlt)]
 congr 1;omega
theorem buildString_any (B b:Nat) (zs:List Int) (w:World) (h:Bld B b zs w) (hz:Within 256 zs) (hBw:B≤w.heap.size) :
  Calls Tryz.prog 40 #[.pointer (some ⟨b,0,none⟩)] w fun e w'=>e=.returned (.string (strOfNums zs))∧Bld B b zs w'∧Below B w w'∧Lib.OthersKept 5 (some b) w w':=by
 unfold Bld at h ⊢
 rw [within_bytes hz] at h ⊢
 exact Any.Builder_String_any_k Bld.lays Bld.extra B b _ w h hBw
def Pge (B b:Nat) (zs:List Int) (w:World):Prop:=Lib.IsBuilderF 78 5 B b (zs.map (Value.int .u8)) w
theorem pge_lt {B b:Nat} {zs:List Int} {w:World} (h:Pge B b zs w):b<w.heap.size:=by
 rcases h with h | h
 ·exact h.lt
 ·exact h.lt
theorem pge_new (w:World) (B:Nat) (hB:B≤w.heap.size):Pge B w.heap.size [] (w.alloc (.cells #[.pointer none,.slice none 0 0] 78)) :=
 .inl ⟨hB,.slice none 0 0,heap_alloc_new w _,World.ownsRowF_nil _ _ _ _,by simp [Value.ownBlock]⟩
theorem pge_kept {B b:Nat} {zs:List Int} {w w':World} {row:Option Nat} (h:Pge B b zs w) (hg:w.grownBy w' row) (hb:row≠some b) (hr:∀ r,row=some r→∀ c fz,w.heap[r]?≠some (.cells c 5 fz)):Pge B b zs w':=by
 have key:∀ p,Lib.BuilderAtF 78 5 B b p (zs.map (Value.int .u8)) w→Lib.BuilderAtF 78 5 B b p (zs.map (Value.int .u8)) w':=by
  intro p hp
  have hlt:=hp.lt
  obtain⟨hB,v,hbk,hown,hne⟩:=hp
  refine⟨hB,v,(hg.block b hlt (fun e=>hb e.symm)).trans hbk,hown.kept hg ?_,hne⟩
  cases hv:v.ownBlock with
  | none=>exact .inl rfl
  | some g =>
   refine .inr fun e=>?_
   obtain⟨c,fz,hc⟩:=Lib.ownsRowF_kind hown g hv
   exact hr g e.symm c fz hc
 rcases h with h | h
 ·exact .inl (key _ h)
 ·exact .inr (key _ h)
theorem pge_below {B b:Nat} {zs:List Int} {w w':World} (h:Pge B b zs w) (hb:Below w.heap.size w w'):Pge B b zs w' :=
 pge_kept h (row:=none) ⟨hb.os,hb.tape,hb.output,hb.size,fun k hk _=>hb.block k hk⟩ (by simp) (fun r e=>by cases e)
theorem Pge.lies:liesAt Tryz.prog Tryz.prog.depth 78 (2 / Tryz.prog.cellsOf 78) 0 76 1=true:=by kernel_rfl
set_option maxHeartbeats 1000000 in
theorem pgeCheck_used (b:Nat) (w:World) (h0:w.cell? ⟨b,0,none⟩=some (.pointer (some ⟨b,0,none⟩))) :
  Calls Tryz.prog 89 #[.pointer (some ⟨b,0,none⟩)] w fun e w'=>e=.returned (.tuple #[])∧w=w':=by
 obtain⟨j,hj,_⟩:=Option.map_eq_some_iff.1 Bld.size
 go_enter Tryz.func89,Tryz.ntmps89
 go_wp2
 rw [Lib.run_neq_ptr_same w _ Tryz.underlying74 hj]
 go_wp2
 go_end0
 exact⟨rfl,rfl⟩
set_option maxHeartbeats 1000000 in
theorem pgeCheck_fresh (b:Nat) (w:World) (h0:w.cell? ⟨b,0,none⟩=some (.pointer none)) (hsh:w.shape? b=some (78,2)) (hfz:w.frozen? ⟨b,0,none⟩=false) :
  Calls Tryz.prog 89 #[.pointer (some ⟨b,0,none⟩)] w fun e w'=>e=.returned (.tuple #[])∧w'=w.setCell ⟨b,0,none⟩ (.pointer (some ⟨b,0,none⟩)):=by
 obtain⟨j,hj,hjs⟩:=Option.map_eq_some_iff.1 Bld.size
 go_enter Tryz.func89,Tryz.ntmps89
 go_wp2
 rw [Lib.run_to_unsafe w ⟨b,0,none⟩ Tryz.underlying74 Tryz.underlying186 hj (by rw [hjs];decide) hsh (Nat.zero_lt_succ 1)]
 simp only [Result.andThen]
 rw [Oper.upon_value]
 go_wp2
 rw [run_callFunc_extern Tryz.func133 (by kernel_rfl) (by kernel_rfl) (by kernel_rfl) (e:=Extern.AbiNoEscape.same) (by kernel_rfl)]
 rw [Lib.run_noEscape]
 simp only [Result.andThen]
 rw [Oper.upon_value]
 go_wp2
 rw [Lib.run_from_unsafe w ⟨b,0,none⟩ Tryz.underlying186 Tryz.underlying74 hj hsh Pge.lies]
 simp only [Result.andThen]
 rw [Oper.upon_value]
 go_wp2
 go_end0
 exact⟨rfl,rfl⟩
theorem pgeCheck_any (B b:Nat) (bs:List Value) (w:World) (h:Lib.IsBuilderF 78 5 B b bs w) :
  Calls Tryz.prog 89 #[.pointer (some ⟨b,0,none⟩)] w fun e w'=>e=.returned (.tuple #[])∧(Lib.BuilderAtF 78 5 B b (.pointer (some ⟨b,0,none⟩)) bs w'∧Below B w w'∧Lib.OthersKept 5 (some b) w w'):=by
 rcases h with h | h
 ·refine (pgeCheck_fresh b w h.cell0 h.shape h.frozen0).mono ?_
  rintro e w' ⟨rfl,rfl⟩
  exact⟨rfl,h.used _,(Below.refl B w).setCell (p:=⟨b,0,none⟩) h.1 _,(Lib.OthersKept.refl _ _ w).setCell ⟨b,0,none⟩ rfl _⟩
 ·refine (pgeCheck_used b w h.cell0).mono ?_
  rintro e w' ⟨rfl,rfl⟩
  exact⟨rfl,h,Below.refl B _,Lib.OthersKept.refl _ _ _⟩
set_option maxHeartbeats 2000000 in
theorem pgeWriteByte_any (B b:Nat) (zs:List Int) (c:Int) (w:World) (h:Pge B b zs w) (hlen:zs.length+1≤140737488355328) (hBw:B≤w.heap.size) :
  Calls Tryz.prog 50 #[.pointer (some ⟨b,0,none⟩),.int .u8 c] w fun e w'=>e=.returned .nilIface∧Pge B b (zs++[c]) w'∧Below B w w'∧Lib.OthersKept 5 (some b) w w':=by
 obtain⟨i0,hi,hz0,hz1,hz2⟩:=info_parts Bld.info
 have hC:=pgeCheck_any B b _ w h
 have HL:Hid ((zs.map (Value.int .u8)).length=zs.length):=List.length_map _
 clear h
 go_enter Tryz.func50,Tryz.ntmps50
 go_wp2_with fail
 refine hC.mono ?_
 rintro e w1 ⟨rfl,h1,hb1,hk1⟩
 obtain⟨hB,v,hbk,hown,hne⟩:=h1
 have c1:w1.cell? ⟨b,1,none⟩=some v:=by rw [Lib.cell_of_heap hbk];rfl
 rw [HL.out] at hown
 clear hC
 go_wp2_with (at_builtin;refine wpList_append_ownF _ rfl _ _ 44 rfl B 5 i0 (.int .u8 0) 1 1 Tryz.underlying44 hi hz0 hz1 hz2 rfl (by decide) _ _ _ rfl (hown.alloc _) ⟨w1.heap.size,0,none⟩ 1 1 [.int .u8 c] rfl rfl ?c1 ?c2 ?c3 ?c4 ?c5 ?_)
 case c1 =>
  intro j u hj
  match j,hj with
  | 0,hj=>simp at hj;subst hj;simp [Addr.add]
 case c2=>intro u hu;simp at hu;subst hu;rfl
 case c3=>unfold maxLen;omega
 case c4=>omega
 case c5=>have:=hb1.size;simp;omega
 intro v' w2 hown' hgrow _
 have hlt:b<w1.heap.size:=(Array.getElem?_eq_some_iff.1 hbk).1
 have hb2:w2.heap[b]?=some (.cells #[.pointer (some ⟨b,0,none⟩),v] 78 (0,0)):=by
  rw [hgrow.block b (by simp;omega) (fun e=>hne e.symm),Lib.alloc_old w1 _ b hlt]
  exact hbk
 have d1:w2.cell? ⟨b,1,none⟩=some v:=by rw [Lib.cell_of_heap hb2];rfl
 have f1:w2.frozen? ⟨b,1,none⟩=false:=Lib.frozen_of_heap hb2 1
 obtain⟨g,cap,rfl⟩:∃ g cap,v'=.slice (some ⟨g,0,none⟩) (zs.length+1) cap:=by
  rcases hown'.2 with ⟨_,h0⟩ | ⟨g,cap,cur,fz,hv,_⟩
  ·omega
  ·exact⟨g,cap,hv⟩
 have HP:=Lib.BuilderAtF.put (T:=78) (e:=5) hB hb2 (bs':=zs.map (Value.int .u8)++[.int .u8 c]) (by simpa using hown') (by decide)
 have HB:=((hb1.alloc (by have:=hb1.size;omega) _).grown hgrow (by have:=hb1.size;simp;omega) (fun k hk=>(hown.lt k hk).1)).setCell (p:=⟨b,1,none⟩) hB (.slice (some ⟨g,0,none⟩) (zs.length+1) cap)
 have HO:=((hk1.alloc _).grown hgrow (Lib.ownsRowF_kind (hown.alloc _))).setCell ⟨b,1,none⟩ rfl (.slice (some ⟨g,0,none⟩) (zs.length+1) cap)
 clear hown hown' hgrow hb1 hk1
 go_wp2
 go_ret
 exact⟨rfl,by refine .inr ?_;rw [List.map_append];exact HP,HB,HO⟩
set_option maxHeartbeats 2000000 in
theorem pgeWriteString_any (B b:Nat) (zs:List Int) (s:ByteArray) (w:World) (h:Pge B b zs w) (hlen:zs.length+s.size≤140737488355328) (hBw:B≤w.heap.size) :
  Calls Tryz.prog 51 #[.pointer (some ⟨b,0,none⟩),.string s] w fun e w'=>e=.returned (.tuple #[.int .i64 s.size,.nilIface])∧Pge B b (zs++strI s) w'∧Below B w w'∧Lib.OthersKept 5 (some b) w w':=by
 obtain⟨i0,hi,hz0,hz1,hz2⟩:=info_parts Bld.info
 have hC:=pgeCheck_any B b _ w h
 have HL:Hid ((zs.map (Value.int .u8)).length=zs.length):=List.length_map _
 have HS:Hid (Lib.strCells s=(strI s).map (Value.int .u8)):=by show _=_;simp [Lib.strCells,strI]
 clear h
 go_enter Tryz.func51,Tryz.ntmps51
 go_wp2_with fail
 refine hC.mono ?_
 rintro e w1 ⟨rfl,h1,hb1,hk1⟩
 obtain⟨hB,v,hbk,hown,hne⟩:=h1
 have c1:w1.cell? ⟨b,1,none⟩=some v:=by rw [Lib.cell_of_heap hbk];rfl
 rw [HL.out] at hown
 clear hC
 go_wp2_with (at_builtin;refine Lib.wpList_append_own_stringF _ rfl _ _ 44 9 rfl B 5 i0 Tryz.underlying44 Tryz.underlying9 hi hz0 hz1 hz2 _ _ _ rfl hown s rfl ?c3 ?c4 ?c5 ?_)
 case c3=>unfold maxLen;omega
 case c4=>omega
 case c5=>have:=hb1.size;omega
 intro v' w2 hown' hgrow _
 have hlt:b<w1.heap.size:=(Array.getElem?_eq_some_iff.1 hbk).1
 have hb2:w2.heap[b]?=some (.cells #[.pointer (some ⟨b,0,none⟩),v] 78 (0,0)):=by
  rw [hgrow.block b hlt (fun e=>hne e.symm)]
  exact hbk
 have d1:w2.cell? ⟨b,1,none⟩=some v:=by rw [Lib.cell_of_heap hb2];rfl
 have f1:w2.frozen? ⟨b,1,none⟩=false:=Lib.frozen_of_heap hb2 1
 obtain⟨ao,n',cap,rfl⟩:∃ ao n' cap,v'=.slice ao n' cap:=by
  rcases hown'.2 with ⟨hv,_⟩ | ⟨g,cap,cur,fz,hv,_⟩
  ·exact⟨_,_,_,hv⟩
  ·exact⟨_,_,_,hv⟩
 have HP:=Lib.BuilderAtF.put (T:=78) (e:=5) hB hb2 (bs':=zs.map (Value.int .u8)++Lib.strCells s) (by simpa [Lib.strCells_length] using hown') (by decide)
 have HB:=(hb1.grown hgrow (by have:=hb1.size;omega) (fun k hk=>(hown.lt k hk).1)).setCell (p:=⟨b,1,none⟩) hB (.slice ao n' cap)
 have HO:=(hk1.grown hgrow (Lib.ownsRowF_kind hown)).setCell ⟨b,1,none⟩ rfl (.slice ao n' cap)
 rw [HS.out] at HP
 clear hown hown' hgrow hb1 hk1
 go_wp2
 go_ret2
 exact⟨rfl,by refine .inr ?_;rw [List.map_append];exact HP,HB,HO⟩
end Go.Proofs.YtonhnflilfjkbaaGreatDoor
namespace Go.Proofs.YtonhnflilfjkbaaGreatDoor
open Go.RowKit
/-! ### quotes -/

def hexD (n:Int):Int:=if n<10 then 48+n else 87+n
def escL (c:Int):List Int:=if c=34∨c=92 then [92,c] else if printB c then [c] else [92,120,hexD (c / 16),hexD (c % 16)]
def quoteL (l:List Int):List Int:=34 :: (l.flatMap escL++[34])
theorem hexD_within {n:Int} (h0:0≤n) (h1:n<16):0≤hexD n∧hexD n<256:=by unfold hexD;split <;> omega
theorem escL_within {c:Int} (h0:0≤c) (h1:c<256):Within 256 (escL c):=by
 have a:=hexD_within (n:=c / 16) (by omega) (by omega)
 have b:=hexD_within (n:=c % 16) (by omega) (by omega)
 intro z hz
 unfold escL at hz
 split at hz
 ·simp at hz;omega
 ·split at hz
  ·simp at hz;omega
  ·simp only [List.mem_cons,List.not_mem_nil,or_false] at hz
   rcases hz with rfl | rfl | rfl | rfl <;> omega
theorem escL_len (c:Int):(escL c).length≤4:=by
 unfold escL;split
 ·simp
 ·split <;> simp
theorem flat_within {l:List Int} (h:Within 256 l):Within 256 (l.flatMap escL):=by
 intro z hz
 obtain⟨c,hc,hz⟩:=List.mem_flatMap.1 hz
 exact escL_within (h c hc).1 (h c hc).2 z hz
theorem flat_lenX (l:List Int):(l.flatMap escL).length≤4 * l.length:=by
 induction l with
 | nil=>simp
 | cons c l ih =>
  have:=escL_len c
  simp only [List.flatMap_cons,List.length_append,List.length_cons];omega
theorem within_appX {m:Int} {a b:List Int} (ha:Within m a) (hb:Within m b):Within m (a++b):=fun z hz=>by
 rcases List.mem_append.1 hz with h | h
 ·exact ha z h
 ·exact hb z h
theorem within_cons {m c:Int} {a:List Int} (h0:0≤c) (h1:c<m) (ha:Within m a):Within m (c :: a):=fun z hz=>by
 rcases List.mem_cons.1 hz with h | h
 ·subst h;exact⟨h0,h1⟩
 ·exact ha z h
theorem quoteL_within {l:List Int} (h:Within 256 l):Within 256 (quoteL l) :=
 within_cons (by omega) (by omega) (within_appX (flat_within h) (within_one (by omega) (by omega)))
theorem quoteL_len (l:List Int):(quoteL l).length≤4 * l.length+2:=by
 have:=flat_lenX l
 simp only [quoteL,List.length_cons,List.length_append,List.length_nil];omega
theorem flat_snoc (l:List Int) (k:Nat) (h:k<l.length):(l.take (k+1)).flatMap escL=(l.take k).flatMap escL++escL (nth l k):=by
 rw [take_snoc l k h];simp
/-! ### tokens -/

theorem kind_letter (c:Int):(kindL c==3)=letterB c:=by
 unfold kindL
 cases letterB c
 ·simp only [Bool.false_eq_true,if_false]
  repeat' split
  all_goals rfl
 ·rfl
theorem kind_run (c:Int):(kindL c==3 || kindL c==4)=runB c:=by
 unfold kindL runB
 cases letterB c
 ·cases digitB c
  ·simp only [Bool.false_eq_true,if_false]
   repeat' split
   all_goals rfl
  ·rfl
 ·rfl
theorem kind_lo (c:Int):1≤kindL c:=by unfold kindL;repeat' split <;> omega
theorem kind_hi (c:Int):kindL c≤10:=by unfold kindL;repeat' split <;> omega
def wordB (l:List Int):Bool:=!l.isEmpty && l.all runB && letterB (nth l 0)
def tokOk (k:Int) (l:List Int):Bool:=if k=1 then wordB l else if k=2 then plainB l else if k=3 then numB l else if k=4 then true else if k=5 then decide (l=[61]) else false
def tokS (k:Int) (l:List Int):List Int:=if k=2 then 37 :: l else if k=4 then quoteL l else l
theorem word_not {l:List Int} {k:Nat} (h:k<l.length) (hr:runB (nth l k)=false):wordB l=false:=by
 have e:nth l k=l[k]:=by simp [nth,List.getD,h]
 cases hb:wordB l
 ·rfl
 ·simp only [wordB,Bool.and_eq_true,List.all_eq_true] at hb
  have:=hb.1.2 _ (List.getElem_mem h)
  rw [← e,hr] at this;cases this
theorem word_all {l:List Int} (h:l≠[]) (hr:∀ k,k<l.length→runB (nth l k)=true):wordB l=letterB (nth l 0):=by
 have e:l.all runB=true:=by
  rw [List.all_eq_true]
  intro x hx
  obtain⟨k,hk,rfl⟩:=List.getElem_of_mem hx
  have:=hr k hk
  have e:nth l k=l[k]:=by simp [nth,List.getD,hk]
  rwa [e] at this
 have e2:l.isEmpty=false:=by cases l <;> simp_all
 simp [wordB,e,e2]
theorem tokS_within {k:Int} {l:List Int} (h:Within 256 l):Within 256 (tokS k l):=by
 unfold tokS;split
 ·exact within_cons (by omega) (by omega) h
 ·split
  ·exact quoteL_within h
  ·exact h
theorem tokS_len (k:Int) (l:List Int):(tokS k l).length≤4 * l.length+2:=by
 have:=quoteL_len l
 unfold tokS;split
 ·simp;omega
 ·split <;> omega
abbrev TokT:=Int×ByteArray×Int
def nthT (l:List TokT) (k:Nat):TokT:=l.getD k (0,⟨#[]⟩,0)
def wAll (l:List TokT):List Int:=l.flatMap fun t=>32 :: tokS t.1 (strI t.2.1)
def wOk (l:List TokT):Bool:=l.all fun t=>tokOk t.1 (strI t.2.1)
def wOut (l:List TokT):List Int:=if wOk l then (wAll l).drop 1 else []
def wErr (l:List TokT):Int:=if wOk l then 0 else 2
def bulkT (l:List TokT):Nat:=(l.map fun t=>t.2.1.size).sum
theorem takeT_snoc (l:List TokT) (k:Nat) (h:k<l.length):l.take (k+1)=l.take k++[nthT l k]:=by
 rw [List.take_succ_eq_append_getElem h];simp [nthT,List.getD,h]
theorem wAll_snoc (l:List TokT) (k:Nat) (h:k<l.length):wAll (l.take (k+1))=wAll (l.take k)++32 :: tokS (nthT l k).1 (strI (nthT l k).2.1):=by
 rw [takeT_snoc l k h];simp [wAll]
theorem wAll_drop0 (l:List TokT) (h:0<l.length):(wAll (l.take 1)).drop 1=tokS (nthT l 0).1 (strI (nthT l 0).2.1):=by
 rw [wAll_snoc l 0 h];simp [wAll]
theorem wAll_dropS (l:List TokT) (k:Nat) (h0:0<k) (h:k<l.length):(wAll (l.take (k+1))).drop 1=((wAll (l.take k)).drop 1++[32])++tokS (nthT l k).1 (strI (nthT l k).2.1):=by
 rw [wAll_snoc l k h]
 have hl:1≤(wAll (l.take k)).length:=by
  obtain⟨m,rfl⟩:∃ m,k=m+1:=⟨k - 1,by omega⟩
  rw [wAll_snoc l m (by omega)];simp;omega
 rw [List.drop_append_of_le_length hl];simp
theorem wOk_at {l:List TokT} (h:wOk l=true) {k:Nat} (hk:k<l.length):tokOk (nthT l k).1 (strI (nthT l k).2.1)=true:=by
 simp only [wOk,List.all_eq_true] at h
 have e:nthT l k=l[k]:=by simp [nthT,List.getD,hk]
 rw [e];exact h _ (List.getElem_mem hk)
theorem wOk_not {l:List TokT} {k:Nat} (hk:k<l.length) (h:tokOk (nthT l k).1 (strI (nthT l k).2.1)=false):wOk l=false:=by
 cases e:wOk l
 ·rfl
 ·rw [wOk_at e hk] at h;cases h
theorem wOk_all {l:List TokT} (h:∀ k,k<l.length→tokOk (nthT l k).1 (strI (nthT l k).2.1)=true):wOk l=true:=by
 simp only [wOk,List.all_eq_true]
 intro x hx
 obtain⟨k,hk,rfl⟩:=List.getElem_of_mem hx
 have:=h k hk
 have e:nthT l k=l[k]:=by simp [nthT,List.getD,hk]
 rwa [e] at this
theorem wAll_within (l:List TokT):Within 256 (wAll l):=by
 intro z hz
 obtain⟨t,_,hz⟩:=List.mem_flatMap.1 hz
 rcases List.mem_cons.1 hz with h | h
 ·omega
 ·exact tokS_within (strI_within _) z h
theorem within_dropX {m:Int} {l:List Int} (h:Within m l) (n:Nat):Within m (l.drop n):=fun z hz=>h z (List.mem_of_mem_drop hz)
theorem wAll_len (l:List TokT):(wAll l).length≤4 * bulkT l+3 * l.length:=by
 induction l with
 | nil=>simp [wAll]
 | cons t l ih =>
  have:=tokS_len t.1 (strI t.2.1)
  rw [strI_len] at this
  have e:wAll (t :: l)=(32 :: tokS t.1 (strI t.2.1))++wAll l:=rfl
  rw [e]
  have e2:bulkT (t :: l)=t.2.1.size+bulkT l:=rfl
  simp only [List.length_append,List.length_cons,e2] at *
  omega
theorem bulkT_take (l:List TokT) (k:Nat):bulkT (l.take k)≤bulkT l:=by
 induction l generalizing k with
 | nil=>simp
 | cons t l ih =>
  cases k with
  | zero=>simp [bulkT]
  | succ k =>
   have:=ih k
   simp only [List.take_succ_cons,bulkT,List.map_cons,List.sum_cons] at *
   omega
theorem bulkT_at (l:List TokT) (k:Nat) (h:k<l.length):(nthT l k).2.1.size≤bulkT l:=by
 have h1:=bulkT_take l (k+1)
 rw [takeT_snoc l k h] at h1
 have e:bulkT (l.take k++[nthT l k])=bulkT (l.take k)+(nthT l k).2.1.size:=by simp [bulkT]
 omega
/-! ### reading -/

def runE (l:List Int) (p:Nat):Nat:=p+((l.drop p).takeWhile runB).length
theorem runE_spec {l:List Int} {p k:Nat} (hp:p≤k) (hk:k≤l.length) (h:∀ i,p≤i→i<k→runB (nth l i)=true) (he:k=l.length∨runB (nth l k)=false):runE l p=k:=by
 have key:∀ (n:Nat) (p:Nat),k - p=n→p≤k→(∀ i,p≤i→i<k→runB (nth l i)=true)→((l.drop p).takeWhile runB).length=k - p:=by
  intro n
  induction n with
  | zero =>
   intro p hn hp _
   obtain rfl:p=k:=by omega
   rcases he with he | he
   ·rw [List.drop_eq_nil_of_le (by omega)];simp
   ·by_cases hl:p<l.length
    ·rw [List.drop_eq_getElem_cons hl]
     have e:nth l p=l[p]:=by simp [nth,List.getD,hl]
     rw [e] at he
     rw [List.takeWhile_cons_of_neg (by simp [he])];simp
    ·rw [List.drop_eq_nil_of_le (by omega)];simp
  | succ n ih =>
   intro p hn hp h
   have hl:p<l.length:=by omega
   have e:nth l p=l[p]:=by simp [nth,List.getD,hl]
   have h0:=h p (Nat.le_refl _) (by omega)
   rw [e] at h0
   rw [List.drop_eq_getElem_cons hl,List.takeWhile_cons_of_pos (by simpa using h0)]
   have:=ih (p+1) (by omega) (by omega) (fun i hi hik=>h i (by omega) hik)
   simp only [List.length_cons];omega
 have:=key _ p rfl hp h
 unfold runE;omega
/-! ### moved to the right -/

/-! ### one token -/

theorem digit_run {c:Int} (h:digitB c=true):runB c=true:=by simp [runB,h]
theorem plain_all {t:List Int} (h:plainB t=true):t≠[]∧∀ k,k<t.length→digitB (nth t k)=true:=by
 simp only [plainB,digsB,Bool.and_eq_true,Bool.not_eq_true',List.isEmpty_eq_false_iff] at h
 exact⟨h.2.1.1,fun k hk=>(dv_digit _).1 (allD_at h.2.1.2 hk)⟩
theorem hex_run {c:Int} (h:hexB c=true):runB c=true:=by
 simp only [hexB,digitB,Bool.or_eq_true,decide_eq_true_eq] at h
 simp only [runB,letterB,digitB,Bool.or_eq_true,decide_eq_true_eq,beq_iff_eq]
 omega
theorem nth_dropX (l:List Int) (a k:Nat):nth (l.drop a) k=nth l (a+k):=by unfold nth;simp [List.getD,List.getElem?_drop]
theorem num_shape {t:List Int} (h:numB t=true):0<t.length∧(digitB (nth t 0)=true∨nth t 0=45)∧∀ k,1≤k→k<t.length→runB (nth t k)=true:=by
 unfold numB at h
 split at h
 ·rename_i e
  have hl:0<t.length:=by
   have:=congrArg List.length e
   rw [List.length_take] at this;simp at this;omega
  have h0:nth t 0=45:=by
   cases t with
   | nil=>simp at hl
   | cons a r=>simp at e;simp [nth,e]
  simp only [Bool.and_eq_true] at h
  have hp:=plain_all h.1
  refine⟨hl,.inr h0,fun k h1 hk=>?_⟩
  have:=hp.2 (k - 1) (by rw [List.length_drop];omega)
  rw [nth_dropX,show 1+(k - 1)=k by omega] at this
  exact digit_run this
 ·split at h
  ·rename_i e
   have hl:1<t.length:=by
    have:=congrArg List.length e
    rw [List.length_take] at this;simp at this;omega
   have h0:nth t 0=48∧nth t 1=120:=by
    match t,hl with
    | [a],hl=>simp at hl
    | a :: b :: r,_=>simp at e;simp [nth,e]
   simp only [digsB,Bool.and_eq_true] at h
   refine⟨by omega,.inl (by rw [h0.1];decide),fun k h1 hk=>?_⟩
   by_cases e1:k=1
   ·subst e1;rw [h0.2];decide
   ·have:=allD_at h.1.1.2 (k:=k - 2) (by rw [List.length_drop];omega)
    rw [nth_dropX,show 2+(k - 2)=k by omega] at this
    exact hex_run ((dv_hex _).1 this)
  ·have hp:=plain_all h
   have hl:0<t.length:=by
    cases t with
    | nil=>exact absurd rfl hp.1
    | cons a r=>simp
   exact⟨hl,.inl (hp.2 0 hl),fun k _ hk=>digit_run (hp.2 k hk)⟩
/-! ### a line of tokens -/
set_option linter.unusedSimpArgs false
set_option maxRecDepth 10000
set_option linter.unusedVariables false
def dgL (n:Nat):List Int:=if n≤9 then [48+(n:Int)] else dgL (n / 10)++[48+((n % 10:Nat):Int)]
termination_by n
decreasing_by omega
theorem dgL_small {n:Nat} (h:n≤9):dgL n=[48+(n:Int)]:=by rw [dgL,if_pos h]
theorem dgL_big {n:Nat} (h:¬ n≤9):dgL n=dgL (n / 10)++[48+((n % 10:Nat):Int)]:=by rw [dgL,if_neg h]
theorem dv_dg (d:Nat) (h:d≤9):dvI (48+(d:Int))=d∧digitB (48+(d:Int))=true:=by
 have hd:digitB (48+(d:Int))=true:=by simp [digitB];omega
 refine⟨?_,hd⟩
 unfold dvI
 rw [if_pos (digit_hex hd)]
 unfold worthI
 rw [if_pos (by omega)]
 omega
theorem dgL_facts:∀ n:Nat,valF 10 0 (dgL n)=n∧allD 10 (dgL n)=true∧(0<(dgL n).length)∧(1≤n→nth (dgL n) 0≠48)∧(1<(dgL n).length→9<n)∧Within 256 (dgL n)∧(∀ z∈dgL n,48≤z∧z≤57):=by
 intro n
 induction n using Nat.strongRecOn with
 | _ n ih =>
  by_cases h:n≤9
  ·obtain⟨d1,d2⟩:=dv_dg n h
   rw [dgL_small h]
   refine⟨?_,?_,by simp,?_,by simp,within_one (by omega) (by omega),?_⟩
   ·simp [valF,d1]
   ·simp [allD,d1];omega
   ·intro h1;simp [nth];omega
   ·intro z hz;have:=List.mem_singleton.1 hz;omega
  ·obtain⟨i1,i2,i3,i4,i5,i6,i7⟩:=ih (n / 10) (by omega)
   obtain⟨d1,d2⟩:=dv_dg (n % 10) (by omega)
   rw [dgL_big h]
   refine⟨?_,?_,by simp,?_,fun _=>by omega,within_appX i6 (within_one (by omega) (by omega)),?_⟩
   ·rw [valF_snoc,i1,d1];omega
   ·simp only [allD,List.all_append,Bool.and_eq_true] at i2 ⊢
    exact⟨i2,by simp only [List.all_cons,List.all_nil,Bool.and_true,decide_eq_true_eq];rw [d1];omega⟩
   ·intro _
    rw [getD_left _ _ _ i3]
    exact i4 (by omega)
   ·intro z hz
    rcases List.mem_append.1 hz with hz | hz
    ·exact i7 z hz
    ·have:=List.mem_singleton.1 hz;omega
theorem dgL_len:∀ (k n:Nat),n<10 ^ (k+1)→(dgL n).length≤k+1:=by
 intro k
 induction k with
 | zero=>intro n h;rw [dgL_small (by omega)];simp
 | succ k ih =>
  intro n h
  by_cases h9:n≤9
  ·rw [dgL_small h9];simp
  ·rw [dgL_big h9,List.length_append]
   have:=ih (n / 10) (by rw [Nat.pow_succ] at h;omega)
   simp;omega
theorem dgL_plain {n:Nat} (h:n<4294967296):plainB (dgL n)=true:=by
 obtain⟨h1,h2,h3,h4,h5,_⟩:=dgL_facts n
 have e:(decide (1<(dgL n).length) && nth (dgL n) 0==48)=false:=by
  cases e:(decide (1<(dgL n).length) && nth (dgL n) 0==48)
  ·rfl
  ·simp at e
   exact absurd e.2 (h4 (by have:=h5 e.1;omega))
 have e2:(dgL n).isEmpty=false:=by
  cases e:dgL n with
  | nil=>rw [e] at h3;simp at h3
  | cons a r=>rfl
 simp only [plainB,digsB,e,e2,h1,h2]
 simp;omega
theorem dgL_num {n:Nat} (h:n<4294967296):numB (dgL n)=true∧numV (dgL n)=(n:Int):=by
 obtain⟨h1,h2,h3,h4,h5,_,h7⟩:=dgL_facts n
 have e1:¬ (dgL n).take 1=[45]:=fun e=>by
  have:(45:Int)∈dgL n:=List.mem_of_mem_take (by rw [e];simp:(45:Int)∈(dgL n).take 1)
  have:=h7 _ this;omega
 have e2:¬ (dgL n).take 2=[48,120]:=fun e=>by
  have:(120:Int)∈dgL n:=List.mem_of_mem_take (by rw [e];simp:(120:Int)∈(dgL n).take 2)
  have:=h7 _ this;omega
 unfold numB numV
 rw [if_neg e1,if_neg e1,if_neg e2,if_neg e2]
 exact⟨dgL_plain h,h1⟩
def dgS (n:Int):ByteArray:=strOfNums (dgL n.toNat)
theorem strI_dgS (n:Int):strI (dgS n)=dgL n.toNat:=strI_of (dgL_facts _).2.2.2.2.2.1
theorem dgS_size {n:Int} (h:n<4294967296):(dgS n).size≤10:=by
 rw [← strI_len,strI_dgS];exact dgL_len 9 _ (by omega)
end Go.Proofs.YtonhnflilfjkbaaGreatDoor
namespace Go.Proofs.YtonhnflilfjkbaaGreatDoor
open Go.RowKit Go.Shelf Go.Sort Go.Lib
set_option maxRecDepth 10000
set_option linter.unusedVariables false
set_option linter.unusedSimpArgs false
def Fsm.ren:Go.Shelf.Ren:=⟨fun | 283=>145 | n=>n,fun | 3=>3 | 4=>4 | 9=>9 | n=>n,fun  | n=>n⟩
theorem Fsm.lays:Go.Proofs.Lays.n283 Tryz.prog Fsm.ren:={
 mixed:=by kernel_rfl
 f283:=Tryz.func145.trans (congrArg some (by kernel_rfl))
 t3:=Tryz.underlying3
 a3:=Tryz.isAgg3
 z3:=Tryz.sizeOf3
 v3:=Tryz.zeroValue3
 t4:=Tryz.underlying4
 a4:=Tryz.isAgg4
 z4:=Tryz.sizeOf4
 v4:=Tryz.zeroValue4
 t9:=Tryz.underlying9
 a9:=Tryz.isAgg9
 z9:=Tryz.sizeOf9
 v9:=Tryz.zeroValue9 }
def Fnd.ren:Go.Shelf.Ren:=⟨fun | 129=>169 | 284=>146 | 317=>168 | 318=>170 | n=>n,fun | 0=>0 | 3=>3 | 4=>4 | 5=>5 | 9=>9 | 46=>188 | 53=>120 | 212=>225 | n=>n,fun | 17=>0 | n=>n⟩
theorem Fnd.lays:Go.Proofs.LaysM.n284 Tryz.prog Fnd.ren:={
 mixed:=by kernel_rfl
 f129:=Tryz.func169.trans (congrArg some (by kernel_rfl))
 f284:=Tryz.func146.trans (congrArg some (by kernel_rfl))
 f317:=Tryz.func168.trans (congrArg some (by kernel_rfl))
 f318:=Tryz.func170.trans (congrArg some (by kernel_rfl))
 t0:=Tryz.underlying0
 a0:=Tryz.isAgg0
 z0:=Tryz.sizeOf0
 v0:=Tryz.zeroValue0
 t3:=Tryz.underlying3
 a3:=Tryz.isAgg3
 z3:=Tryz.sizeOf3
 v3:=Tryz.zeroValue3
 t4:=Tryz.underlying4
 a4:=Tryz.isAgg4
 z4:=Tryz.sizeOf4
 v4:=Tryz.zeroValue4
 t5:=Tryz.underlying5
 a5:=Tryz.isAgg5
 z5:=Tryz.sizeOf5
 v5:=Tryz.zeroValue5
 t9:=Tryz.underlying9
 a9:=Tryz.isAgg9
 z9:=Tryz.sizeOf9
 v9:=Tryz.zeroValue9
 t46:=Tryz.underlying188
 a46:=Tryz.isAgg188
 z46:=Tryz.sizeOf188
 v46:=Tryz.zeroValue188
 t53:=Tryz.underlying120
 a53:=Tryz.isAgg120
 z53:=Tryz.sizeOf120
 v53:=Tryz.zeroValue120
 t212:=Tryz.underlying225
 a212:=Tryz.isAgg225
 z212:=Tryz.sizeOf225
 v212:=Tryz.zeroValue225
 g17:=by kernel_rfl
 i0:=by kernel_rfl
 i3:=by kernel_rfl
 i4:=by kernel_rfl
 i5:=by kernel_rfl
 i9:=by kernel_rfl
 i46:=by kernel_rfl
 i53:=by kernel_rfl
 i212:=by kernel_rfl
 m17:=by kernel_rfl }
def Ffb.ren:Go.Shelf.Ren:=⟨fun | 285=>147 | n=>n,fun | 0=>0 | 3=>3 | 4=>4 | 5=>5 | 9=>9 | 37=>44 | 51=>22 | 53=>120 | n=>n,fun  | n=>n⟩
theorem Ffb.lays:Go.Proofs.Lays.n285 Tryz.prog Ffb.ren:={
 mixed:=by kernel_rfl
 f285:=Tryz.func147.trans (congrArg some (by kernel_rfl))
 t0:=Tryz.underlying0
 a0:=Tryz.isAgg0
 z0:=Tryz.sizeOf0
 v0:=Tryz.zeroValue0
 t3:=Tryz.underlying3
 a3:=Tryz.isAgg3
 z3:=Tryz.sizeOf3
 v3:=Tryz.zeroValue3
 t4:=Tryz.underlying4
 a4:=Tryz.isAgg4
 z4:=Tryz.sizeOf4
 v4:=Tryz.zeroValue4
 t5:=Tryz.underlying5
 a5:=Tryz.isAgg5
 z5:=Tryz.sizeOf5
 v5:=Tryz.zeroValue5
 t9:=Tryz.underlying9
 a9:=Tryz.isAgg9
 z9:=Tryz.sizeOf9
 v9:=Tryz.zeroValue9
 t37:=Tryz.underlying44
 a37:=Tryz.isAgg44
 z37:=Tryz.sizeOf44
 v37:=Tryz.zeroValue44
 t51:=Tryz.underlying22
 a51:=Tryz.isAgg22
 z51:=Tryz.sizeOf22
 v51:=Tryz.zeroValue22
 t53:=Tryz.underlying120
 a53:=Tryz.isAgg120
 z53:=Tryz.sizeOf120
 v53:=Tryz.zeroValue120 }
def Pow10 (w:World):Prop:=Lib.TabIs Tryz.prog w "internal/strconv.uint64pow10" .u64 Lib.pow10Tab
theorem dec_dg:∀ u:Nat,(⟨(Lib.decDigits u).toArray⟩:ByteArray)=strOfNums (dgL u):=by
 intro u
 induction u using Nat.strongRecOn with
 | _ u ih =>
  by_cases h:u<10
  ·rw [Lib.decDigits,dif_pos h,dgL_small (by omega)]
   have:∀ m:Fin 10,(⟨([UInt8.ofNat (48+m.val)]:List UInt8).toArray⟩:ByteArray)=strOfNums [48+(m.val:Int)]:=by decide
   exact this ⟨u,h⟩
  ·rw [Lib.decDigits,dif_neg h,dgL_big (by omega),strOfNums_append,← ih (u / 10) (by omega)]
   have:∀ m:Fin 10,(⟨([UInt8.ofNat (48+m.val)]:List UInt8).toArray⟩:ByteArray)=strOfNums [48+(m.val:Int)]:=by decide
   rw [← this ⟨u % 10,by omega⟩]
   apply ByteArray.ext
   simp
theorem small_any (i:Nat) (h:i<100) (w:World):Calls Tryz.prog 145 #[.int .i64 i] w fun e w'=>e=.returned (.string (strOfNums (dgL i)))∧w'=w:=by
 have:=Any.internal_strconv_small Fsm.lays i h w
 rw [dec_dg] at this
 exact this
theorem numDigits_any (u:Nat) (h1:1≤u) (h2:u<18446744073709551616) (w:World) (ht:Pow10 w):Calls Tryz.prog 146 #[.int .u64 u] w fun e w'=>e=.returned (.int .i64 (Lib.nDigits u))∧w'=w:=Any.internal_strconv_numDigits Fnd.lays u h1 h2 w ht
theorem putRow_below (w:World) (o:Obj) (dk:Array UInt8) (k:Nat):Below w.heap.size w ((putRow (fun (b:UInt8)=>Value.int .u8 (b.toNat:Int)) (w.alloc o) w.heap.size 0 dk).drewN k):=by
 refine bel_drewN ?_ k
 have h0:=(Below.refl _ w).alloc (Nat.le_refl _) o
 refine⟨h0.os,h0.tape,h0.output,?_,fun i hi=>?_⟩
 ·simp [putRow,mapBlock]
 ·rw [← h0.block i hi]
  simp [putRow,mapBlock,Array.getElem?_modify]
  omega
set_option maxHeartbeats 6400000 in
set_option maxRecDepth 100000 in
theorem intFormatUint_any (u:Nat) (hu64:u<18446744073709551616) (w:World) (ht:Pow10 w) :
  Calls Tryz.prog 110 #[.int .u64 u,.int .i64 10] w fun e w'=>e=.returned (.string (strOfNums (dgL u)))∧Below w.heap.size w w':=by
 by_cases hs:u<100
 ·have hsm:=small_any u hs w
  have hlt:(u:Int)<100:=by omega
  go_enter Tryz.func110,Tryz.ntmps110
  go_wp2_with fail
  refine hsm.mono ?_
  rintro e w' ⟨rfl,rfl⟩
  go_wp2_with fail
  go_ret
  exact⟨rfl,Below.refl _ _⟩
 ·have hnd20:Lib.nDigits u≤20:=by have:=Lib.numDigits_eq u (by omega) hu64;split at this <;> omega
  have hge:decide ((u:Int)<100)=false:=by simp;omega
  have hge2:decide (u<100)=false:=by simp;omega
  have hn:=numDigits_any u (by omega) hu64 _ (Lib.tabIs_alloc ht (.cells Lib.zeros24 206))
  have hH0:=Lib.holds_zero0 w 206 (Lib.nDigits u) (by omega)
  have hfmt:=Any.internal_strconv_formatBase10 Ffb.lays w.heap.size 0 24 u (Array.replicate (Lib.nDigits u) 0) (w.alloc (.cells Lib.zeros24 206)) hH0 (by rw [Array.size_replicate];exact Lib.lt_pow_nDigits u) hu64 (by rw [Array.size_replicate];omega)
  rw [Array.size_replicate] at hfmt
  have HH0:=Lib.hid hH0
  have hal:Tryz.prog.arrayLen 206=24:=by kernel_rfl
  have hsl:∀ W,(Instr.sliceAt 206 (.pointer (some ⟨w.heap.size,0,none⟩)) none (some (.int .i64 (Lib.nDigits u:Int))) none).run Tryz.prog W=.ok (.slice (some ⟨w.heap.size,0,none⟩) (Lib.nDigits u) 24) W:=fun W=>by
   rw [run_sliceAt_array_h W 206 ⟨w.heap.size,0,none⟩ (by kernel_rfl) .i64 (Lib.nDigits u:Int) (by omega) (by rw [hal];omega)]
   go_simp
  clear hH0 hal hs
  go_enter Tryz.func110,Tryz.ntmps110
  go_wp2_with fail
  refine hn.mono ?_
  rintro e w' ⟨rfl,rfl⟩
  clear hn ht
  go_wp2_with fail
  refine hfmt.mono ?_
  rintro e w' ⟨rfl,k,v',dk,rfl,hF⟩
  have hcv:(convert 44 9 (.slice (some ⟨w.heap.size,0,none⟩) (Lib.nDigits u) 24)).run Tryz.prog ((putRow (fun (b:UInt8)=>Value.int .u8 (b.toNat:Int)) (w.alloc (.cells Lib.zeros24 206)) w.heap.size 0 dk).drewN k)=.ok (.string ⟨(Lib.decDigits u).toArray⟩) ((putRow (fun (b:UInt8)=>Value.int .u8 (b.toNat:Int)) (w.alloc (.cells Lib.zeros24 206)) w.heap.size 0 dk).drewN k):=by
   have h:=run_convert_bytes_back (P:=Tryz.prog) ((putRow (fun (b:UInt8)=>Value.int .u8 (b.toNat:Int)) (w.alloc (.cells Lib.zeros24 206)) w.heap.size 0 dk).drewN k) 44 9 5 ⟨w.heap.size,0,none⟩ 24 (Lib.decDigits u) Tryz.underlying44 Tryz.underlying5 Tryz.underlying9 (fun j hj=>by
    rw [Lib.row_is_numeral hF j hj,Lib.add_plain,World.cell?_drewN]
    exact cell?_putRow (fun (b:UInt8)=>Value.int .u8 (b.toNat:Int)) _ w.heap.size 0 _ dk HH0.out (by rw [hF.size,Array.size_replicate]) j (by rw [hF.size];rw [Lib.decDigits_length] at hj;exact hj))
   rw [Lib.decDigits_length] at h
   exact h
  have HB:=Lib.hid (putRow_below w (.cells Lib.zeros24 206) dk k)
  rw [dec_dg] at hcv
  generalize (putRow (fun (b:UInt8)=>Value.int .u8 (b.toNat:Int)) (w.alloc (.cells Lib.zeros24 206)) w.heap.size 0 dk).drewN k=W9 at *
  clear hfmt HH0
  go_wp2_with fail
  go_ret
  exact⟨rfl,HB.out⟩
theorem formatUint_any (u:Nat) (hu64:u<18446744073709551616) (w:World) (ht:Pow10 w) :
  Calls Tryz.prog 70 #[.int .u64 u,.int .i64 10] w fun e w'=>e=.returned (.string (strOfNums (dgL u)))∧Below w.heap.size w w':=by
 have hC:=intFormatUint_any u hu64 w ht
 go_enter Tryz.func70,Tryz.ntmps70
 go_wp2_with fail
 refine hC.mono ?_
 rintro e w' ⟨rfl,hb⟩
 go_wp2_with fail
 go_ret
 exact⟨rfl,hb⟩
end Go.Proofs.YtonhnflilfjkbaaGreatDoor
namespace Go.Proofs.YtonhnflilfjkbaaGreatDoor
open Go.RowKit
set_option linter.unusedSimpArgs false
set_option linter.unusedVariables false
def tokV (x:TokT):Value:=.agg #[.int .u8 x.1,.string x.2.1,.int .i64 x.2.2]
def tokC (x:TokT):List Value:=[.int .u8 x.1,.string x.2.1,.int .i64 x.2.2]
def ToksV (w:World) (a:Option Addr) (l:List TokT):Prop :=
 ∀ j,j<l.length→∃ b off,a=some ⟨b,off,none⟩∧b<w.heap.size∧w.cell? ⟨b,off+j * 3,none⟩=some (.int .u8 (nthT l j).1)∧w.cell? ⟨b,off+j * 3+1,none⟩=some (.string (nthT l j).2.1)∧w.cell? ⟨b,off+j * 3+2,none⟩=some (.int .i64 (nthT l j).2.2)
def TokIn (x:TokT):Prop:=0≤x.1∧x.1<256∧x.2.1.size≤140737488351232∧-9223372036854775808≤x.2.2∧x.2.2<9223372036854775808
def ToksIn (l:List TokT):Prop:=∀ j,j<l.length→TokIn (nthT l j)
theorem nthT_lt (l:List TokT) (j:Nat) (h:j<l.length):nthT l j=l[j]:=by simp [nthT,List.getD,h]
end Go.Proofs.YtonhnflilfjkbaaGreatDoor
