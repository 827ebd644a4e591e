/-
  Texts in one: MathTx, TypesRead, TypesAll, TypesRead2.
-/
import Derived.Test.YtoebhgpciinkgaaGreatDoorB14
namespace Go.Proofs.YtoebhgpciinkgaaGreatDoor
open Go.RowKit
set_option linter.unusedVariables false
set_option linter.unusedSimpArgs false
structure OpsK (b : Int) (x : InstT) : Prop where
  o21 : x.1 = 21 → x.2.2.2.length = 2
  o23 : x.1 = 23 → x.2.2.2.length = 2 ∧ 1 ≤ tyArg x 0 ∧ tyArg x 0 < b
  o28 : x.1 = 28 → x.2.2.2.length = 2 ∧ (1 ≤ tyArg x 0 ∧ tyArg x 0 < b) ∧ 1 ≤ tyArg x 1 ∧ tyArg x 1 < b
  o30 : x.1 = 30 → idsI x = x.2.2.2.map (·.2.1)
  o32 : x.1 = 32 → x.2.2.2.length = 2 ∧ 1 ≤ tyArg x 1 ∧ tyArg x 1 < b
  o33 : x.1 = 33 → 1 ≤ x.2.2.2.length ∧ idsI x = x.2.2.2.map (·.2.1)
  o43 : x.1 = 43 → x.2.2.2.length = 1 ∧ (1 ≤ x.2.1 ∧ x.2.1 < b)
  res : x.1 = 19 ∨ x.1 = 20 ∨ x.1 = 21 ∨ x.1 = 23 ∨ x.1 = 28 ∨ x.1 = 30 ∨ x.1 = 32 ∨ x.1 = 33 ∨ x.1 = 43 → 1 ≤ x.2.2.1 ∧ x.2.2.1 < b
  ids : ∀ p ∈ idsI x, 1 ≤ p ∧ p < b
  few : x.2.2.2.length < 65535
theorem ops_k {b:Int} {x:InstT} (hok:InstOk x) (h:rawE x b=0):OpsK b x:=by
 refine⟨fun e=>?_,fun e=>?_,fun e=>?_,fun e=>?_,fun e=>?_,fun e=>?_,fun e=>?_,fun e=>?_,idsI_in hok h,args_few h⟩
 ·exact fixed_len h (n:=2) (by rw [e];kernel_rfl) (by rw [e];kernel_rfl)
 ·have hl:x.2.2.2.length=2:=fixed_len h (n:=2) (by rw [e];kernel_rfl) (by rw [e];kernel_rfl)
  exact⟨hl,id_arg hok h (by omega) (by rw [e];kernel_rfl)⟩
 ·have hl:x.2.2.2.length=2:=fixed_len h (n:=2) (by rw [e];kernel_rfl) (by rw [e];kernel_rfl)
  exact⟨hl,id_arg hok h (by omega) (by rw [e];kernel_rfl),id_arg hok h (by omega) (by rw [e];kernel_rfl)⟩
 ·exact idsI_all h (by rw [e];kernel_rfl) (by rw [e];kernel_rfl)
 ·have hl:x.2.2.2.length=2:=fixed_len h (n:=2) (by rw [e];kernel_rfl) (by rw [e];kernel_rfl)
  exact⟨hl,id_arg hok h (by omega) (by rw [e];kernel_rfl)⟩
 ·exact⟨least_len h (n:=1) (by rw [e];kernel_rfl),idsI_all h (by rw [e];kernel_rfl) (by rw [e];kernel_rfl)⟩
 ·exact⟨fixed_len h (n:=1) (by rw [e];kernel_rfl) (by rw [e];kernel_rfl),has_type hok h (by rw [e];kernel_rfl)⟩
 ·rcases e with e | e | e | e | e | e | e | e | e <;> exact has_result hok h (by rw [e];kernel_rfl)
theorem tyRead_cases {t:List TyR} {f:Int→Option Int} {x:InstT} (h0:(tyRead t f x).1=0) (hk:(tyRead t f x).2.kind≠0) :
  (x.1=19∧(tyRead t f x).2=⟨0,1,false,0,0,[],0,0⟩)∨(x.1=20∧(tyRead t f x).2=⟨0,2,false,0,0,[],0,0⟩)∨(x.1=21∧tyArg x 0=32∧tyArg x 1≤1∧(tyRead t f x).2=⟨0,3,decide (tyArg x 1=1),0,0,[],0,0⟩) ∨
  (x.1=23∧(kindT t (tyArg x 0)=2∨kindT t (tyArg x 0)=3)∧2≤tyArg x 1∧tyArg x 1≤4∧(tyRead t f x).2=⟨0,4,false,0,(tyArg x 1).toNat,[tyArg x 0],0,0⟩) ∨
  (x.1=28∧plainT t (tyArg x 0)=true∧1≤tyNumD f (tyArg x 1)∧tyNumD f (tyArg x 1)≤4096∧(tyRead t f x).2=⟨0,5,false,0,(tyNumD f (tyArg x 1)).toNat,[tyArg x 0],0,0⟩) ∨
  (x.1=30∧1≤(idsI x).length∧(idsI x).length≤256∧(idsI x).all (plainT t)=true∧(tyRead t f x).2=⟨0,6,false,0,(idsI x).length,idsI x,0,0⟩) ∨
  (x.1=32∧plainT t (tyArg x 1)=true∧(tyRead t f x).2=⟨0,7,false,tyArg x 0,1,[tyArg x 1],0,0⟩) ∨
  (x.1=33∧backT t (nth (idsI x) 0)=true∧((idsI x).drop 1).all (handT t)=true∧(tyRead t f x).2=⟨0,8,false,0,(idsI x).length,idsI x,0,0⟩):=by
 unfold tyRead at h0 hk ⊢
 by_cases e1:x.1=19
 ·rw [if_pos e1];exact .inl ⟨e1,rfl⟩
 rw [if_neg e1] at h0 hk ⊢
 by_cases e2:x.1=20
 ·rw [if_pos e2];exact .inr (.inl ⟨e2,rfl⟩)
 rw [if_neg e2] at h0 hk ⊢
 by_cases e3:x.1=21
 ·rw [if_pos e3] at h0 hk ⊢
  by_cases c:tyArg x 0≠32∨1<tyArg x 1
  ·rw [if_pos c] at h0;cases h0
  ·rw [if_neg c];exact .inr (.inr (.inl ⟨e3,by omega,by omega,rfl⟩))
 rw [if_neg e3] at h0 hk ⊢
 by_cases e4:x.1=23
 ·rw [if_pos e4] at h0 hk ⊢
  by_cases c:¬ (kindT t (tyArg x 0)=2∨kindT t (tyArg x 0)=3)
  ·rw [if_pos c] at h0;cases h0
  rw [if_neg c] at h0 hk ⊢
  by_cases d:tyArg x 1<2∨4<tyArg x 1
  ·rw [if_pos d] at h0;cases h0
  ·rw [if_neg d];exact .inr (.inr (.inr (.inl ⟨e4,by omega,by omega,by omega,rfl⟩)))
 rw [if_neg e4] at h0 hk ⊢
 by_cases e5:x.1=28
 ·rw [if_pos e5] at h0 hk ⊢
  by_cases c:plainT t (tyArg x 0)=false
  ·rw [if_pos c] at h0;cases h0
  rw [if_neg c] at h0 hk ⊢
  by_cases d:tyNumD f (tyArg x 1)<1∨4096<tyNumD f (tyArg x 1)
  ·rw [if_pos d] at h0;cases h0
  ·rw [if_neg d];exact .inr (.inr (.inr (.inr (.inl ⟨e5,by simpa using c,by omega,by omega,rfl⟩))))
 rw [if_neg e5] at h0 hk ⊢
 by_cases e6:x.1=30
 ·rw [if_pos e6] at h0 hk ⊢
  by_cases c:(idsI x).length<1∨256<(idsI x).length
  ·rw [if_pos c] at h0;cases h0
  rw [if_neg c] at h0 hk ⊢
  by_cases d:(idsI x).all (plainT t)=false
  ·rw [if_pos d] at h0;cases h0
  ·rw [if_neg d];exact .inr (.inr (.inr (.inr (.inr (.inl ⟨e6,by omega,by omega,by simpa using d,rfl⟩)))))
 rw [if_neg e6] at h0 hk ⊢
 by_cases e7:x.1=32
 ·rw [if_pos e7] at h0 hk ⊢
  by_cases c:plainT t (tyArg x 1)=false
  ·rw [if_pos c] at h0;cases h0
  ·rw [if_neg c];exact .inr (.inr (.inr (.inr (.inr (.inr (.inl ⟨e7,by simpa using c,rfl⟩))))))
 rw [if_neg e7] at h0 hk ⊢
 by_cases e8:x.1=33
 ·rw [if_pos e8] at h0 hk ⊢
  by_cases c:backT t (nth (idsI x) 0)=false
  ·rw [if_pos c] at h0;cases h0
  rw [if_neg c] at h0 hk ⊢
  by_cases d:((idsI x).drop 1).all (handT t)=false
  ·rw [if_pos d] at h0;cases h0
  ·rw [if_neg d];exact .inr (.inr (.inr (.inr (.inr (.inr (.inr ⟨e8,by simpa using c,by simpa using d,rfl⟩))))))
 rw [if_neg e8] at hk
 exact absurd rfl hk
theorem tyMax_le {b:Nat}:∀ {l:List Nat},(∀ x∈l,x≤b)→tyMax l≤b
 | [],_=>Nat.zero_le _
 | x :: l,h=>by
  have h1:=h x (by simp)
  have h2:=tyMax_le (l:=l) (fun y hy=>h y (by simp [hy]))
  simp only [tyMax];omega
theorem TabK.small {t:List TyR} (h:TabK t) (id:Int):sizeT t id≤4096∧depthT t id≤16:=by
 unfold sizeT depthT tyD
 cases e:tyF t id with
 | none=>exact⟨Nat.zero_le _,Nat.zero_le _⟩
 | some r=>obtain⟨_,_,_,_,_,_,_,_,_,_,_,_,_,_,s1,s2⟩:=h.says e;exact⟨s1,s2⟩
theorem TabK.leaf {t:List TyR} (h:TabK t) {p:Int} (hk:kindT t p=2∨kindT t p=3):sizeT t p=1∧depthT t p=1:=by
 unfold kindT tyD at hk
 unfold sizeT depthT tyD
 cases e:tyF t p with
 | none=>rw [e] at hk;simp [noTy] at hk
 | some r =>
  rw [e] at hk
  simp only [Option.getD_some] at hk ⊢
  have k3:r.kind≤3:=by rcases hk with h | h <;> omega
  have kp:plainK r.kind=true:=by unfold plainK;rcases hk with h | h <;> rw [h] <;> rfl
  obtain⟨_,s2,s3,_,_,_,_,_,s9,_⟩:=h.says e
  have hp:=(s9 k3).1
  refine⟨?_,?_⟩
  ·rw [s2];unfold sizeR;rw [if_pos hk]
  ·rw [s3];unfold depthR;rw [if_pos kp,hp];rfl
theorem take_fits {b:Int} (hb:b≤65536) {l:List InstT} {k:Nat} {t:List TyR} {f:Int→Option Int} (ht:TabK t) (hok:InstOk (nthI l k)) (hO:OpsK b (nthI l k)) (hnew:tyF t (nthI l k).2.2.1=none) (h0:(tyTake l k t f).1=0) (hk:(tyTake l k t f).2.kind≠0) :
  RowK t (tyTake l k t f).2∧(tyTake l k t f).2=tyFull t (nthI l k) (tyRead t f (nthI l k)).2:=by
 generalize hx:nthI l k=x at *
 have e0:(tyRead t f x).1=0:=by
  apply Classical.byContradiction
  intro e
  unfold tyTake at h0
  rw [hx,if_pos e] at h0
  exact e h0
 have ek:(tyRead t f x).2.kind≠0:=by
  intro e
  unfold tyTake at hk
  rw [hx,if_neg (by rw [e0];simp),if_pos e] at hk
  exact hk rfl
 have hT:(tyTake l k t f).2=tyFull t x (tyRead t f x).2∧((tyRead t f x).2.kind=5∨(tyRead t f x).2.kind=6→sizeR t (tyRead t f x).2≤4096∧depthR t (tyRead t f x).2≤16):=by
  unfold tyTake at h0 ⊢
  rw [hx,if_neg (by rw [e0];simp),if_neg ek] at h0 ⊢
  by_cases c:(tyRead t f x).2.kind=5∨(tyRead t f x).2.kind=6
  ·rw [if_pos c] at h0 ⊢
   by_cases d:4096<sizeR t (tyRead t f x).2
   ·rw [if_pos d] at h0;cases h0
   rw [if_neg d] at h0 ⊢
   by_cases d2:16<depthR t (tyRead t f x).2
   ·rw [if_pos d2] at h0;cases h0
   rw [if_neg d2]
   exact⟨rfl,fun _=>⟨by omega,by omega⟩⟩
  ·rw [if_neg c] at h0 ⊢
   by_cases d:tyAgain l k=true
   ·rw [if_pos d] at h0;cases h0
   ·rw [if_neg d];exact⟨rfl,fun e=>absurd e c⟩
 refine⟨?_,hT.1⟩
 rw [hT.1]
 have hS:=hT.2
 have hcs:=tyRead_cases e0 ek
 generalize (tyRead t f x).2=r at *
 have hpk:∀ p,plainT t p=true→1≤p∧p<b→1≤p∧p<4294967296∧kindT t p≠0:=fun p h1 h2=>⟨h2.1,by omega,plain_kind h1⟩
 have hsz:(tyFull t x r).size=sizeR t (tyFull t x r)∧(tyFull t x r).depth=depthR t (tyFull t x r):=⟨rfl,rfl⟩
 rcases hcs with ⟨e,hr⟩ | ⟨e,hr⟩ | ⟨e,e1,e2,hr⟩ | ⟨e,e1,e2,e3,hr⟩ | ⟨e,e1,e2,e3,hr⟩ | ⟨e,e1,e2,e3,hr⟩ | ⟨e,e1,hr⟩ | ⟨e,e1,e2,hr⟩
 all_goals
  have hres:=hO.res (by omega)
  subst hr
 ·exact⟨hres.1,by show x.2.2.1<_;omega,hnew,hsz.1,hsz.2,fun p hp=>by simp [tyFull] at hp,by simp [tyFull],by simp [tyFull],by simp [tyFull],by simp [tyFull],by simp [tyFull],by simp [tyFull],by simp [tyFull],by simp [tyFull],by simp [tyFull],by simp [tyFull,sizeR,depthR,plainK]⟩
 ·exact⟨hres.1,by show x.2.2.1<_;omega,hnew,hsz.1,hsz.2,fun p hp=>by simp [tyFull] at hp,by simp [tyFull],by simp [tyFull],by simp [tyFull],by simp [tyFull],by simp [tyFull],by simp [tyFull],by simp [tyFull],by simp [tyFull],by simp [tyFull],by simp [tyFull,sizeR,depthR,plainK,tyMax]⟩
 ·exact⟨hres.1,by show x.2.2.1<_;omega,hnew,hsz.1,hsz.2,fun p hp=>by simp [tyFull] at hp,by simp [tyFull],by simp [tyFull],by simp [tyFull],by simp [tyFull],by simp [tyFull],by simp [tyFull],by simp [tyFull],by simp [tyFull],by simp [tyFull],by simp [tyFull,sizeR,depthR,plainK,tyMax]⟩
 ·obtain⟨hl,ha⟩:=hO.o23 e
  obtain⟨q1,q2⟩:=ht.leaf e1
  refine⟨hres.1,by show x.2.2.1<_;omega,hnew,hsz.1,hsz.2,fun p hp=>?_,by simp [tyFull],by simp [tyFull],by simp [tyFull],by simp [tyFull],fun _=>⟨tyArg x 0,rfl,by show 2≤(tyArg x 1).toNat;omega,by show (tyArg x 1).toNat≤4;omega,e1⟩,by simp [tyFull],by simp [tyFull],by simp [tyFull],by simp [tyFull],?_⟩
  ·obtain rfl:p=tyArg x 0:=by simpa [tyFull] using hp
   exact⟨ha.1,by omega,by omega⟩
  ·have h1:(tyArg x 1).toNat≤4:=by omega
   simp only [tyFull,sizeR,depthR,plainK,tyMax,List.map_cons,List.map_nil,nth,List.getD_cons_zero]
   simp [q1,q2]
   omega
 ·obtain⟨hl,ha,_⟩:=hO.o28 e
  have hs:=hS (.inl rfl)
  refine⟨hres.1,by show x.2.2.1<_;omega,hnew,hsz.1,hsz.2,fun p hp=>?_,by simp [tyFull],by simp [tyFull],by simp [tyFull],by simp [tyFull],by simp [tyFull],fun _=>⟨tyArg x 0,rfl,by show 1≤(tyNumD f (tyArg x 1)).toNat;omega,by show (tyNumD f (tyArg x 1)).toNat≤4096;omega,e1⟩,by simp [tyFull],by simp [tyFull],by simp [tyFull],hs⟩
  obtain rfl:p=tyArg x 0:=by simpa [tyFull] using hp
  exact hpk _ e1 ha
 ·have hs:=hS (.inr rfl)
  rw [List.all_eq_true] at e3
  refine⟨hres.1,by show x.2.2.1<_;omega,hnew,hsz.1,hsz.2,fun p hp=>hpk p (e3 p hp) (hO.ids p hp),by simp [tyFull],by simp [tyFull],by simp [tyFull],by simp [tyFull],by simp [tyFull],by simp [tyFull],fun _=>⟨rfl,e1,e2,fun p hp=>e3 p hp⟩,by simp [tyFull],by simp [tyFull],hs⟩
 ·obtain⟨hl,ha⟩:=hO.o32 e
  have hr:=arg_range hok (j:=0) (by omega)
  refine⟨hres.1,by show x.2.2.1<_;omega,hnew,hsz.1,hsz.2,fun p hp=>?_,by simp [tyFull],by simp [tyFull],⟨hr.1,hr.2,fun _=>rfl⟩,by simp [tyFull],by simp [tyFull],by simp [tyFull],by simp [tyFull],fun _=>⟨tyArg x 1,rfl,rfl,e1⟩,by simp [tyFull],by simp [tyFull,sizeR,depthR,plainK]⟩
  obtain rfl:p=tyArg x 1:=by simpa [tyFull] using hp
  exact hpk _ e1 ha
 ·obtain⟨hl,ha⟩:=hO.o33 e
  have hlen:(idsI x).length=x.2.2.2.length:=by rw [ha,List.length_map]
  have hfew:=hO.few
  rw [List.all_eq_true] at e2
  refine⟨hres.1,by show x.2.2.1<_;omega,hnew,hsz.1,hsz.2,fun p hp=>?_,by simp [tyFull],by simp [tyFull],by simp [tyFull],by simp [tyFull],by simp [tyFull],by simp [tyFull],by simp [tyFull],by simp [tyFull],fun _=>⟨rfl,by show 1≤(idsI x).length;omega,by show (idsI x).length≤65536;omega,e1,fun p hp=>e2 p hp⟩,by simp [tyFull,sizeR,depthR,plainK]⟩
  have hin:=hO.ids p hp
  refine⟨hin.1,by omega,?_⟩
  have hp':p∈idsI x:=hp
  cases hI:idsI x with
  | nil=>rw [hI] at hp';cases hp'
  | cons y ys =>
   rw [hI] at hp' e1 e2
   rcases List.mem_cons.1 hp' with rfl | h1
   ·simp only [nth,List.getD_cons_zero] at e1
    unfold backT at e1
    rw [Bool.or_eq_true] at e1
    rcases e1 with e1 | e1
    ·have:=of_decide_eq_true e1;omega
    ·exact plain_kind e1
   ·have:=e2 p (by simpa using h1)
    unfold handT at this
    rw [Bool.or_eq_true] at this
    rcases this with e1 | e1
    ·exact plain_kind e1
    ·have:=of_decide_eq_true e1;omega
theorem tab_made (l:List InstT):∀ k,∀ r∈(tySt l k).1,∃ j,j<k∧r.id=(nthI l j).2.2.1∧((nthI l j).1=19∨(nthI l j).1=20∨(nthI l j).1=21∨(nthI l j).1=23∨(nthI l j).1=28∨(nthI l j).1=30∨(nthI l j).1=32∨(nthI l j).1=33)
 | 0,r,hr=>by cases hr
 | k+1,r,hr=>by
  have ih:=tab_made l k
  have up:(∃ j,j<k∧r.id=(nthI l j).2.2.1∧((nthI l j).1=19∨(nthI l j).1=20∨(nthI l j).1=21∨(nthI l j).1=23∨(nthI l j).1=28∨(nthI l j).1=30∨(nthI l j).1=32∨(nthI l j).1=33))→∃ j,j<k+1∧r.id=(nthI l j).2.2.1∧((nthI l j).1=19∨(nthI l j).1=20∨(nthI l j).1=21∨(nthI l j).1=23∨(nthI l j).1=28∨(nthI l j).1=30∨(nthI l j).1=32∨(nthI l j).1=33):=by
   rintro⟨j,h1,h2⟩;exact⟨j,by omega,h2⟩
  rw [tySt] at hr
  split at hr
  ·exact up (ih r hr)
  ·split at hr
   ·exact up (ih r hr)
   ·rename_i h43 hk
    rcases List.mem_append.1 hr with h1 | h1
    ·exact up (ih r h1)
    ·obtain rfl:r=(tyTake l k (tySt l k).1 (tySt l k).2).2:=by simpa using h1
     generalize (tySt l k).1=t at *
     generalize (tySt l k).2=f at *
     have e0:(tyRead t f (nthI l k)).1=0:=by
      apply Classical.byContradiction
      intro e
      unfold tyTake at hk
      rw [if_pos e] at hk
      exact hk rfl
     have ek:(tyRead t f (nthI l k)).2.kind≠0:=by
      intro e
      unfold tyTake at hk
      rw [if_neg (by rw [e0];simp),if_pos e] at hk
      exact hk rfl
     have hid:(tyTake l k t f).2=noTy∨(tyTake l k t f).2=tyFull t (nthI l k) (tyRead t f (nthI l k)).2:=by
      unfold tyTake
      rw [if_neg (by rw [e0];simp),if_neg ek]
      split
      ·split
       ·exact .inl rfl
       ·split
        ·exact .inl rfl
        ·exact .inr rfl
      ·split
       ·exact .inl rfl
       ·exact .inr rfl
     have hid2:(tyTake l k t f).2=tyFull t (nthI l k) (tyRead t f (nthI l k)).2:=by
      rcases hid with h | h
      ·rw [h] at hk;exact absurd rfl hk
      ·exact h
     refine⟨k,by omega,by rw [hid2];rfl,?_⟩
     have:=tyRead_cases e0 ek
     rcases this with ⟨e,_⟩ | ⟨e,_⟩ | ⟨e,_⟩ | ⟨e,_⟩ | ⟨e,_⟩ | ⟨e,_⟩ | ⟨e,_⟩ | ⟨e,_⟩ <;> omega
theorem tab_new {b:Int} {l:List InstT} (hok:InstsOk l) (h:(idsE b l).1=0) (hR:∀ j,j<l.length→OpsK b (nthI l j)) {k:Nat} (hk:k<l.length):tyF (tySt l k).1 (nthI l k).2.2.1=none:=by
 rw [tyF_none]
 intro r hr e
 obtain⟨j,hj,e2,h3⟩:=tab_made l k r hr
 have hn:=(hR j (by omega)).res (by omega)
 exact result_apart h hj hk (by omega) (by rw [← e2,e])
theorem tab_fits {b:Int} (hb:b≤65536) {l:List InstT} (hok:InstsOk l) (h:(idsE b l).1=0) (hR:∀ j,j<l.length→OpsK b (nthI l j)):∀ k,k≤l.length→(∀ i,i<k→tyErr l i=0)→TabK (tySt l k).1
 | 0,_,_=>TabK.nil
 | k+1,hk,hE=>by
  have ih:=tab_fits hb hok h hR k (by omega) (fun i hi=>hE i (by omega))
  have he:=hE k (by omega)
  rw [tySt]
  split
  ·exact ih
  ·rename_i h43
   split
   ·exact ih
   ·rename_i hkk
    unfold tyErr at he
    rw [if_neg h43] at he
    exact TabK.snoc ih (take_fits hb ih (hok k (by omega)) (hR k (by omega)) (tab_new hok h hR (by omega)) he hkk).1
theorem ops_all {b:Int} {l:List InstT} (hok:InstsOk l) (h:(idsE b l).1=0):(∀ j,j<l.length→OpsK b (nthI l j))∧b≤65536:=by
 have hL:(layE b l).1=0:=by
  unfold idsE at h
  split at h
  ·rename_i hn;exact absurd h hn
  ·rename_i hn;simpa using hn
 have hS:=(layE_ok hL).2.1
 exact⟨fun j hj=>ops_k (hok j hj) (shape_at hS j hj),by have:=(shape_bound hS).2;omega⟩
theorem num_range {l:List InstT} (hok:InstsOk l) (hR:∀ j,j<l.length→(nthI l j).1=43→(nthI l j).2.2.2.length=1):∀ k,k≤l.length→∀ id v,(tySt l k).2 id=some v→0≤v∧v<4294967296
 | 0,_,id,v,h=>by cases h
 | k+1,hk,id,v,h=>by
  have ih:=num_range hok hR k (by omega)
  rw [tySt] at h
  split at h
  ·rename_i h43
   unfold tyNum at h
   split at h
   ·simp only at h
    split at h
    ·cases h
     exact arg_range (hok k (by omega)) (by rw [hR k (by omega) h43];omega)
    ·exact ih id v h
   ·exact ih id v h
  ·split at h
   ·exact ih id v h
   ·exact ih id v h
end Go.Proofs.YtoebhgpciinkgaaGreatDoor
namespace Go.Proofs.YtoebhgpciinkgaaGreatDoor
open Go.RowKit Go.Maps
set_option linter.unusedVariables false
set_option linter.unusedSimpArgs false
set_option maxRecDepth 10000
structure BdB (w : World) (B q p mb nb kb n : Nat) (t : List TyR) (nf : Int → Option Int) (kf : List UInt8 → Bool) (ov : Value) (f : Int → Value) : Prop where
  tab : TabB w B p mb n t ov f
  blk : w.heap[q]? = some (.cells #[.pointer (some ⟨p, 0, none⟩), .map (some nb), .map (some kb)] 84 (0, 0))
  nums : MapU w 22 .u32 nb n nf
  keys : MapS w kb n kf
  apart : nb ≠ kb ∧ nb ≠ mb ∧ kb ≠ mb
  low : B ≤ q ∧ B ≤ nb ∧ B ≤ kb
theorem BdB.below {w w':World} {B q p mb nb kb n:Nat} {t:List TyR} {nf:Int→Option Int} {kf:List UInt8→Bool} {ov:Value} {f:Int→Value} (h:BdB w B q p mb nb kb n t nf kf ov f) (hb:Below w.heap.size w w'):BdB w' B q p mb nb kb n t nf kf ov f :=
 ⟨h.tab.below hb,(hb.block q (Array.getElem?_eq_some_iff.1 h.blk).1).trans h.blk,h.nums.below hb,h.keys.block (hb.block kb h.keys.lt),h.apart,h.low⟩
theorem BdB.cells {w:World} {B q p mb nb kb n:Nat} {t:List TyR} {nf:Int→Option Int} {kf:List UInt8→Bool} {ov:Value} {f:Int→Value} (h:BdB w B q p mb nb kb n t nf kf ov f):w.cell? ⟨q,0,none⟩=some (.pointer (some ⟨p,0,none⟩))∧w.cell? ⟨q,1,none⟩=some (.map (some nb))∧w.cell? ⟨q,2,none⟩=some (.map (some kb)) :=
 ⟨(one_block h.blk).1 0,(one_block h.blk).1 1,(one_block h.blk).1 2⟩
def ReadQ (B:Nat) (w w':World) (R:Int×TyR) (e:Ending):Prop:=∃ v,e=.returned (.tuple #[v,.int .i64 R.1])∧EntV w' B v R.2∧Below w.heap.size w w'
theorem below_store {w w1 w2:World} {b:Nat} (h:Below b w w1) (hw:b≤w.heap.size) (hg:w1.grownBy w2 (some b)):Below b w w2:=h.grown hg (Nat.le_trans hw h.size) (fun k e=>by cases e;exact Nat.le_refl _)
set_option maxHeartbeats 2000000 in
theorem number_anyT (x s:Int) (w:World) (h0:0≤s) (B:Nat) :
  Calls Tryz.prog 94 #[.int .u32 x,.int .u32 s] w fun e w'=>ReadQ B w w' (if x≠32∨1<s then (102,noTy) else (0,⟨0,3,decide (s=1),0,0,[],0,0⟩)) e:=by
 unfold ReadQ
 have hE0:=EntB.new w (.int .u8 0) (.int .i64 0) (.int .i64 0) (.int .i64 0) (.bool false) (.int .u32 0) (.slice none 0 0)
 have hbx:Below w.heap.size w (w.alloc (.cells #[.int .u8 0,.int .i64 0,.int .i64 0,.int .i64 0,.bool false,.int .u32 0,.slice none 0 0] 98)):=(Below.refl _ w).alloc (Nat.le_refl _) _
 have HBX:=hide hbx
 by_cases h1:x=32
 ·by_cases h2:1<s
  ·rw [if_pos (.inr h2)]
   subst h1
   go_enter Tryz.func94,Tryz.ntmps94
   go_wp2_with fail
   go_returns
   exact⟨_,rfl,EntV.nothing _ _,(Below.refl _ w).alloc (Nat.le_refl _) _⟩
  ·rw [if_neg (by omega)]
   have HEQ:Hid ((s==1)=decide (s=1)):=by show _=_;by_cases h:s=1 <;> simp [h]
   subst h1
   go_enter Tryz.func94,Tryz.ntmps94
   go_wp2_with (first | (go_at_call 93;refine (single_any _ _).mono ?_;rintro e w1 ⟨rfl,hb1⟩;have hE1:=hE0.below hb1) | (with_reducible refine stopS 98 ?_))
   refine wpList_storeE rfl (.tmp 6) (.tmp 14) rfl w1.heap.size _ _ rfl rfl (EntB.new w1 (.int .u8 0) (.int .i64 0) (.int .i64 0) (.int .i64 0) (.bool false) (.int .u32 0) (.slice none 0 0)) (IsE.entry _ _ _ _ _ _ _ _ _) ?_
   intro w2 hE2 hg2 hs2
   have hk:=hE2.cell
   have hE3:=(hE1.below ((Below.refl _ w1).alloc (Nat.le_refl _) _)).block (hg2.block _ (hE1.below ((Below.refl _ w1).alloc (Nat.le_refl _) _)).lt (fun e=>by have:=hE1.lt;simp only [Option.some.injEq] at e;omega))
   have hne:w1.heap.size≠w.heap.size:=fun e=>by have:=hE1.lt;omega
   obtain⟨hc,hf⟩:=one_block hk
   have c0:=hc 0
   have c1:=hc 1
   have c2:=hc 2
   have c3:=hc 3
   have c4:=hc 4
   have c5:=hc 5
   have c6:=hc 6
   have f4:=hf 4
   have hE4:=hE3.block (w':=w2.setCell ⟨w1.heap.size,4,none⟩ (.bool (s==1))) (Below.heap_setCell _ _ _ _ (by simpa using Ne.symm hne))
   have HB2:=hide ((HBX.out.trans (hb1.mono HBX.out.size)).trans ((((Below.refl _ w1).alloc (Nat.le_refl _) (.cells #[.int .u8 0,.int .i64 0,.int .i64 0,.int .i64 0,.bool false,.int .u32 0,.slice none 0 0] 98)).grown hg2 (by simp) (fun k e=>by cases e;exact Nat.le_refl _)).setCell (p:=⟨w1.heap.size,4,none⟩) (Nat.le_refl _) (.bool (s==1)) |>.mono (Nat.le_of_lt hE1.lt)))
   clear hc hf hk hE2 hE3 hE1 hE0 hg2 hs2 hbx hb1 hne
   go_wp2_with (with_reducible refine stopS 98 ?_)
   refine wpList_storeE rfl (.tmp 4) (.tmp 18) rfl w.heap.size _ _ rfl rfl hE4 (IsE.entry _ _ _ _ _ _ _ _ _) ?_
   intro w3 hE5 hg3 hs3
   clear hE4 c0 c1 c2 c3 c4 c5 c6 f4
   go_wp2_with fail
   try simp only [Exit.inBlock,Exit.then]
   refine bodyPost_ret (res_entry Tryz.results94 _ _ _ _ _ rfl rfl hE5) rfl ?_
   exact⟨_,rfl,⟨none,0,by rw [HEQ.out];rfl,fun j hj=>by simp at hj,Nat.le_refl _,fun b o e=>by cases e⟩,below_store HB2.out (Nat.le_refl _) hg3⟩
 ·rw [if_pos (.inl h1)]
  have h1':(x==32)=false:=by simpa using h1
  go_enter Tryz.func94,Tryz.ntmps94
  go_wp2_with fail
  go_returns
  exact⟨_,rfl,EntV.nothing _ _,(Below.refl _ w).alloc (Nat.le_refl _) _⟩
end Go.Proofs.YtoebhgpciinkgaaGreatDoor
namespace Go.Proofs.YtoebhgpciinkgaaGreatDoor
open Go.RowKit
set_option linter.unusedVariables false
set_option linter.unusedSimpArgs false
set_option maxRecDepth 10000
theorem allOf1_any (f:FuncId) (bd:Value) (P:Bool) (x:Int) (B:Nat) (w:World) (hB:w.cell? ⟨B,0,none⟩=some (.func (.func f) #[bd] #[])) (hEn:∀ (args:Array Value) (w:World),(callFunc f args).run Tryz.prog w=.ok (.enter f args) w)
  (hC:Calls Tryz.prog f #[bd,.int .u32 x] w fun e w'=>e=.returned (.bool P)∧Below w.heap.size w w') :
  Calls Tryz.prog 145 #[.int .u32 x,.pointer (some ⟨B,0,none⟩)] w fun e w'=>e=.returned (.bool (!P))∧Below w.heap.size w w':=by
 go_enter Tryz.func145,Tryz.ntmps145
 go_wp2_with (refine hC.mono ?_;rintro e w1 ⟨rfl,hb1⟩)
 go_ret
 exact⟨rfl,hb1⟩
set_option maxHeartbeats 4000000 in
theorem idxAll_any (f:FuncId) (bd:Value) (P:Int→Bool) (a:Option Addr) (n c:Nat) (zs:List Int) (B:Nat) (w:World) (hB:w.heap[B]?=some (.cells #[.func (.func f) #[bd] #[]] 58 (0,0))) (hEn:∀ (args:Array Value) (w:World),(callFunc f args).run Tryz.prog w=.ok (.enter f args) w)
  (hC:∀ j,j<n→∀ wx,Below w.heap.size w wx→Calls Tryz.prog f #[bd,.int .u32 (nth zs j)] wx fun e w'=>e=.returned (.bool (P (nth zs j)))∧Below wx.heap.size wx w')
  (hv:View .u32 w a zs) (hl:zs.length=n) (hn:n≤140737488351232) :
  Calls Tryz.prog 159 #[.slice a n c,.func (.func 145) #[] #[.pointer (some ⟨B,0,none⟩)]] w fun e w'=>∃ r:Int,e=.returned (.int .i64 r)∧decide (0≤r)=!zs.all P∧Below w.heap.size w w':=by
 have HL:=hide hl
 have HV:=hide hv
 have HC:=hide hC
 have HA:Hid (∀ j,j<n→P (nth zs j)=false→zs.all P=false):=fun j hj hp=>by
  apply Bool.eq_false_iff.2
  intro h
  rw [List.all_eq_true] at h
  have hjl:j<zs.length:=by rw [HL.out];exact hj
  have:=h (nth zs j) (by simp only [nth,List.getD,List.getElem?_eq_getElem hjl];exact List.getElem_mem hjl)
  rw [hp] at this;cases this
 have HZ:Hid ((∀ j,j<n→P (nth zs j)=true)→zs.all P=true):=fun h=>by
  rw [List.all_eq_true]
  intro x hx
  obtain⟨j,hj,rfl⟩:=List.mem_iff_getElem.1 hx
  have:=h j (by rw [← HL.out];exact hj)
  simpa only [nth,List.getD,List.getElem?_eq_getElem hj,Option.getD_some] using this
 have HB:=hide hB
 have HBl:=hide (Array.getElem?_eq_some_iff.1 hB).1
 clear hl hv hC hB
 go_enter Tryz.func159,Tryz.ntmps159
 go_wp2_with fail
 go_loopw [8] (fun i wr=>∃ j:Nat,j≤n∧i=.int .i64 j∧(∀ i,i<j→P (nth zs i)=true)∧Below w.heap.size w wr) (fun i _=>n - (intOf i).toNat)
 case atStart=>exact⟨0,Nat.zero_le _,rfl,fun i h=>absurd h (Nat.not_lt_zero i),Below.refl _ _⟩
 case round =>
  obtain⟨j,hj,rfl,hno,hbr⟩:=hrel
  have HNO:=hide hno
  have HBR:=hide hbr
  by_cases hlt:j<n
  ·obtain⟨b,off,rfl,hb,hc⟩:=HV.out.below hbr j (by rw [HL.out];exact hlt)
   have hj0:(0:Int)≤(j:Int):=by omega
   have hji:(j:Int)<(n:Int):=by omega
   have HLT:=hide hlt
   have hcl:=allOf1_any f bd (P (nth zs j)) (nth zs j) B wr (oneCell ((hbr.block B HBl.out).trans HB.out)).1 hEn (HC.out j hlt wr hbr)
   have hcx:∃ q,q=P (nth zs j):=⟨_,rfl⟩
   obtain⟨q,hq⟩:=hcx
   have HAJ:Hid (q=false→zs.all P=false):=fun h=>HA.out j hlt (by rw [← hq];exact h)
   have HP:Hid (q=true→P (nth zs j)=true):=fun h=>by rw [← hq];exact h
   rw [← hq] at hcl
   generalize hx:nth zs j=x at hcl hc
   clear hno hbr hb hq hx hEn
   go_wp2_with fail
   refine hcl.mono ?_
   rintro e w2 ⟨rfl,hb2⟩
   have HB2:=hide (HBR.out.trans (hb2.mono HBR.out.size))
   clear hcl hb2 hc
   cases q with
   | false =>
    have HAK:=hide (HAJ.out rfl)
    clear HAJ HP
    go_wp2_with fail
    go_ret
    exact⟨_,rfl,by rw [HAK.out];simp,HB2.out⟩
   | true =>
    have HPK:=hide (HP.out rfl)
    clear HAJ HP
    go_wp2_with fail
    go_roundw
    case rel=>exact⟨j+1,by omega,by go_num,fun i hi=>by by_cases e:i=j;exact e ▸ HPK.out;exact HNO.out i (by omega),HB2.out⟩
    case measure=>simp [intOf];omega
  ·obtain rfl:j=n:=by omega
   clear hno hbr hEn
   go_wp2_with fail
   go_ret
   exact⟨_,rfl,by rw [HZ.out HNO.out];rfl,HBR.out⟩
set_option maxHeartbeats 2000000 in
theorem allOf_any (f:FuncId) (bd:Value) (P:Int→Bool) (a:Option Addr) (n c:Nat) (zs:List Int) (w:World) (hEn:∀ (args:Array Value) (w:World),(callFunc f args).run Tryz.prog w=.ok (.enter f args) w)
  (hC:∀ j,j<n→∀ wx,Below w.heap.size w wx→Calls Tryz.prog f #[bd,.int .u32 (nth zs j)] wx fun e w'=>e=.returned (.bool (P (nth zs j)))∧Below wx.heap.size wx w')
  (hv:View .u32 w a zs) (hl:zs.length=n) (hn:n≤140737488351232) :
  Calls Tryz.prog 120 #[.slice a n c,.func (.func f) #[bd] #[]] w fun e w'=>e=.returned (.bool (zs.all P))∧Below w.heap.size w w':=by
 have hb1:Below w.heap.size w (w.alloc (.cells #[.func (.func f) #[bd] #[]] 58)):=(Below.refl _ w).alloc (Nat.le_refl _) _
 have hI:=idxAll_any f bd P a n c zs w.heap.size _ (heap_alloc_new w (.cells #[.func (.func f) #[bd] #[]] 58)) hEn (fun j hj wx hx=>hC j hj wx (hb1.trans (hx.mono hb1.size))) (hv.below hb1) hl hn
 have HB1:=hide hb1
 clear hb1 hC hv hl
 have hJ:Calls Tryz.prog 144 #[.slice a n c,.func (.func 145) #[] #[.pointer (some ⟨w.heap.size,0,none⟩)]] (w.alloc (.cells #[.func (.func f) #[bd] #[]] 58)) fun e w'=>e=.returned (.bool (!zs.all P))∧Below (w.alloc (.cells #[.func (.func f) #[bd] #[]] 58)).heap.size (w.alloc (.cells #[.func (.func f) #[bd] #[]] 58)) w':=by
  generalize w.alloc (.cells #[.func (.func f) #[bd] #[]] 58)=W at *
  go_enter Tryz.func144,Tryz.ntmps144
  go_wp2_with (go_at_call 159;refine hI.mono ?_;rintro e w2 ⟨r,rfl,hr,hb2⟩)
  go_ret
  exact⟨rfl,hb2⟩
 clear hI
 generalize zs.all P=q at *
 go_enter Tryz.func120,Tryz.ntmps120
 go_wp2_with (go_at_call 144;refine hJ.mono ?_;rintro e w2 ⟨rfl,hb2⟩)
 go_ret
 exact⟨by simp,HB1.out.trans (hb2.mono HB1.out.size)⟩
end Go.Proofs.YtoebhgpciinkgaaGreatDoor
namespace Go.Proofs.YtoebhgpciinkgaaGreatDoor
open Go.RowKit Go.Maps
set_option linter.unusedVariables false
set_option linter.unusedSimpArgs false
set_option maxRecDepth 10000
theorem nth_memR (l:List Int) (k:Nat) (h:k<l.length):nth l k∈l:=by simp [nth,List.getD,h]
theorem entv_rep {w1 w2:World} {N g b:Nat} (k:Nat) {x id:Int} (hx:0≤x) (hv:View .u32 w1 (some ⟨g,0,none⟩) [id]) (hN:N≤g) (hne:g≠b) (hgr:w1.grownBy w2 (some b)) :
  EntV w2 N (.agg #[.int .u8 (k:Int),.int .i64 x,.int .i64 0,.int .i64 0,.bool false,.int .u32 0,.slice (some ⟨g,0,none⟩) 1 1]) ⟨0,k,false,0,x.toNat,[id],0,0⟩:=by
 obtain⟨b',o',e',hlt,_⟩:=hv 0 (by simp)
 refine⟨some ⟨g,0,none⟩,1,?_,hv.keptAt hgr.size (fun b2 o2 e=>?_),Nat.le_refl _,fun b2 o2 e=>?_⟩
 ·unfold entV
  have:((x.toNat:Nat):Int)=x:=by omega
  simp only [this,List.length_cons,List.length_nil]
  rfl
 ·cases e
  cases e'
  exact hgr.block _ hlt (fun e=>hne (Option.some.inj e))
 ·cases e;exact hN
theorem entv_list {w1 w2:World} {N b n c:Nat} (k:Nat) {a:Option Addr} {ids:List Int} (hv:View .u32 w1 a ids) (hl:ids.length=n) (hc:n≤c) (hN:∀ g o,a=some ⟨g,o,none⟩→N≤g) (hne:∀ g o,a=some ⟨g,o,none⟩→g<w1.heap.size∧g≠b) (hgr:w1.grownBy w2 (some b)) :
  EntV w2 N (.agg #[.int .u8 (k:Int),.int .i64 n,.int .i64 0,.int .i64 0,.bool false,.int .u32 0,.slice a n c]) ⟨0,k,false,0,n,ids,0,0⟩:=by
 refine⟨a,c,?_,hv.keptAt hgr.size (fun b2 o2 e=>?_),by rw [hl];exact hc,hN⟩
 ·unfold entV
  simp only [hl]
  rfl
 ·obtain⟨h1,h2⟩:=hne b2 o2 e
  exact hgr.block _ h1 (fun e=>h2 (Option.some.inj e))
set_option maxHeartbeats 4000000 in
theorem vector_any {B q p mb nb kb n:Nat} {t:List TyR} {nf:Int→Option Int} {kf:List UInt8→Bool} {ov:Value} {f:Int→Value} (id x:Int) (w:World) (hB:BdB w B q p mb nb kb n t nf kf ov f) (i0:0≤id) (i1:id<4294967296) (x0:0≤x) (x1:x<4294967296) :
  Calls Tryz.prog 95 #[.pointer (some ⟨q,0,none⟩),.int .u32 id,.int .u32 x] w fun e w'=>ReadQ w.heap.size w w' (if ¬ (kindT t id=2∨kindT t id=3) then (100,noTy) else if x<2∨4<x then (102,noTy) else (0,⟨0,4,false,0,x.toNat,[id],0,0⟩)) e:=by
 unfold ReadQ
 have hE0:=EntB.new w (.int .u8 0) (.int .i64 0) (.int .i64 0) (.int .i64 0) (.bool false) (.int .u32 0) (.slice none 0 0)
 have hbx:Below w.heap.size w (w.alloc (.cells #[.int .u8 0,.int .i64 0,.int .i64 0,.int .i64 0,.bool false,.int .u32 0,.slice none 0 0] 98)):=(Below.refl _ w).alloc (Nat.le_refl _) _
 have HBX:=hide hbx
 have hlx:w.heap.size<(w.alloc (.cells #[.int .u8 0,.int .i64 0,.int .i64 0,.int .i64 0,.bool false,.int .u32 0,.slice none 0 0] 98)).heap.size:=by simp
 have hB0:=hB.below hbx
 have q0:=hB0.cells.1
 have hK:=tyKind_any id _ hB0.tab i0 i1
 clear hB hB0 hbx hlx
 by_cases h1:kindT t id=2∨kindT t id=3
 ·rw [if_neg (not_not_intro h1)]
  by_cases h2:x<2∨4<x
  ·rw [if_pos h2]
   rcases h1 with h1 | h1
   all_goals
    rw [h1] at hK
    clear h1
    rcases h2 with h2 | h2
    all_goals
     go_enter Tryz.func95,Tryz.ntmps95
     go_wp2_with (first | (go_at_call 29;refine hK.mono ?_;rintro e w1 ⟨rfl,hb1⟩;have hE1:=hE0.below hb1) | (with_reducible refine stopS 98 ?_))
     refine wpList_storeE rfl (.tmp 6) (.tmp 24) rfl w.heap.size _ _ rfl rfl hE1 (IsE.entry _ _ _ _ _ _ _ _ _) ?_
     intro w2 hE2 hg2 hs2
     clear hE1
     go_wp2_with fail
     try simp only [Exit.inBlock,Exit.then]
     refine bodyPost_ret (res_entry Tryz.results95 _ _ _ _ _ rfl rfl hE2) rfl ?_
     exact⟨_,rfl,EntV.nothing _ _,below_store (HBX.out.trans (hb1.mono HBX.out.size)) (Nat.le_refl _) hg2⟩
  ·rw [if_neg h2]
   have h3:2≤x:=by omega
   have h4:x≤4:=by omega
   have h5:IntKind.i64.wrap x=x:=by rw [IntKind.wrap_i64];omega
   clear h2
   rcases h1 with h1 | h1
   all_goals
    rw [h1] at hK
    clear h1
    go_enter Tryz.func95,Tryz.ntmps95
    go_wp2_with (first | (go_at_call 29;refine hK.mono ?_;rintro e w1 ⟨rfl,hb1⟩;have hE1:=hE0.below hb1) | (go_at_call 119;refine (repeated_any _ _ _ _).mono ?_;rintro e w2 ⟨⟨g,rfl,hgw,hvw⟩,hb2⟩;have hE2:=hE1.below hb2) | (with_reducible refine stopS 98 ?_))
    refine wpList_storeE rfl (.tmp 6) (.tmp 28) rfl w.heap.size _ _ rfl rfl hE2 (IsE.entry _ _ _ _ _ _ _ _ _) ?_
    intro w3 hE3 hg3 hs3
    clear hE2
    go_wp2_with fail
    try simp only [Exit.inBlock,Exit.then]
    refine bodyPost_ret (res_entry Tryz.results95 _ _ _ _ _ rfl rfl hE3) rfl ?_
    exact⟨_,rfl,entv_rep 4 x0 hvw (Nat.le_trans (Nat.le_of_lt hE1.lt) hgw) (fun e=>by have:=hE1.lt;omega) hg3,below_store ((HBX.out.trans (hb1.mono HBX.out.size)).trans (hb2.mono (Nat.le_trans HBX.out.size hb1.size))) (Nat.le_refl _) hg3⟩
 ·rw [if_pos h1]
  have h2:((kindT t id:Int)==2)=false:=by simp;omega
  have h3:((kindT t id:Int)==3)=false:=by simp;omega
  generalize (kindT t id:Int)=K at *
  clear h1
  go_enter Tryz.func95,Tryz.ntmps95
  go_wp2_with (first | (go_at_call 29;refine hK.mono ?_;rintro e w1 ⟨rfl,hb1⟩;have hE1:=hE0.below hb1) | (with_reducible refine stopS 98 ?_))
  refine wpList_storeE rfl (.tmp 6) (.tmp 14) rfl w.heap.size _ _ rfl rfl hE1 (IsE.entry _ _ _ _ _ _ _ _ _) ?_
  intro w2 hE2 hg2 hs2
  clear hE1
  go_wp2_with fail
  try simp only [Exit.inBlock,Exit.then]
  refine bodyPost_ret (res_entry Tryz.results95 _ _ _ _ _ rfl rfl hE2) rfl ?_
  exact⟨_,rfl,EntV.nothing _ _,below_store (HBX.out.trans (hb1.mono HBX.out.size)) (Nat.le_refl _) hg2⟩
set_option maxHeartbeats 4000000 in
theorem array_any {B q p mb nb kb n:Nat} {t:List TyR} {nf:Int→Option Int} {kf:List UInt8→Bool} {ov:Value} {f:Int→Value} (id lid:Int) (w:World) (hB:BdB w B q p mb nb kb n t nf kf ov f) (i0:0≤id) (i1:id<4294967296) (l0:0≤lid) (l1:lid<4294967296) (hnf:0≤tyNumD nf lid∧tyNumD nf lid<4294967296) :
  Calls Tryz.prog 96 #[.pointer (some ⟨q,0,none⟩),.int .u32 id,.int .u32 lid] w fun e w'=>ReadQ w.heap.size w w' (if plainT t id=false then (100,noTy) else if tyNumD nf lid<1∨4096<tyNumD nf lid then (102,noTy) else (0,⟨0,5,false,0,(tyNumD nf lid).toNat,[id],0,0⟩)) e:=by
 unfold ReadQ
 have hE0:=EntB.new w (.int .u8 0) (.int .i64 0) (.int .i64 0) (.int .i64 0) (.bool false) (.int .u32 0) (.slice none 0 0)
 have hbx:Below w.heap.size w (w.alloc (.cells #[.int .u8 0,.int .i64 0,.int .i64 0,.int .i64 0,.bool false,.int .u32 0,.slice none 0 0] 98)):=(Below.refl _ w).alloc (Nat.le_refl _) _
 have HBX:=hide hbx
 have hlx:w.heap.size<(w.alloc (.cells #[.int .u8 0,.int .i64 0,.int .i64 0,.int .i64 0,.bool false,.int .u32 0,.slice none 0 0] 98)).heap.size:=by simp
 have hB0:=hB.below hbx
 have q0:=hB0.cells.1
 have hP:=tyPlain_any id _ hB0.tab i0 i1
 clear hB hbx hlx
 have HN:Hid ((nf lid).getD 0=tyNumD nf lid):=rfl
 by_cases h1:plainT t id=false
 ·rw [if_pos h1]
  rw [h1] at hP
  clear h1
  go_enter Tryz.func96,Tryz.ntmps96
  go_wp2_with (first | (go_at_call 33;refine hP.mono ?_;rintro e w1 ⟨rfl,hb1⟩;have hE1:=hE0.below hb1;have hB1:=hB0.below hb1;obtain⟨q0',q1',_⟩:=hB1.cells;have hL:=hB1.nums.look 81 Tryz.underlying81 Tryz.underlying22 (Tryz.zeroValue22 _) lid l0 l1) | (with_reducible refine stopS 98 ?_))
  refine wpList_storeE rfl (.tmp 6) (.tmp 16) rfl w.heap.size _ _ rfl rfl hE1 (IsE.entry _ _ _ _ _ _ _ _ _) ?_
  intro w2 hE2 hg2 hs2
  clear hE1
  go_wp2_with fail
  try simp only [Exit.inBlock,Exit.then]
  refine bodyPost_ret (res_entry Tryz.results96 _ _ _ _ _ rfl rfl hE2) rfl ?_
  exact⟨_,rfl,EntV.nothing _ _,below_store (HBX.out.trans (hb1.mono HBX.out.size)) (Nat.le_refl _) hg2⟩
 ·rw [if_neg h1]
  have h1':plainT t id=true:=by simpa using h1
  rw [h1'] at hP
  clear h1 h1'
  generalize tyNumD nf lid=x at *
  by_cases h2:x<1∨4096<x
  ·rw [if_pos h2]
   rcases h2 with h2 | h2
   all_goals
    go_enter Tryz.func96,Tryz.ntmps96
    go_wp2_with (first | (go_at_call 33;refine hP.mono ?_;rintro e w1 ⟨rfl,hb1⟩;have hE1:=hE0.below hb1;have hB1:=hB0.below hb1;obtain⟨q0',q1',_⟩:=hB1.cells;have hL:=hB1.nums.look 81 Tryz.underlying81 Tryz.underlying22 (Tryz.zeroValue22 _) lid l0 l1;rw [HN.out] at hL) | (with_reducible refine stopS 98 ?_))
    refine wpList_storeE rfl (.tmp 6) (.tmp 29) rfl w.heap.size _ _ rfl rfl hE1 (IsE.entry _ _ _ _ _ _ _ _ _) ?_
    intro w2 hE2 hg2 hs2
    clear hE1
    go_wp2_with fail
    try simp only [Exit.inBlock,Exit.then]
    refine bodyPost_ret (res_entry Tryz.results96 _ _ _ _ _ rfl rfl hE2) rfl ?_
    exact⟨_,rfl,EntV.nothing _ _,below_store (HBX.out.trans (hb1.mono HBX.out.size)) (Nat.le_refl _) hg2⟩
  ·rw [if_neg h2]
   have h3:1≤x:=by omega
   have h4:x≤4096:=by omega
   have h5:IntKind.i64.wrap x=x:=by rw [IntKind.wrap_i64];omega
   have x0:0≤x:=by omega
   clear h2
   go_enter Tryz.func96,Tryz.ntmps96
   go_wp2_with (first | (go_at_call 33;refine hP.mono ?_;rintro e w1 ⟨rfl,hb1⟩;have hE1:=hE0.below hb1;have hB1:=hB0.below hb1;obtain⟨q0',q1',_⟩:=hB1.cells;have hL:=hB1.nums.look 81 Tryz.underlying81 Tryz.underlying22 (Tryz.zeroValue22 _) lid l0 l1;rw [HN.out] at hL) | (go_at_call 119;refine (repeated_any _ _ _ _).mono ?_;rintro e w2 ⟨⟨g,rfl,hgw,hvw⟩,hb2⟩;have hE2:=hE1.below hb2) | (with_reducible refine stopS 98 ?_))
   refine wpList_storeE rfl (.tmp 6) (.tmp 33) rfl w.heap.size _ _ rfl rfl hE2 (IsE.entry _ _ _ _ _ _ _ _ _) ?_
   intro w3 hE3 hg3 hs3
   clear hE2
   go_wp2_with fail
   try simp only [Exit.inBlock,Exit.then]
   refine bodyPost_ret (res_entry Tryz.results96 _ _ _ _ _ rfl rfl hE3) rfl ?_
   exact⟨_,rfl,entv_rep 5 x0 hvw (Nat.le_trans (Nat.le_of_lt hE1.lt) hgw) (fun e=>by have:=hE1.lt;omega) hg3,below_store ((HBX.out.trans (hb1.mono HBX.out.size)).trans (hb2.mono (Nat.le_trans HBX.out.size hb1.size))) (Nat.le_refl _) hg3⟩
theorem view_block {k:IntKind} {w:World} {a:Option Addr} {zs:List Int} (hv:View k w a zs) (hz:zs≠[]) {g o:Nat} (e:a=some ⟨g,o,none⟩):g<w.heap.size:=by
 obtain⟨b,off,e1,hlt,_⟩:=hv 0 (List.length_pos_iff.2 hz)
 rw [e] at e1;cases e1;exact hlt
set_option maxHeartbeats 4000000 in
theorem structOf_any {B q p mb nb kb n:Nat} {t:List TyR} {nf:Int→Option Int} {kf:List UInt8→Bool} {ov:Value} {f:Int→Value} (a:Option Addr) (m c:Nat) (ids:List Int) (w:World) (N:Nat) (hB:BdB w B q p mb nb kb n t nf kf ov f) (hv:View .u32 w a ids) (hl:ids.length=m) (hc:m≤c) (hN:∀ g o,a=some ⟨g,o,none⟩→N≤g∧g<w.heap.size) (hr:∀ z∈ids,0≤z∧z<4294967296) (hm:m<65536) :
  Calls Tryz.prog 97 #[.pointer (some ⟨q,0,none⟩),.slice a m c] w fun e w'=>ReadQ N w w' (if ids.length<1∨256<ids.length then (102,noTy) else if ids.all (plainT t)=false then (100,noTy) else (0,⟨0,6,false,0,ids.length,ids,0,0⟩)) e:=by
 unfold ReadQ
 have hE0:=EntB.new w (.int .u8 0) (.int .i64 0) (.int .i64 0) (.int .i64 0) (.bool false) (.int .u32 0) (.slice none 0 0)
 have hbx:Below w.heap.size w (w.alloc (.cells #[.int .u8 0,.int .i64 0,.int .i64 0,.int .i64 0,.bool false,.int .u32 0,.slice none 0 0] 98)):=(Below.refl _ w).alloc (Nat.le_refl _) _
 have HBX:=hide hbx
 have hlx:w.heap.size<(w.alloc (.cells #[.int .u8 0,.int .i64 0,.int .i64 0,.int .i64 0,.bool false,.int .u32 0,.slice none 0 0] 98)).heap.size:=by simp
 have hB0:=hB.below hbx
 have q0:=hB0.cells.1
 have hv0:=hv.below hbx
 have hA:=allOf_any 33 (.pointer (some ⟨p,0,none⟩)) (plainT t) a m c ids _ Tryz.call33 (fun j hj wx hx=>by have hz:=hr (nth ids j) (nth_memR ids j (by rw [hl];exact hj));exact tyPlain_any _ wx (hB0.tab.below hx) hz.1 hz.2) hv0 hl (by omega)
 have HV:=hide hv
 have HN:=hide hN
 rw [hl]
 clear hB hB0 hbx hlx hv hv0 hr hN
 by_cases h2:m<1∨256<m
 ·rw [if_pos h2]
  rcases h2 with h2 | h2
  ·have h2':(m:Int)<1:=by omega
   clear hA
   go_enter Tryz.func97,Tryz.ntmps97
   go_wp2_with (first | (with_reducible refine stopS 98 ?_))
   refine wpList_storeE rfl (.tmp 4) (.tmp 14) rfl w.heap.size _ _ rfl rfl hE0 (IsE.entry _ _ _ _ _ _ _ _ _) ?_
   intro w2 hE2 hg2 hs2
   clear hE0
   go_wp2_with fail
   try simp only [Exit.inBlock,Exit.then]
   refine bodyPost_ret (res_entry Tryz.results97 _ _ _ _ _ rfl rfl hE2) rfl ?_
   exact⟨_,rfl,EntV.nothing _ _,below_store (HBX.out) (Nat.le_refl _) hg2⟩
  ·have h2':(256:Int)<m:=by omega
   have h3':¬ (m:Int)<1:=by omega
   clear hA
   go_enter Tryz.func97,Tryz.ntmps97
   go_wp2_with (first | (with_reducible refine stopS 98 ?_))
   refine wpList_storeE rfl (.tmp 4) (.tmp 14) rfl w.heap.size _ _ rfl rfl hE0 (IsE.entry _ _ _ _ _ _ _ _ _) ?_
   intro w2 hE2 hg2 hs2
   clear hE0
   go_wp2_with fail
   try simp only [Exit.inBlock,Exit.then]
   refine bodyPost_ret (res_entry Tryz.results97 _ _ _ _ _ rfl rfl hE2) rfl ?_
   exact⟨_,rfl,EntV.nothing _ _,below_store (HBX.out) (Nat.le_refl _) hg2⟩
 ·rw [if_neg h2]
  have h3:(1:Int)≤m:=by omega
  have h4:(m:Int)≤256:=by omega
  have HM:Hid (ids.length=m∧m≤c∧ids≠[]):=⟨hl,hc,fun e=>by rw [e] at hl;simp at hl;omega⟩
  clear h2 hl hc
  by_cases h1:ids.all (plainT t)=false
  ·rw [if_pos h1]
   rw [h1] at hA
   clear h1
   go_enter Tryz.func97,Tryz.ntmps97
   go_wp2_with (first | (go_at_call 120;refine hA.mono ?_;rintro e w1 ⟨rfl,hb1⟩;have hE1:=hE0.below hb1) | (with_reducible refine stopS 98 ?_))
   refine wpList_storeE rfl (.tmp 4) (.tmp 23) rfl w.heap.size _ _ rfl rfl hE1 (IsE.entry _ _ _ _ _ _ _ _ _) ?_
   intro w2 hE2 hg2 hs2
   clear hE1
   go_wp2_with fail
   try simp only [Exit.inBlock,Exit.then]
   refine bodyPost_ret (res_entry Tryz.results97 _ _ _ _ _ rfl rfl hE2) rfl ?_
   exact⟨_,rfl,EntV.nothing _ _,below_store (HBX.out.trans (hb1.mono HBX.out.size)) (Nat.le_refl _) hg2⟩
  ·rw [if_neg h1]
   have h1':ids.all (plainT t)=true:=by simpa using h1
   rw [h1'] at hA
   clear h1 h1'
   go_enter Tryz.func97,Tryz.ntmps97
   go_wp2_with (first | (go_at_call 120;refine hA.mono ?_;rintro e w1 ⟨rfl,hb1⟩;have hE1:=hE0.below hb1) | (go_at_call 121;refine (listed_any _ _ _ _ _).mono ?_;rintro e w2 ⟨rfl,hb2⟩;have hE2:=hE1.below hb2) | (with_reducible refine stopS 98 ?_))
   refine wpList_storeE rfl (.tmp 4) (.tmp 25) rfl w.heap.size _ _ rfl rfl hE2 (IsE.entry _ _ _ _ _ _ _ _ _) ?_
   intro w3 hE3 hg3 hs3
   clear hE2
   go_wp2_with fail
   try simp only [Exit.inBlock,Exit.then]
   refine bodyPost_ret (res_entry Tryz.results97 _ _ _ _ _ rfl rfl hE3) rfl ?_
   exact⟨_,rfl,entv_list 6 (HV.out.below ((HBX.out.trans (hb1.mono HBX.out.size)).trans (hb2.mono (Nat.le_trans HBX.out.size hb1.size)))) HM.out.1 HM.out.2.1 (fun g o e=>(HN.out g o e).1) (fun g o e=>by have h1:=(HN.out g o e).2;have h2:=hb1.size;have h3:=hb2.size;have h4:=HBX.out.size;omega) hg3,below_store ((HBX.out.trans (hb1.mono HBX.out.size)).trans (hb2.mono (Nat.le_trans HBX.out.size hb1.size))) (Nat.le_refl _) hg3⟩
end Go.Proofs.YtoebhgpciinkgaaGreatDoor
