/-
  Texts laid together in one: IdsPairs, ArgInsts, SlicesContains, Ref03Letter, Ref04Wrong, Ref01Split, Ref01OfText, Ref04Room, Ref04Fault, Ref04Shape, Ref04Ids, IdsUses.
-/
import Derived.WalkSpells
import Derived.WalkMore
import Derived.BigRegion
import Derived.Deep.AppendLies
import Derived.Deep.RegionWith
import Derived.Test.YtjckgnpbjekhbaaProg
import Derived.Test.YtjckgnpbjekhbaaB16
import Derived.Test.YtjckgnpbjekhbaaB10
import Derived.Test.YtjckgnpbjekhbaaB09
import Derived.Test.YtjckgnpbjekhbaaB12
import Derived.ProofKit
import Derived.OpenShut
import Derived.SizedLaws
import Derived.Deep.Slices
import Derived.Deep.SlicePairs
import Derived.Lib.SmallJoins
import Derived.Test.YtjckgnpbjekhbaaB01
import Derived.Deep.QuietTactic
import Derived.BigQuiet
import Derived.Test.YtjckgnpbjekhbaaB05
import Derived.Test.YtjckgnpbjekhbaaB03
import Derived.Test.YtjckgnpbjekhbaaB07
import Derived.Deep.RegionHeld3
import Derived.Deep.DrawnRows
import Derived.Test.YtjckgnpbjekhbaaB06
import Derived.Test.YtjckgnpbjekhbaaB04
import Derived.Test.YtjckgnpbjekhbaaB08
import Derived.Laws.AppendOwn
/-
  Pairs of ids of the package ids: allIds, and join.
-/
namespace Go.Proofs.Ytjckgnpbjekhbaa
open Go.RowKit Go.Maps
set_option linter.unusedVariables false
set_option linter.unusedSimpArgs false
set_option maxRecDepth 10000

theorem zeroU32P (w : World) : (zeroValue 22).run Try.prog w = .ok (.int .u32 0) w := by kernel_rfl
theorem then_normalP {K : Act → World → Prop} {Q : Exit → Act → World → Prop} {a : Act} {w : World} : Exit.then K Q .normal a w = K a w := rfl
theorem U32P.info : (Try.prog.info? 22).map (fun i => (i.zero, i.size, i.bytes)) = some (some (.int .u32 0), 1, 4) := by kernel_rfl
/-- 'm[x] = v' within a region that draws its order. -/
theorem stepAny_putU (w : World) {F : Fence} (hF : ∀ f, F.fn f) {o : Oper} {ops : Array Oper} {a : Act} {K : Act → World → Prop} {Q : Exit → Act → World → Prop} (hgd : o.guard = none) (m x v : Operand) (t : TypeId) (hop : o.op = Op.mapUpdate t m x v) (E : TypeId) (q : IntKind) (ht : Try.prog.underlying t = some (.map 22 E)) (he : Try.prog.underlying E = some (.int q))
    (b n : Nat) (f : Int → Option Int) (hm : a.eval m = .map (some b)) (h : MapU w E q b n f) (hn : n < maxLen) (key val : Int) (hx : a.eval x = .int .u32 key) (k0 : 0 ≤ key) (k1 : key < 4294967296) (hv : a.eval v = .int q val) (hw : (Lit.int q val).wf = true)
    (hK : ∀ w', MapU w' E q b (n + 1) (fun y => if y = key then some val else f y) → w.grownBy w' (some b) → K (a.put o.dst undef) w') :
    if Region.wanted o (yielded ops a.tmps) = true then Oper.wpIn F 0 Try.prog o a w K Q else (∀ f, o.about Try.prog w a.eval = some f → F.fn f) ∧ K (a.put o.dst undef) w := by
  obtain ⟨D, h1, h2, h3⟩ := h
  obtain ⟨w', hrun, r1, r2⟩ := h1.update keyU ht hn (keyU_of k0 k1) (plainElem_int he hw)
  rw [if_pos (by simp [Region.wanted, hgd])]
  refine ⟨fun f _ => hF f, ?_⟩
  rw [Oper.semAt_eq _ _ _ (fun c hc => by rw [hop] at hc; cases hc)]
  unfold execOp
  simp only [hop, hm, hx, hv, Sem.run_bind, Sem.run_pure, Result.andThen_ok, hrun]
  exact hK w' (MapU.put h1.isMap h2 h3 r1) r2

set_option maxHeartbeats 4000000 in
theorem allIds_any (x : InstT) (ax : Option Addr) (n cx : Nat) (w : World) (hv : ArgsV w ax x.2.2.2) (hl : x.2.2.2.length = n) (hn : 24 * n ≤ 140737488351232) :
    Calls Try.prog 32 #[instV x ax n cx] w fun e w' => ∃ v, e = .returned v ∧ w'.ownsRow (w.heap.size + 1) 22 1 v (allI x).length ((allI x).map (Value.int .u32)) ∧ Below w.heap.size w w' := by
  have hba : Below w.heap.size w (w.alloc (.cells #[.int .u16 x.1, .int .u32 x.2.1, .int .u32 x.2.2.1, .slice ax n cx] 38)) := (Below.refl _ w).alloc (Nat.le_refl _) _
  have hI := codeIds_any x ax n cx _ (hv.below hba) hl hn
  have hlen : (idsI x).length ≤ 1 + n := by have := idsTo_len x.2.1 x.2.2.2 x.2.2.2.length; rw [hl] at this; unfold idsI; rw [hl]; exact this
  have HX := hide (heap_alloc_new w (.cells #[.int .u16 x.1, .int .u32 x.2.1, .int .u32 x.2.2.1, .slice ax n cx] 38))
  have HS : Hid ((w.alloc (.cells #[.int .u16 x.1, .int .u32 x.2.1, .int .u32 x.2.2.1, .slice ax n cx] 38)).heap.size = w.heap.size + 1) := by show _ = _; simp
  have HBA := hide hba
  have HAL : Hid (allI x = idsI x ++ (if x.2.2.1 = 0 then [] else [x.2.2.1])) := rfl
  obtain ⟨i0, hi, hz0, hz1, hz2⟩ := info_parts U32P.info
  generalize allI x = AL at *
  generalize idsI x = IL at *
  obtain ⟨xo, xt, xr, xl⟩ := x
  unfold instV at *
  simp only at *
  clear hba hv hl
  go_enter Try.func32, Try.ntmps32
  go_wp2_with fail
  generalize w.alloc (.cells #[.int .u16 xo, .int .u32 xt, .int .u32 xr, .slice ax n cx] 38) = W0 at *
  refine hI.mono ?_
  rintro e w1 ⟨hb1, a', m', c', rfl, hlm, hown⟩
  subst hlm
  generalize hvv : Value.slice a' IL.length c' = v at *
  have kx := (hb1.block w.heap.size (by rw [HS.out]; omega)).trans HX.out
  have x2 := (one_block kx).1 2
  have HO := hide hown
  have hs1 := hb1.size
  rw [HS.out] at hs1
  have HB1 := hide hb1
  have HBW := hide (HBA.out.trans (hb1.mono HBA.out.size))
  rw [HS.out] at HO
  clear hI hb1 hown kx
  by_cases hr : xr = 0
  · have HA2 : Hid (AL = IL) := by show _ = _; rw [HAL.out, if_pos hr, List.append_nil]
    subst hr
    go_wp2_with fail
    go_ret
    exact ⟨v, rfl, by rw [HA2.out]; exact HO.out, HBW.out⟩
  · have HA2 : Hid (AL = IL ++ [xr]) := by show _ = _; rw [HAL.out, if_neg hr]
    have hr' : (xr != 0) = true := by simpa using hr
    have N1 : Hid ((w1.alloc (.cells #[.int .u32 xr] 22)).ownsRow (w.heap.size + 1) 22 1 v IL.length (IL.map (Value.int .u32))) := own_below HO.out ((Below.refl _ w1).alloc (Nat.le_refl _) _)
    have N2 : Hid (∀ (j : Nat) (u : Value), ([.int .u32 xr] : List Value)[j]? = some u → (w1.alloc (.cells #[.int .u32 xr] 22)).cell? ((⟨w1.heap.size, 0, none⟩ : Addr).add j) = some u) := World.news_of_block (cs := #[.int .u32 xr]) (t := 22) (fr := (0, 0)) (heap_alloc_new w1 _)
    have N3 : Hid (∀ u : Value, u ∈ ([.int .u32 xr] : List Value) → u.oneCell' = true) := by intro u hu; simp at hu; subst hu; rfl
    have N6 : Hid (w.heap.size + 1 ≤ (w1.alloc (.cells #[.int .u32 xr] 22)).heap.size) := by show _ ≤ (World.alloc _ _).heap.size; rw [World.size_alloc]; omega
    have HBA1 := hide (HBW.out.alloc HBW.out.size (.cells #[.int .u32 xr] 22))
    have HOL : Hid (∀ g, v.ownBlock = some g → w.heap.size + 1 ≤ g) := fun g e => (HO.out.lt g e).1
    clear hr
    go_wp2_with (at_builtin; refine wpList_append_lies _ rfl (.tmp 9) (.tmp 12) 28 rfl (w.heap.size + 1) 22 i0 (.int .u32 0) 1 4 Try.underlying28 hi hz0 hz1 hz2 rfl (by decide) v IL.length (IL.map (Value.int .u32)) rfl N1.out ⟨w1.heap.size, 0, none⟩ 1 1 [.int .u32 xr] rfl rfl N2.out N3.out (by decide) (by unfold maxLen; omega) (by omega) N6.out _ rfl ?_)
    intro g7 cap7 w7 hown7 hgr7 hat7 hlt7
    have HO7 := hide hown7
    have HB7 : Hid (Below w.heap.size w w7) := HBA1.out.grown hgr7 HBA1.out.size (fun j hj => by have := HOL.out j hj; omega)
    clear hown7 hgr7 hat7
    go_wp2_with fail
    go_ret
    exact ⟨_, rfl, by rw [HA2.out, List.length_append, List.map_append]; exact HO7.out, HB7.out⟩

/-- The two maps of pairs. -/
structure PrM (W : World) (T K : Nat) (l : List (Int × Int)) : Prop where
  there : MapU W 22 .u32 T l.length (thF l)
  back : MapU W 22 .u32 K l.length (bkF l)
  ne : T ≠ K
theorem PrM.below {W W' : World} {T K : Nat} {l : List (Int × Int)} (h : PrM W T K l) (hb : Below W.heap.size W W') : PrM W' T K l := ⟨h.there.below hb, h.back.below hb, h.ne⟩
/-- Nothing but the two maps has turned. -/
structure KeepP (T K : Nat) (w w' : World) : Prop where
  os : w'.os = w.os
  tape : w'.tape = w.tape
  output : w'.output = w.output
  size : w.heap.size ≤ w'.heap.size
  block : ∀ i, i < w.heap.size → i ≠ T → i ≠ K → w'.heap[i]? = w.heap[i]?
theorem KeepP.trans {T K : Nat} {w w' w'' : World} (h : KeepP T K w w') (k : KeepP T K w' w'') : KeepP T K w w'' :=
  ⟨k.os.trans h.os, k.tape.trans h.tape, k.output.trans h.output, Nat.le_trans h.size k.size, fun i hi h1 h2 => (k.block i (Nat.lt_of_lt_of_le hi h.size) h1 h2).trans (h.block i hi h1 h2)⟩
theorem keepP_below {T K : Nat} {w w' : World} (h : Below w.heap.size w w') : KeepP T K w w' := ⟨h.os, h.tape, h.output, h.size, fun i hi _ _ => h.block i hi⟩
theorem KeepP.bel {T K : Nat} {w0 w w' : World} (h : Below w0.heap.size w0 w) (k : KeepP T K w w') (hT : w0.heap.size ≤ T) (hK : w0.heap.size ≤ K) : Below w0.heap.size w0 w' :=
  ⟨k.os.trans h.os, k.tape.trans h.tape, k.output.trans h.output, Nat.le_trans h.size k.size, fun i hi => (k.block i (Nat.lt_of_lt_of_le hi h.size) (by omega) (by omega)).trans (h.block i hi)⟩
theorem wf_u32 {x : Int} (h0 : 0 ≤ x) (h1 : x < 4294967296) : (Lit.int .u32 x).wf = true := by simp [Lit.wf, show IntKind.u32.min = 0 from rfl, show IntKind.u32.max = 4294967295 from rfl]; omega

set_option maxHeartbeats 8000000 in
theorem pairJoin_any (T K : Nat) (l : List (Int × Int)) (a b : Int) (w : World) (hM : PrM w T K l) (hB : Bij l) (hl : l.length < maxLen) (a0 : 0 < a) (a1 : a < 4294967296) (b0 : 0 < b) (b1 : b < 4294967296) :
    Calls Try.prog 33 #[.agg #[.map (some T), .map (some K)], .int .u32 a, .int .u32 b] w fun e w' => ∃ r : Bool, e = .returned (.bool r) ∧ (r = true ↔ Bij (l ++ [(a, b)])) ∧ (r = true → PrM w' T K (l ++ [(a, b)])) ∧ KeepP T K w w' := by
  have hba : Below w.heap.size w (w.alloc (.cells #[.map (some T), .map (some K)] 48)) := (Below.refl _ w).alloc (Nat.le_refl _) _
  have HM := hide (hM.below hba)
  have HP := hide (heap_alloc_new w (.cells #[.map (some T), .map (some K)] 48))
  have HTT := hide Try.underlying46
  have HTE := hide Try.underlying22
  have HBA := hide hba
  have HTl : Hid (T < w.heap.size ∧ K < w.heap.size) := ⟨hM.there.lt, hM.back.lt⟩
  have HNE := hide hM.ne
  have HAR : Hid (0 ≤ a ∧ a < 4294967296) := ⟨by omega, a1⟩
  have HBR : Hid (0 ≤ b ∧ b < 4294967296) := ⟨by omega, b1⟩
  have HSW : Hid ((w.alloc (.cells #[.map (some T), .map (some K)] 48)).heap.size = w.heap.size + 1) := by show _ = _; simp
  obtain ⟨pp, _⟩ := one_block HP.out
  have p0 := pp 0
  have p1 := pp 1
  have HL := hide hl
  clear hba hM pp
  by_cases hn : thF l a = none ∧ bkF l b = none
  · obtain ⟨j1, j2, j3⟩ := join_new hB hn.1 hn.2
    obtain ⟨n1, n2⟩ := hn
    have HJ := hide (And.intro j1 (And.intro j2 j3))
    clear hB j1 j2 j3
    go_enter Try.func33, Try.ntmps33
    go_wp2_with (first | (at_lookup; refine wpList_lookU_ok rfl _ _ 46 rfl 22 .u32 HTT.out HTE.out (zeroU32P _) T l.length (thF l) rfl HM.out.there a rfl HAR.out.1 HAR.out.2 ?_; rw [n1, Option.getD_none, Option.isSome_none]) | (at_lookup; refine wpList_lookU_ok rfl _ _ 46 rfl 22 .u32 HTT.out HTE.out (zeroU32P _) K l.length (bkF l) rfl HM.out.back b rfl HBR.out.1 HBR.out.2 ?_; rw [n2, Option.getD_none, Option.isSome_none]) | go_in)
    have LC : Hid (∀ w' : World, w'.heap[w.heap.size]? = some (.cells #[.map (some T), .map (some K)] 48) → w'.cell? ⟨w.heap.size, 0, none⟩ = some (.map (some T)) ∧ w'.cell? ⟨w.heap.size, 1, none⟩ = some (.map (some K))) := fun w' h => ⟨(one_block h).1 0, (one_block h).1 1⟩
    have hC0 : (w.alloc (.cells #[.map (some T), .map (some K)] 48)).drew.heap[w.heap.size]? = some (.cells #[.map (some T), .map (some K)] 48) := HP.out
    have hmix : Try.prog.follows .mixedOrders = true := by kernel_rfl
    refine (wpIn_wide (n := 0)).1 ?_
    refine wpIn_normal (wpIn_region_any hmix (wpAnyE_sound (C := fun w' : World => w'.heap[w.heap.size]? = some (.cells #[.map (some T), .map (some K)] 48)) (E := fun _ => false) _ _ _ _ ?_))
    change wpAnyE _ _ _ _ _ _ _ _ _ _ _ (World.drew _)
    refine wpAnyE_takeD (i := 0) (some 31) (v := (.pointer (some ⟨w.heap.size, 0, none⟩))) (fun _ => trivial) (by kernel_rfl) rfl rfl (by kernel_rfl) (by kernel_rfl) (by kernel_rfl) (by kernel_rfl) (fun _ _ _ h => by cases h.1) hC0 (Or.inl ⟨by rfl, fun w' hC => by obtain ⟨e1, e2⟩ := LC.out w' hC; clear hC; go_simp⟩) ?_
    simp only [Act.put, List.setIfInBounds_toArray, List.set_cons_succ, List.set_cons_zero]
    refine wpAnyE_takeD (i := 1) (some 32) (v := (.map (some T))) (fun _ => trivial) (by kernel_rfl) rfl rfl (by kernel_rfl) (by kernel_rfl) (by kernel_rfl) (by kernel_rfl) (fun _ _ _ h => by cases h.1) hC0 (Or.inl ⟨by rfl, fun w' hC => by obtain ⟨e1, e2⟩ := LC.out w' hC; clear hC; go_simp⟩) ?_
    simp only [Act.put, List.setIfInBounds_toArray, List.set_cons_succ, List.set_cons_zero]
    refine wpAnyE_takeD (i := 2) (some 33) (v := (.int .u32 a)) (fun _ => trivial) (by kernel_rfl) rfl rfl (by kernel_rfl) (by kernel_rfl) (by kernel_rfl) (by kernel_rfl) (fun _ _ _ h => by cases h.1) hC0 (Or.inl ⟨by rfl, fun w' hC => by obtain ⟨e1, e2⟩ := LC.out w' hC; clear hC; go_simp⟩) ?_
    simp only [Act.put, List.setIfInBounds_toArray, List.set_cons_succ, List.set_cons_zero]
    refine wpAnyE_takeD (i := 3) (some 34) (v := (.pointer (some ⟨w.heap.size, 1, none⟩))) (fun _ => trivial) (by kernel_rfl) rfl rfl (by kernel_rfl) (by kernel_rfl) (by kernel_rfl) (by kernel_rfl) (fun _ _ _ h => by cases h.1) hC0 (Or.inl ⟨by rfl, fun w' hC => by obtain ⟨e1, e2⟩ := LC.out w' hC; clear hC; go_simp⟩) ?_
    simp only [Act.put, List.setIfInBounds_toArray, List.set_cons_succ, List.set_cons_zero]
    refine wpAnyE_takeD (i := 4) (some 35) (v := (.map (some K))) (fun _ => trivial) (by kernel_rfl) rfl rfl (by kernel_rfl) (by kernel_rfl) (by kernel_rfl) (by kernel_rfl) (fun _ _ _ h => by cases h.1) hC0 (Or.inl ⟨by rfl, fun w' hC => by obtain ⟨e1, e2⟩ := LC.out w' hC; clear hC; go_simp⟩) ?_
    simp only [Act.put, List.setIfInBounds_toArray, List.set_cons_succ, List.set_cons_zero]
    refine wpAnyE_takeD (i := 5) (some 36) (v := (.int .u32 b)) (fun _ => trivial) (by kernel_rfl) rfl rfl (by kernel_rfl) (by kernel_rfl) (by kernel_rfl) (by kernel_rfl) (fun _ _ _ h => by cases h.1) hC0 (Or.inl ⟨by rfl, fun w' hC => by obtain ⟨e1, e2⟩ := LC.out w' hC; clear hC; go_simp⟩) ?_
    simp only [Act.put, List.setIfInBounds_toArray, List.set_cons_succ, List.set_cons_zero]
    refine wpAnyE_takeD (i := 6) (some 37) (v := (.int .u32 b)) (fun _ => trivial) (by kernel_rfl) rfl rfl (by kernel_rfl) (by kernel_rfl) (by kernel_rfl) (by kernel_rfl) (fun _ _ _ h => by cases h.1) hC0 (Or.inl ⟨by rfl, fun w' hC => by obtain ⟨e1, e2⟩ := LC.out w' hC; clear hC; go_simp⟩) ?_
    simp only [Act.put, List.setIfInBounds_toArray, List.set_cons_succ, List.set_cons_zero]
    refine wpAnyE_takeD (i := 7) (some 38) (v := (.int .u32 a)) (fun _ => trivial) (by kernel_rfl) rfl rfl (by kernel_rfl) (by kernel_rfl) (by kernel_rfl) (by kernel_rfl) (fun _ _ _ h => by cases h.1) hC0 (Or.inl ⟨by rfl, fun w' hC => by obtain ⟨e1, e2⟩ := LC.out w' hC; clear hC; go_simp⟩) ?_
    simp only [Act.put, List.setIfInBounds_toArray, List.set_cons_succ, List.set_cons_zero]
    refine wpAnyE_ready (rs := [8]) (by kernel_rfl) (by simp) ?_
    refine AllE.cons rfl (fun Kk hK => ?_) AllE.nil
    refine stepAny_putU _ (fun _ => trivial) rfl (.tmp 32) (.tmp 33) (.tmp 37) 46 rfl 22 .u32 HTT.out HTE.out T l.length (thF l) rfl (HM.out.there.block rfl) HL.out a b rfl HAR.out.1 HAR.out.2 rfl (wf_u32 HBR.out.1 HBR.out.2) ?_
    intro w5 hm5 hg5
    have hC5 : w5.heap[w.heap.size]? = some (.cells #[.map (some T), .map (some K)] 48) := (hg5.block _ (by show _ < (World.alloc _ _).heap.size; simp) (fun e => by have := HTl.out.1; simp only [Option.some.injEq] at e; omega)).trans hC0
    refine hK _ _ (.inr hC5) ?_
    clear hK Kk
    have hk5 : MapU w5 22 .u32 K l.length (bkF l) := HM.out.back.block (hg5.block _ (by have := HTl.out.2; show _ < (World.alloc _ _).heap.size; simp; omega) (fun e => HNE.out (Option.some.inj e).symm))
    refine wpAnyE_ready (rs := [9]) (by kernel_rfl) (by simp) ?_
    refine AllE.cons rfl (fun Kk hK => ?_) AllE.nil
    refine stepAny_putU _ (fun _ => trivial) rfl (.tmp 35) (.tmp 36) (.tmp 38) 46 rfl 22 .u32 HTT.out HTE.out K l.length (bkF l) rfl hk5 HL.out b a rfl HBR.out.1 HBR.out.2 rfl (wf_u32 HAR.out.1 HAR.out.2) ?_
    intro w6 hm6 hg6
    have hC6 : w6.heap[w.heap.size]? = some (.cells #[.map (some T), .map (some K)] 48) := (hg6.block _ (by have := hg5.size; have e : (w.alloc (.cells #[.map (some T), .map (some K)] 48)).drew.heap.size = w.heap.size + 1 := HSW.out; omega) (fun e => by have := HTl.out.2; simp only [Option.some.injEq] at e; omega)).trans hC5
    refine hK _ _ (.inr hC6) ?_
    clear hK Kk
    have HF : Hid (PrM w6 T K (l ++ [(a, b)]) ∧ KeepP T K w w6) := by
      have e0 : (w.alloc (.cells #[.map (some T), .map (some K)] 48)).drew.heap.size = w.heap.size + 1 := HSW.out
      have s5 := hg5.size
      have s6 := hg6.size
      refine ⟨⟨?_, ?_, HNE.out⟩, ?_⟩
      · have h1 : MapU w6 22 .u32 T (l.length + 1) _ := hm5.block (hg6.block _ (by have := HTl.out.1; omega) (fun e => HNE.out (Option.some.inj e)))
        rw [List.length_append]; exact h1.congr HJ.out.2.1
      · rw [List.length_append]; exact hm6.congr HJ.out.2.2
      · refine ⟨hg6.os.trans (hg5.os.trans HBA.out.os), hg6.tape.trans (hg5.tape.trans HBA.out.tape), hg6.output.trans (hg5.output.trans HBA.out.output), by omega, fun i hi h1 h2 => ?_⟩
        exact (hg6.block i (by omega) (fun e => h2 (Option.some.inj e))).trans ((hg5.block i (by omega) (fun e => h1 (Option.some.inj e))).trans (HBA.out.block i hi))
    clear hC0 hC5 hC6 hm5 hm6 hg5 hg6 hk5
    refine wpAnyE_done (by kernel_rfl) ⟨rfl, ?_⟩ _
    rw [then_normalP]
    go_wp2_with fail
    go_ret
    exact ⟨true, rfl, ⟨fun _ => HJ.out.1, fun _ => rfl⟩, fun _ => HF.out.1, HF.out.2⟩
  · have HJ := hide (join_old hB hn)
    have HJS : Hid (thF l a = some b → (∀ y, thF l y = thF (l ++ [(a, b)]) y) ∧ ∀ y, bkF l y = bkF (l ++ [(a, b)]) y) := join_same hB
    have HFN : Hid (PrM (w.alloc (.cells #[.map (some T), .map (some K)] 48)) T K l ∧ KeepP T K w (w.alloc (.cells #[.map (some T), .map (some K)] 48))) := ⟨HM.out, keepP_below HBA.out⟩
    have HNN : Hid (¬ ((thF l a).isSome = false ∧ (bkF l b).isSome = false)) := by intro h; exact hn ⟨by simpa using h.1, by simpa using h.2⟩
    have HRR : Hid (((bkF l b).getD 0 == a && (thF l a).getD 0 == b) = true ↔ Bij (l ++ [(a, b)])) := by
      show _ ↔ _
      rw [HJ.out]
      cases hx : bkF l b <;> cases hy : thF l a <;> simp <;> omega
    have HTB : Hid (((bkF l b).getD 0 == a && (thF l a).getD 0 == b) = true → thF l a = some b) := fun h => (HJ.out.1 (HRR.out.1 h)).2
    have HFX : Hid (((bkF l b).getD 0 == a && (thF l a).getD 0 == b) = true → PrM (w.alloc (.cells #[.map (some T), .map (some K)] 48)) T K (l ++ [(a, b)])) := fun h => by
      obtain ⟨q1, q2⟩ := HJS.out (HTB.out h)
      have e : (l ++ [(a, b)]).length = l.length + 1 := by simp
      exact ⟨by rw [e]; exact (HFN.out.1.there.congr q1).mono (by omega), by rw [e]; exact (HFN.out.1.back.congr q2).mono (by omega), HNE.out⟩
    clear hB hn HJ HJS HTB
    go_enter Try.func33, Try.ntmps33
    generalize hy : thF l a = ya at *
    generalize hz : bkF l b = zb at *
    clear a0 a1 b0 b1
    cases e3 : ya.isSome <;> cases e4 : zb.isSome
    · exact (HNN.out ⟨e3, e4⟩).elim
    · clear HNN
      generalize g1 : zb.getD 0 = zv at *
      generalize g2 : ya.getD 0 = yv at *
      by_cases e1 : zv = a
      · have e1' : (zv == a) = true := by simp [e1]
        clear e1
        by_cases e2 : yv = b
        · have e2' : (yv == b) = true := by simp [e2]
          clear e2
          go_wp2_with (first | (at_lookup; refine wpList_lookU_ok rfl _ _ 46 rfl 22 .u32 HTT.out HTE.out (zeroU32P _) T l.length (thF l) rfl HM.out.there a rfl HAR.out.1 HAR.out.2 ?_; rw [hy, e3, g2]) | (at_lookup; refine wpList_lookU_ok rfl _ _ 46 rfl 22 .u32 HTT.out HTE.out (zeroU32P _) K l.length (bkF l) rfl HM.out.back b rfl HBR.out.1 HBR.out.2 ?_; rw [hz, e4, g1]) | go_in)
          go_ret
          exact ⟨zv == a && yv == b, by first | (rw [e1', e2']; rfl) | (rw [e1']; rfl) | (simp [e1', e2']; done), HRR.out, HFX.out, HFN.out.2⟩
        · have e2' : (yv == b) = false := by simp [e2]
          clear e2
          go_wp2_with (first | (at_lookup; refine wpList_lookU_ok rfl _ _ 46 rfl 22 .u32 HTT.out HTE.out (zeroU32P _) T l.length (thF l) rfl HM.out.there a rfl HAR.out.1 HAR.out.2 ?_; rw [hy, e3, g2]) | (at_lookup; refine wpList_lookU_ok rfl _ _ 46 rfl 22 .u32 HTT.out HTE.out (zeroU32P _) K l.length (bkF l) rfl HM.out.back b rfl HBR.out.1 HBR.out.2 ?_; rw [hz, e4, g1]) | go_in)
          go_ret
          exact ⟨zv == a && yv == b, by first | (rw [e1', e2']; rfl) | (rw [e1']; rfl) | (simp [e1', e2']; done), HRR.out, HFX.out, HFN.out.2⟩
      · have e1' : (zv == a) = false := by simp [e1]
        clear e1
        by_cases e2 : yv = b
        · have e2' : (yv == b) = true := by simp [e2]
          clear e2
          go_wp2_with (first | (at_lookup; refine wpList_lookU_ok rfl _ _ 46 rfl 22 .u32 HTT.out HTE.out (zeroU32P _) T l.length (thF l) rfl HM.out.there a rfl HAR.out.1 HAR.out.2 ?_; rw [hy, e3, g2]) | (at_lookup; refine wpList_lookU_ok rfl _ _ 46 rfl 22 .u32 HTT.out HTE.out (zeroU32P _) K l.length (bkF l) rfl HM.out.back b rfl HBR.out.1 HBR.out.2 ?_; rw [hz, e4, g1]) | go_in)
          go_ret
          exact ⟨zv == a && yv == b, by first | (rw [e1', e2']; rfl) | (rw [e1']; rfl) | (simp [e1', e2']; done), HRR.out, HFX.out, HFN.out.2⟩
        · have e2' : (yv == b) = false := by simp [e2]
          clear e2
          go_wp2_with (first | (at_lookup; refine wpList_lookU_ok rfl _ _ 46 rfl 22 .u32 HTT.out HTE.out (zeroU32P _) T l.length (thF l) rfl HM.out.there a rfl HAR.out.1 HAR.out.2 ?_; rw [hy, e3, g2]) | (at_lookup; refine wpList_lookU_ok rfl _ _ 46 rfl 22 .u32 HTT.out HTE.out (zeroU32P _) K l.length (bkF l) rfl HM.out.back b rfl HBR.out.1 HBR.out.2 ?_; rw [hz, e4, g1]) | go_in)
          go_ret
          exact ⟨zv == a && yv == b, by first | (rw [e1', e2']; rfl) | (rw [e1']; rfl) | (simp [e1', e2']; done), HRR.out, HFX.out, HFN.out.2⟩
    · clear HNN
      generalize g1 : zb.getD 0 = zv at *
      generalize g2 : ya.getD 0 = yv at *
      by_cases e1 : zv = a
      · have e1' : (zv == a) = true := by simp [e1]
        clear e1
        by_cases e2 : yv = b
        · have e2' : (yv == b) = true := by simp [e2]
          clear e2
          go_wp2_with (first | (at_lookup; refine wpList_lookU_ok rfl _ _ 46 rfl 22 .u32 HTT.out HTE.out (zeroU32P _) T l.length (thF l) rfl HM.out.there a rfl HAR.out.1 HAR.out.2 ?_; rw [hy, e3, g2]) | (at_lookup; refine wpList_lookU_ok rfl _ _ 46 rfl 22 .u32 HTT.out HTE.out (zeroU32P _) K l.length (bkF l) rfl HM.out.back b rfl HBR.out.1 HBR.out.2 ?_; rw [hz, e4, g1]) | go_in)
          go_ret
          exact ⟨zv == a && yv == b, by first | (rw [e1', e2']; rfl) | (rw [e1']; rfl) | (simp [e1', e2']; done), HRR.out, HFX.out, HFN.out.2⟩
        · have e2' : (yv == b) = false := by simp [e2]
          clear e2
          go_wp2_with (first | (at_lookup; refine wpList_lookU_ok rfl _ _ 46 rfl 22 .u32 HTT.out HTE.out (zeroU32P _) T l.length (thF l) rfl HM.out.there a rfl HAR.out.1 HAR.out.2 ?_; rw [hy, e3, g2]) | (at_lookup; refine wpList_lookU_ok rfl _ _ 46 rfl 22 .u32 HTT.out HTE.out (zeroU32P _) K l.length (bkF l) rfl HM.out.back b rfl HBR.out.1 HBR.out.2 ?_; rw [hz, e4, g1]) | go_in)
          go_ret
          exact ⟨zv == a && yv == b, by first | (rw [e1', e2']; rfl) | (rw [e1']; rfl) | (simp [e1', e2']; done), HRR.out, HFX.out, HFN.out.2⟩
      · have e1' : (zv == a) = false := by simp [e1]
        clear e1
        by_cases e2 : yv = b
        · have e2' : (yv == b) = true := by simp [e2]
          clear e2
          go_wp2_with (first | (at_lookup; refine wpList_lookU_ok rfl _ _ 46 rfl 22 .u32 HTT.out HTE.out (zeroU32P _) T l.length (thF l) rfl HM.out.there a rfl HAR.out.1 HAR.out.2 ?_; rw [hy, e3, g2]) | (at_lookup; refine wpList_lookU_ok rfl _ _ 46 rfl 22 .u32 HTT.out HTE.out (zeroU32P _) K l.length (bkF l) rfl HM.out.back b rfl HBR.out.1 HBR.out.2 ?_; rw [hz, e4, g1]) | go_in)
          go_ret
          exact ⟨zv == a && yv == b, by first | (rw [e1', e2']; rfl) | (rw [e1']; rfl) | (simp [e1', e2']; done), HRR.out, HFX.out, HFN.out.2⟩
        · have e2' : (yv == b) = false := by simp [e2]
          clear e2
          go_wp2_with (first | (at_lookup; refine wpList_lookU_ok rfl _ _ 46 rfl 22 .u32 HTT.out HTE.out (zeroU32P _) T l.length (thF l) rfl HM.out.there a rfl HAR.out.1 HAR.out.2 ?_; rw [hy, e3, g2]) | (at_lookup; refine wpList_lookU_ok rfl _ _ 46 rfl 22 .u32 HTT.out HTE.out (zeroU32P _) K l.length (bkF l) rfl HM.out.back b rfl HBR.out.1 HBR.out.2 ?_; rw [hz, e4, g1]) | go_in)
          go_ret
          exact ⟨zv == a && yv == b, by first | (rw [e1', e2']; rfl) | (rw [e1']; rfl) | (simp [e1', e2']; done), HRR.out, HFX.out, HFN.out.2⟩
    · clear HNN
      generalize g1 : zb.getD 0 = zv at *
      generalize g2 : ya.getD 0 = yv at *
      by_cases e1 : zv = a
      · have e1' : (zv == a) = true := by simp [e1]
        clear e1
        by_cases e2 : yv = b
        · have e2' : (yv == b) = true := by simp [e2]
          clear e2
          go_wp2_with (first | (at_lookup; refine wpList_lookU_ok rfl _ _ 46 rfl 22 .u32 HTT.out HTE.out (zeroU32P _) T l.length (thF l) rfl HM.out.there a rfl HAR.out.1 HAR.out.2 ?_; rw [hy, e3, g2]) | (at_lookup; refine wpList_lookU_ok rfl _ _ 46 rfl 22 .u32 HTT.out HTE.out (zeroU32P _) K l.length (bkF l) rfl HM.out.back b rfl HBR.out.1 HBR.out.2 ?_; rw [hz, e4, g1]) | go_in)
          go_ret
          exact ⟨zv == a && yv == b, by first | (rw [e1', e2']; rfl) | (rw [e1']; rfl) | (simp [e1', e2']; done), HRR.out, HFX.out, HFN.out.2⟩
        · have e2' : (yv == b) = false := by simp [e2]
          clear e2
          go_wp2_with (first | (at_lookup; refine wpList_lookU_ok rfl _ _ 46 rfl 22 .u32 HTT.out HTE.out (zeroU32P _) T l.length (thF l) rfl HM.out.there a rfl HAR.out.1 HAR.out.2 ?_; rw [hy, e3, g2]) | (at_lookup; refine wpList_lookU_ok rfl _ _ 46 rfl 22 .u32 HTT.out HTE.out (zeroU32P _) K l.length (bkF l) rfl HM.out.back b rfl HBR.out.1 HBR.out.2 ?_; rw [hz, e4, g1]) | go_in)
          go_ret
          exact ⟨zv == a && yv == b, by first | (rw [e1', e2']; rfl) | (rw [e1']; rfl) | (simp [e1', e2']; done), HRR.out, HFX.out, HFN.out.2⟩
      · have e1' : (zv == a) = false := by simp [e1]
        clear e1
        by_cases e2 : yv = b
        · have e2' : (yv == b) = true := by simp [e2]
          clear e2
          go_wp2_with (first | (at_lookup; refine wpList_lookU_ok rfl _ _ 46 rfl 22 .u32 HTT.out HTE.out (zeroU32P _) T l.length (thF l) rfl HM.out.there a rfl HAR.out.1 HAR.out.2 ?_; rw [hy, e3, g2]) | (at_lookup; refine wpList_lookU_ok rfl _ _ 46 rfl 22 .u32 HTT.out HTE.out (zeroU32P _) K l.length (bkF l) rfl HM.out.back b rfl HBR.out.1 HBR.out.2 ?_; rw [hz, e4, g1]) | go_in)
          go_ret
          exact ⟨zv == a && yv == b, by first | (rw [e1', e2']; rfl) | (rw [e1']; rfl) | (simp [e1', e2']; done), HRR.out, HFX.out, HFN.out.2⟩
        · have e2' : (yv == b) = false := by simp [e2]
          clear e2
          go_wp2_with (first | (at_lookup; refine wpList_lookU_ok rfl _ _ 46 rfl 22 .u32 HTT.out HTE.out (zeroU32P _) T l.length (thF l) rfl HM.out.there a rfl HAR.out.1 HAR.out.2 ?_; rw [hy, e3, g2]) | (at_lookup; refine wpList_lookU_ok rfl _ _ 46 rfl 22 .u32 HTT.out HTE.out (zeroU32P _) K l.length (bkF l) rfl HM.out.back b rfl HBR.out.1 HBR.out.2 ?_; rw [hz, e4, g1]) | go_in)
          go_ret
          exact ⟨zv == a && yv == b, by first | (rw [e1', e2']; rfl) | (rw [e1']; rfl) | (simp [e1', e2']; done), HRR.out, HFX.out, HFN.out.2⟩

end Go.Proofs.Ytjckgnpbjekhbaa

/-
  What an argument that is an instruction, or a slice of instructions, holds: all within their bounds, each list within the reach of memory.
-/
namespace Go.Proofs.Ytjckgnpbjekhbaa
open Go.ChangeShapes Go.WideShapes Go.ChangeAt Go.RowKit
set_option maxRecDepth 100000

theorem ArgInsts.cellsA : Try.prog.cellsOf 55 = 3 := by kernel_rfl
theorem ArgInsts.cells8 : Try.prog.cellsOf 5 = 1 := by kernel_rfl
theorem ArgInsts.cells32 : Try.prog.cellsOf 22 = 1 := by kernel_rfl
theorem ArgInsts.cellsS : Try.prog.cellsOf 9 = 1 := by kernel_rfl
theorem ArgInsts.bytesA : Try.prog.bytesOf 55 = 24 := by kernel_rfl
theorem ArgInsts.cells16 : Try.prog.cellsOf 35 = 1 := by kernel_rfl
theorem ArgInsts.cellsL : Try.prog.cellsOf 36 = 1 := by kernel_rfl

theorem ArgInsts.cellsI : Try.prog.cellsOf 38 = 4 := by kernel_rfl
theorem ArgInsts.bytesI : Try.prog.bytesOf 38 = 40 := by kernel_rfl

theorem weightsIn {H : Type} {P : Program} {e : TypeId} : ∀ {l : List (DataW H)} {d : DataW H}, d ∈ l → ∀ n ∈ d.weights P e, n ∈ DataW.weightsAll P e l
  | d0 :: l, d, hd, n, hn => by
    simp only [DataW.weightsAll, List.mem_append]
    rcases List.mem_cons.1 hd with rfl | h
    · exact Or.inl hn
    · exact Or.inr (weightsIn h n hn)

theorem argsV_mk {w : World} {x : Addr} {n : Nat} {f : Nat → ArgT} (h : ∀ i, i < n → w.cell? (x.add (i * 3)) = some (.int .u8 (f i).1) ∧ w.cell? (x.add (i * 3 + 1)) = some (.int .u32 (f i).2.1) ∧ w.cell? (x.add (i * 3 + 2)) = some (.string (f i).2.2)) : ArgsV w (some x) ((List.range n).map f) := by
  intro j hj
  rw [List.length_map, List.length_range] at hj
  have h0 := (h 0 (by omega)).1
  obtain ⟨b, off, spot⟩ := x
  have hs : spot = none := by simpa [Addr.add] using World.cell?_spot h0
  subst hs
  obtain ⟨h1, h2, h3⟩ := h j hj
  rw [Addr.add_lit] at h1 h2 h3
  have e : nthA ((List.range n).map f) j = f j := by simp [nthA, List.getD, hj]
  rw [e]
  exact ⟨b, off, rfl, World.block_lt_of_cell? _ _ h1, h1, by rw [Nat.add_assoc]; exact h2, by rw [Nat.add_assoc]; exact h3⟩

set_option maxHeartbeats 1000000 in
theorem open_args {H : Type} {enc : TypeId × Value → H} {w : World} {base fuel : Nat} {held : Bool} {a : Option Addr} {len cap : Nat} {d : DataW H} {ps : List MemPlace}
    (hf : DataW.trod enc Try.prog w base (fun _ => true) held fuel 36 [.slice a len cap] = some (d, ps)) (hs : ∀ n ∈ d.weights Try.prog 36, n ≤ reachBytes) :
    ∃ l : List ArgT, l.length = len ∧ ArgsV w a l ∧ ArgsOk l ∧ 24 * len ≤ 140737488351232 ∧ len ≤ cap := by
  rcases Go.Deep.open_slice Try.underlying36 hf with ⟨hcs, _⟩ | ⟨x, l, c, mm, nn, D, Pl, hcs, _, hl, hm, hmm, hx, hall⟩
  · simp at hcs
    obtain ⟨rfl, rfl, rfl⟩ := hcs
    exact ⟨[], rfl, argsV_nil, argsOk_nil, by omega, by omega⟩
  · simp at hcs
    obtain ⟨rfl, rfl, rfl⟩ := hcs
    simp only [Prod.mk.injEq] at hx
    obtain ⟨rfl, rfl⟩ := hx
    simp only [if_true] at hmm
    subst hmm
    have hs0 := hs ((((List.range len).map D).length + ((List.range (mm - len)).map fun j => D (len + j)).length) * Try.prog.bytesOf 55) (by simp [DataW.weights, Try.underlying36])
    rw [ArgInsts.bytesA] at hs0
    simp only [List.length_map, List.length_range, reachBytes] at hs0
    have key : ∀ i, i < len → ∃ r : ArgT, w.cell? (x.add (i * 3)) = some (.int .u8 r.1) ∧ w.cell? (x.add (i * 3 + 1)) = some (.int .u32 r.2.1) ∧ w.cell? (x.add (i * 3 + 2)) = some (.string r.2.2) ∧ ArgOk r := by
      intro i hi
      obtain ⟨cs, hc, ht⟩ := hall i (by omega)
      rw [ArgInsts.cellsA] at hc
      obtain ⟨_, hlen, hcell⟩ := World.cells?_some hc
      obtain ⟨xs, k, _, hxy, _, hxl, hfl⟩ := DataW.trod_struct Try.underlying55 ht
      have g0 := hfl 0 _ rfl
      have g1 := hfl 1 _ rfl
      have g2 := hfl 2 _ rfl
      match xs, hxl, cs, hlen with
      | [y0, y1, y2], _, [v0, v1, v2], _ =>
        have e0 := hcell 0 (by omega)
        have e1 := hcell 1 (by omega)
        have e2 := hcell 2 (by omega)
        rw [Go.Deep.add_add] at e0 e1 e2
        simp [ArgInsts.cells8, ArgInsts.cells32, ArgInsts.cellsS] at g0 g1 g2 e0 e1 e2
        obtain ⟨n0, q0, _, w0⟩ := DataW.trod_int Try.underlying5 g0
        obtain ⟨n1, q1, _, w1⟩ := DataW.trod_int Try.underlying22 g1
        obtain ⟨s2, q2, q3⟩ := DataW.trod_string Try.underlying9 g2
        simp at q0 q1 q2
        subst q0; subst q1; subst q2
        have b0 := bounds_u8 w0
        have b1 := bounds_u32 w1
        refine ⟨(n0, n1, s2), by simpa using e0, e1, e2, ?_⟩
        have hs2 := hs s2.size (by
          have hmem : D i ∈ (List.range len).map D := List.mem_map.2 ⟨i, List.mem_range.2 hi, rfl⟩
          simp only [DataW.weights, Try.underlying36, List.mem_cons, List.mem_append]
          refine Or.inr (Or.inl (weightsIn hmem _ ?_))
          simp only [Prod.mk.injEq] at hxy
          rw [hxy.1]
          simp only [DataW.weights, Try.underlying55]
          refine DataW.weights_mem_each (j := 2) rfl rfl _ ?_
          simp_all [DataW.weights])
        simp only [reachBytes] at hs2
        exact ⟨by simp; omega, by simp; omega, by simp; omega, by simp; omega, hs2⟩
    let f : Nat → ArgT := fun i => if h : i < len then Classical.choose (key i h) else noArg
    have hf' : ∀ i (h : i < len), f i = Classical.choose (key i h) := fun i h => dif_pos h
    refine ⟨(List.range len).map f, by simp, argsV_mk (fun i hi => ?_), fun j hj => ?_, by omega, hl⟩
    · rw [hf' i hi]
      obtain ⟨h1, h2, h3, _⟩ := Classical.choose_spec (key i hi)
      exact ⟨h1, h2, h3⟩
    · rw [List.length_map, List.length_range] at hj
      have e : nthA ((List.range len).map f) j = f j := by simp [nthA, List.getD, hj]
      rw [e, hf' j hj]
      exact (Classical.choose_spec (key j hj)).2.2.2

theorem instsV_mk {w : World} {x : Addr} {n : Nat} {f : Nat → InstT} (h : ∀ i, i < n → w.cell? (x.add (i * 4)) = some (.int .u16 (f i).1) ∧ w.cell? (x.add (i * 4 + 1)) = some (.int .u32 (f i).2.1) ∧ w.cell? (x.add (i * 4 + 2)) = some (.int .u32 (f i).2.2.1) ∧
    ∃ aj cj, w.cell? (x.add (i * 4 + 3)) = some (.slice aj (f i).2.2.2.length cj) ∧ ArgsV w aj (f i).2.2.2 ∧ (f i).2.2.2.length ≤ cj) : InstsV w (some x) ((List.range n).map f) := by
  intro j hj
  rw [List.length_map, List.length_range] at hj
  have h0 := (h 0 (by omega)).1
  obtain ⟨b, off, spot⟩ := x
  have hs : spot = none := by simpa [Addr.add] using World.cell?_spot h0
  subst hs
  obtain ⟨h1, h2, h3, aj, cj, h4, h5, h6⟩ := h j hj
  rw [Addr.add_lit] at h1 h2 h3 h4
  have e : nthI ((List.range n).map f) j = f j := by simp [nthI, List.getD, hj]
  rw [e]
  exact ⟨b, off, aj, cj, _, rfl, World.block_lt_of_cell? _ _ h1, h1, by rw [Nat.add_assoc]; exact h2, by rw [Nat.add_assoc]; exact h3, by rw [Nat.add_assoc]; exact h4, rfl, h5, h6⟩

set_option maxHeartbeats 1000000 in
theorem open_insts {H : Type} {enc : TypeId × Value → H} {w : World} {base fuel : Nat} {held : Bool} {a : Option Addr} {len cap : Nat} {d : DataW H} {ps : List MemPlace}
    (hf : DataW.trod enc Try.prog w base (fun _ => true) held fuel 23 [.slice a len cap] = some (d, ps)) (hs : ∀ n ∈ d.weights Try.prog 23, n ≤ reachBytes) :
    ∃ l : List InstT, l.length = len ∧ InstsV w a l ∧ InstsOk l ∧ 40 * len ≤ 140737488351232 ∧ len ≤ cap := by
  rcases Go.Deep.open_slice Try.underlying23 hf with ⟨hcs, _⟩ | ⟨x, l, c, mm, nn, D, Pl, hcs, _, hl, hm, hmm, hx, hall⟩
  · simp at hcs
    obtain ⟨rfl, rfl, rfl⟩ := hcs
    exact ⟨[], rfl, instsV_nil, instsOk_nil, by omega, by omega⟩
  · simp at hcs
    obtain ⟨rfl, rfl, rfl⟩ := hcs
    simp only [Prod.mk.injEq] at hx
    obtain ⟨rfl, rfl⟩ := hx
    simp only [if_true] at hmm
    subst hmm
    have hs0 := hs ((((List.range len).map D).length + ((List.range (mm - len)).map fun j => D (len + j)).length) * Try.prog.bytesOf 38) (by simp [DataW.weights, Try.underlying23])
    rw [ArgInsts.bytesI] at hs0
    simp only [List.length_map, List.length_range, reachBytes] at hs0
    have key : ∀ i, i < len → ∃ r : InstT, w.cell? (x.add (i * 4)) = some (.int .u16 r.1) ∧ w.cell? (x.add (i * 4 + 1)) = some (.int .u32 r.2.1) ∧ w.cell? (x.add (i * 4 + 2)) = some (.int .u32 r.2.2.1) ∧
        (∃ aj cj, w.cell? (x.add (i * 4 + 3)) = some (.slice aj r.2.2.2.length cj) ∧ ArgsV w aj r.2.2.2 ∧ r.2.2.2.length ≤ cj) ∧ InstOk r := by
      intro i hi
      obtain ⟨cs, hc, ht⟩ := hall i (by omega)
      rw [ArgInsts.cellsI] at hc
      obtain ⟨_, hlen, hcell⟩ := World.cells?_some hc
      obtain ⟨xs, k, _, hxy, _, hxl, hfl⟩ := DataW.trod_struct Try.underlying38 ht
      have g0 := hfl 0 _ rfl
      have g1 := hfl 1 _ rfl
      have g2 := hfl 2 _ rfl
      have g3 := hfl 3 _ rfl
      match xs, hxl, cs, hlen with
      | [y0, y1, y2, y3], _, [v0, v1, v2, v3], _ =>
        have e0 := hcell 0 (by omega)
        have e1 := hcell 1 (by omega)
        have e2 := hcell 2 (by omega)
        have e3 := hcell 3 (by omega)
        rw [Go.Deep.add_add] at e0 e1 e2 e3
        simp [ArgInsts.cells16, ArgInsts.cells32, ArgInsts.cellsL] at g0 g1 g2 g3 e0 e1 e2 e3
        obtain ⟨n0, q0, _, w0⟩ := DataW.trod_int Try.underlying35 g0
        obtain ⟨n1, q1, _, w1⟩ := DataW.trod_int Try.underlying22 g1
        obtain ⟨n2, q2, _, w2⟩ := DataW.trod_int Try.underlying22 g2
        simp at q0 q1 q2
        subst q0; subst q1; subst q2
        have b0 := bounds_u16 w0
        have b1 := bounds_u32 w1
        have b2 := bounds_u32 w2
        obtain ⟨a, n, c, rfl⟩ : ∃ a n c, v3 = .slice a n c := by
          rcases Go.Deep.open_slice Try.underlying36 g3 with ⟨hcs, _⟩ | ⟨x, l, c, mm, nn, D, Pl, hcs, _⟩
          · simp at hcs; exact ⟨_, _, _, hcs⟩
          · simp at hcs; exact ⟨_, _, _, hcs⟩
        obtain ⟨l, hl, hv3, hok, hr, hc⟩ := open_args g3 (fun k hk => hs k (by
          have hmem : D i ∈ (List.range len).map D := List.mem_map.2 ⟨i, List.mem_range.2 hi, rfl⟩
          simp only [DataW.weights, Try.underlying23, List.mem_cons, List.mem_append]
          refine Or.inr (Or.inl (weightsIn hmem _ ?_))
          simp only [Prod.mk.injEq] at hxy
          rw [hxy.1]
          simp only [DataW.weights, Try.underlying38]
          exact DataW.weights_mem_each (j := 3) rfl rfl _ hk))
        subst hl
        exact ⟨(n0, n1, n2, l), by simpa using e0, e1, e2, ⟨a, c, e3, hv3, hc⟩, by simp; omega, by simp; omega, by simp; omega, by simp; omega, by simp; omega, by simp; omega, hok, hr⟩
    let f : Nat → InstT := fun i => if h : i < len then Classical.choose (key i h) else noInst
    have hf' : ∀ i (h : i < len), f i = Classical.choose (key i h) := fun i h => dif_pos h
    refine ⟨(List.range len).map f, by simp, instsV_mk (fun i hi => ?_), fun j hj => ?_, by omega, hl⟩
    · rw [hf' i hi]
      obtain ⟨h1, h2, h3, h4, _⟩ := Classical.choose_spec (key i hi)
      exact ⟨h1, h2, h3, h4⟩
    · rw [List.length_map, List.length_range] at hj
      have e : nthI ((List.range len).map f) j = f j := by simp [nthI, List.getD, hj]
      rw [e, hf' j hj]
      exact (Classical.choose_spec (key j hj)).2.2.2.2

theorem open_module {H : Type} {enc : TypeId × Value → H} {w : World} {b0 base : Nat} {held : Bool} {v : Value} {d : DataW H} {ps : List MemPlace}
    (hv : Value.okWide Try.prog w .any b0 25 v) (h : DataW.Trod enc Try.prog w base (fun _ => true) held 25 v d ps) (hs : ∀ n ∈ d.weights Try.prog 25, n ≤ reachBytes) :
    ∃ (gen bound : Int) (a : Option Addr) (n c : Nat) (l : List InstT), v = .agg #[.int .u32 gen, .int .u32 bound, .slice a n c] ∧ 0 ≤ gen ∧ gen < 4294967296 ∧ 0 ≤ bound ∧ bound < 4294967296 ∧ l.length = n ∧ InstsV w a l ∧ InstsOk l ∧ 40 * n ≤ 140737488351232 ∧ n ≤ c := by
  obtain ⟨v0, v1, v3, y0, y1, y3, m, rfl, rfl, _, t0, t1, t3⟩ := Go.Joins.open_agg3 Try.underlying25 (by kernel_rfl) (by kernel_rfl) hv h
  obtain ⟨n0, e0, _, w0⟩ := DataW.trod_int Try.underlying22 t0
  obtain ⟨n1, e1, _, w1⟩ := DataW.trod_int Try.underlying22 t1
  simp at e0 e1
  subst e0; subst e1
  have b0 := bounds_u32 w0
  have b1 := bounds_u32 w1
  obtain ⟨a, n, c, rfl⟩ : ∃ a n c, v3 = .slice a n c := by
    rcases Go.Deep.open_slice Try.underlying23 t3 with ⟨hcs, _⟩ | ⟨x, l, c, mm, nn, D, Pl, hcs, _⟩
    · simp at hcs; exact ⟨_, _, _, hcs⟩
    · simp at hcs; exact ⟨_, _, _, hcs⟩
  obtain ⟨l, hl, hv3, hok, hr, hc⟩ := open_insts t3 (fun k hk => hs k (by
    simp only [DataW.weights, Try.underlying25]
    exact DataW.weights_mem_each (j := 2) rfl rfl _ hk))
  exact ⟨n0, n1, a, n, c, l, rfl, by omega, by omega, by omega, by omega, hl, hv3, hok, hr, hc⟩

end Go.Proofs.Ytjckgnpbjekhbaa

/-
  Contains of the package slices, of words: whether a word is among them.
-/
namespace Go.Proofs.Ytjckgnpbjekhbaa
open Go.RowKit
set_option linter.unusedVariables false
set_option linter.unusedSimpArgs false
set_option maxRecDepth 10000

end Go.Proofs.Ytjckgnpbjekhbaa

/-
  What Letter of the document's answer returns, for every operation and number.
-/
namespace Go.Proofs.Ytjckgnpbjekhbaa
open Go.RowKit
set_option maxRecDepth 10000
set_option linter.unusedVariables false
set_option linter.unusedSimpArgs false

end Go.Proofs.Ytjckgnpbjekhbaa

/-
  What Wrong of the document's answer returns: what is wrong with an argument that stands where a letter is.
-/
namespace Go.Proofs.Ytjckgnpbjekhbaa
open Go.RowKit
set_option linter.unusedVariables false
set_option linter.unusedSimpArgs false
set_option maxRecDepth 10000

end Go.Proofs.Ytjckgnpbjekhbaa

/-
  What Split of the document's answer returns, for every list of bytes: its error, and its words in new memory; nothing that was there has turned.
-/
namespace Go.Proofs.Ytjckgnpbjekhbaa
open Go.RowKit
set_option maxRecDepth 10000

theorem RefSplit.info : (Try.prog.info? 22).map (fun i => (i.zero, i.size, i.bytes)) = some (some (.int .u32 0), 1, 4) := by kernel_rfl

end Go.Proofs.Ytjckgnpbjekhbaa

/-
  What OfText of the document's answer returns, for every string: its error, or its words in new memory; nothing that was there has turned.
-/
namespace Go.Proofs.Ytjckgnpbjekhbaa
open Go.RowKit
set_option maxRecDepth 10000

theorem RefOfText.info : (Try.prog.info? 5).map (fun i => (i.zero, i.size, i.bytes)) = some (some (.int .u8 0), 1, 1) := by kernel_rfl

end Go.Proofs.Ytjckgnpbjekhbaa

/-
  What Room of the document's answer returns: how many words an instruction has, its first one among them.
-/
namespace Go.Proofs.Ytjckgnpbjekhbaa
open Go.RowKit
set_option linter.unusedVariables false
set_option linter.unusedSimpArgs false
set_option maxRecDepth 10000

end Go.Proofs.Ytjckgnpbjekhbaa

/-
  What Fault of the document's answer returns: what is wrong with an instruction.
-/
namespace Go.Proofs.Ytjckgnpbjekhbaa
open Go.RowKit
set_option linter.unusedVariables false
set_option linter.unusedSimpArgs false
set_option maxRecDepth 10000

end Go.Proofs.Ytjckgnpbjekhbaa

/-
  What Shape of the document's answer returns: what is wrong with a module, and where.
-/
namespace Go.Proofs.Ytjckgnpbjekhbaa
open Go.RowKit
set_option linter.unusedVariables false
set_option linter.unusedSimpArgs false
set_option maxRecDepth 10000

end Go.Proofs.Ytjckgnpbjekhbaa

/-
  What Ids of the document's answer returns, for every instruction.
-/
namespace Go.Proofs.Ytjckgnpbjekhbaa
open Go.RowKit
set_option linter.unusedVariables false
set_option linter.unusedSimpArgs false
set_option maxRecDepth 10000

end Go.Proofs.Ytjckgnpbjekhbaa

/-
  Uses of the package ids, and the document's Uses: the places of the instructions that name an id.
-/
namespace Go.Proofs.Ytjckgnpbjekhbaa
open Go.RowKit
set_option linter.unusedVariables false
set_option linter.unusedSimpArgs false
set_option maxRecDepth 10000

theorem IntsU.info : (Try.prog.info? 3).map (fun i => (i.zero, i.size, i.bytes)) = some (some (.int .i64 0), 1, 8) := by kernel_rfl

/-- A row of places while it is built, behind three boxes, the third at B. -/
structure UseS (w wr : World) (B : Nat) (gen bnd : Int) (a : Option Addr) (n c : Nat) (v : Value) (zs : List Int) : Prop where
  own : wr.ownsRow (B + 1) 3 1 v zs.length (zs.map (Value.int .i64))
  mbox : wr.heap[w.heap.size]? = some (.cells #[.int .u32 gen, .int .u32 bnd, .slice a n c] 25 (0, 0))
  sbox : wr.heap[w.heap.size + 1]? = some (.cells #[.int .i64 0, .int .i64 0] 31 (0, 0))
  tbox : wr.heap[B]? = some (.cells #[.int .i64 0, .int .i64 0] 31 (0, 0))
  bel : Below w.heap.size w wr
  lt : w.heap.size + 1 < B
theorem UseS.below {w wr wr' : World} {B : Nat} {gen bnd : Int} {a : Option Addr} {n c : Nat} {v : Value} {zs : List Int} (h : UseS w wr B gen bnd a n c v zs) (hb : Below wr.heap.size wr wr') : UseS w wr' B gen bnd a n c v zs :=
  ⟨own_below h.own hb, (hb.block _ (Array.getElem?_eq_some_iff.1 h.mbox).1).trans h.mbox, (hb.block _ (Array.getElem?_eq_some_iff.1 h.sbox).1).trans h.sbox, (hb.block _ (Array.getElem?_eq_some_iff.1 h.tbox).1).trans h.tbox, h.bel.trans (hb.mono h.bel.size), h.lt⟩
theorem UseS.push {w wr w5 : World} {B : Nat} {gen bnd : Int} {a : Option Addr} {n c : Nat} {v v' : Value} {zs : List Int} {y : Int} (h : UseS w wr B gen bnd a n c v zs) (hg : wr.grownBy w5 v.ownBlock) (hown : w5.ownsRow (B + 1) 3 1 v' (zs.length + 1) (zs.map (Value.int .i64) ++ [.int .i64 y])) : UseS w w5 B gen bnd a n c v' (zs ++ [y]) := by
  have hlo : ∀ g, v.ownBlock = some g → B + 1 ≤ g := fun g e => (h.own.lt g e).1
  have hlt := h.lt
  have kk : ∀ i, i < B + 1 → i < wr.heap.size → w5.heap[i]? = wr.heap[i]? := fun i h1 h2 => hg.block i h2 (fun e => by have := hlo _ e.symm; omega)
  refine ⟨?_, ?_, ?_, ?_, ?_, hlt⟩
  · rw [List.length_append, List.map_append]; exact hown
  · exact (kk _ (by omega) (Array.getElem?_eq_some_iff.1 h.mbox).1).trans h.mbox
  · exact (kk _ (by omega) (Array.getElem?_eq_some_iff.1 h.sbox).1).trans h.sbox
  · exact (kk _ (by omega) (Array.getElem?_eq_some_iff.1 h.tbox).1).trans h.tbox
  · exact h.bel.grown hg h.bel.size (fun k e => by have := hlo k e; omega)
theorem own_shapeU {w : World} {lo e size n : Nat} {v : Value} {xs : List Value} (h : w.ownsRow lo e size v n xs) : ∃ a c, v = .slice a n c := by
  rcases h.2 with ⟨rfl, h0⟩ | ⟨g, cap, cur, rfl, _⟩
  · exact ⟨none, 0, by rw [h0]⟩
  · exact ⟨_, _, rfl⟩
theorem own_lowU {w : World} {lo lo' e size n : Nat} {v : Value} {xs : List Value} (h : w.ownsRow lo e size v n xs) (hl : lo' ≤ lo) : w.ownsRow lo' e size v n xs := by
  refine ⟨h.1, ?_⟩
  rcases h.2 with hn0 | ⟨g, cap, cur, e1, hb, rest⟩
  · exact .inl hn0
  · exact .inr ⟨g, cap, cur, e1, by omega, rest⟩

/-- What Uses answers. -/
def UsesQ (w w' : World) (zs : List Int) (s : Int × Nat) (e : Ending) : Prop :=
  ∃ a m c, e = .returned (.tuple #[.slice a m c, .agg #[.int .i64 s.1, .int .i64 s.2]]) ∧ zs.length = m ∧ View .i64 w' a zs ∧ Below w.heap.size w w'

end Go.Proofs.Ytjckgnpbjekhbaa
