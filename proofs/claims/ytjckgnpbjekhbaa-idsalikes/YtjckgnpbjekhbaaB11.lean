/-
  Texts laid together in one: IdsPairs, MathU, SlicesContains, Ref03Letter, Ref04Wrong, Ref01Split, Ref01OfText, Ref04Room.
-/
import Derived.WalkSpells
import Derived.WalkMore
import Derived.BigRegion
import Derived.Deep.AppendLies
import Derived.Deep.RegionWith
import Derived.Test.YtjckgnpbjekhbaaProg
import Derived.Test.YtjckgnpbjekhbaaB10
import Derived.Test.YtjckgnpbjekhbaaB09
import Derived.KernelRfl
import Derived.Test.YtjckgnpbjekhbaaB01
import Derived.Test.YtjckgnpbjekhbaaB07
import Derived.Deep.QuietTactic
import Derived.BigQuiet
import Derived.Test.YtjckgnpbjekhbaaB04
import Derived.Test.YtjckgnpbjekhbaaB02
import Derived.Test.YtjckgnpbjekhbaaB05
import Derived.Test.YtjckgnpbjekhbaaB06
import Derived.Deep.RegionHeld3
import Derived.Deep.DrawnRows
import Derived.Test.YtjckgnpbjekhbaaB03
/-
  Pairs of ids of the package ids: allIds, and join.
-/
namespace Go.Proofs.Ytjckgnpbjekhbaa
open Go.RowKit Go.Maps
set_option linter.unusedVariables false
set_option linter.unusedSimpArgs false
set_option maxRecDepth 10000

theorem zeroU32P (w : World) : (zeroValue 22).run Try.prog w = .ok (.int .u32 0) w := by kernel_rfl
theorem then_normalP {K : Act → World → Prop} {Q : Exit → Act → World → Prop} {a : Act} {w : World} : Exit.then K Q .normal a w = K a w := rfl
theorem U32P.info : (Try.prog.info? 22).map (fun i => (i.zero, i.size, i.bytes)) = some (some (.int .u32 0), 1, 4) := by kernel_rfl
/-- 'm[x] = v' within a region that draws its order. -/
theorem stepAny_putU (w : World) {F : Fence} (hF : ∀ f, F.fn f) {o : Oper} {ops : Array Oper} {a : Act} {K : Act → World → Prop} {Q : Exit → Act → World → Prop} (hgd : o.guard = none) (m x v : Operand) (t : TypeId) (hop : o.op = Op.mapUpdate t m x v) (E : TypeId) (q : IntKind) (ht : Try.prog.underlying t = some (.map 22 E)) (he : Try.prog.underlying E = some (.int q))
    (b n : Nat) (f : Int → Option Int) (hm : a.eval m = .map (some b)) (h : MapU w E q b n f) (hn : n < maxLen) (key val : Int) (hx : a.eval x = .int .u32 key) (k0 : 0 ≤ key) (k1 : key < 4294967296) (hv : a.eval v = .int q val) (hw : (Lit.int q val).wf = true)
    (hK : ∀ w', MapU w' E q b (n + 1) (fun y => if y = key then some val else f y) → w.grownBy w' (some b) → K (a.put o.dst undef) w') :
    if Region.wanted o (yielded ops a.tmps) = true then Oper.wpIn F 0 Try.prog o a w K Q else (∀ f, o.about Try.prog w a.eval = some f → F.fn f) ∧ K (a.put o.dst undef) w := by
  obtain ⟨D, h1, h2, h3⟩ := h
  obtain ⟨w', hrun, r1, r2⟩ := h1.update keyU ht hn (keyU_of k0 k1) (plainElem_int he hw)
  rw [if_pos (by simp [Region.wanted, hgd])]
  refine ⟨fun f _ => hF f, ?_⟩
  rw [Oper.semAt_eq _ _ _ (fun c hc => by rw [hop] at hc; cases hc)]
  unfold execOp
  simp only [hop, hm, hx, hv, Sem.run_bind, Sem.run_pure, Result.andThen_ok, hrun]
  exact hK w' (MapU.put h1.isMap h2 h3 r1) r2

set_option maxHeartbeats 4000000 in
theorem allIds_any (x : InstT) (ax : Option Addr) (n cx : Nat) (w : World) (hv : ArgsV w ax x.2.2.2) (hl : x.2.2.2.length = n) (hn : 24 * n ≤ 140737488351232) :
    Calls Try.prog 32 #[instV x ax n cx] w fun e w' => ∃ v, e = .returned v ∧ w'.ownsRow (w.heap.size + 1) 22 1 v (allI x).length ((allI x).map (Value.int .u32)) ∧ Below w.heap.size w w' := by
  have hba : Below w.heap.size w (w.alloc (.cells #[.int .u16 x.1, .int .u32 x.2.1, .int .u32 x.2.2.1, .slice ax n cx] 38)) := (Below.refl _ w).alloc (Nat.le_refl _) _
  have hI := codeIds_any x ax n cx _ (hv.below hba) hl hn
  have hlen : (idsI x).length ≤ 1 + n := by have := idsTo_len x.2.1 x.2.2.2 x.2.2.2.length; rw [hl] at this; unfold idsI; rw [hl]; exact this
  have HX := hide (heap_alloc_new w (.cells #[.int .u16 x.1, .int .u32 x.2.1, .int .u32 x.2.2.1, .slice ax n cx] 38))
  have HS : Hid ((w.alloc (.cells #[.int .u16 x.1, .int .u32 x.2.1, .int .u32 x.2.2.1, .slice ax n cx] 38)).heap.size = w.heap.size + 1) := by show _ = _; simp
  have HBA := hide hba
  have HAL : Hid (allI x = idsI x ++ (if x.2.2.1 = 0 then [] else [x.2.2.1])) := rfl
  obtain ⟨i0, hi, hz0, hz1, hz2⟩ := info_parts U32P.info
  generalize allI x = AL at *
  generalize idsI x = IL at *
  obtain ⟨xo, xt, xr, xl⟩ := x
  unfold instV at *
  simp only at *
  clear hba hv hl
  go_enter Try.func32, Try.ntmps32
  go_wp2_with fail
  generalize w.alloc (.cells #[.int .u16 xo, .int .u32 xt, .int .u32 xr, .slice ax n cx] 38) = W0 at *
  refine hI.mono ?_
  rintro e w1 ⟨hb1, a', m', c', rfl, hlm, hown⟩
  subst hlm
  generalize hvv : Value.slice a' IL.length c' = v at *
  have kx := (hb1.block w.heap.size (by rw [HS.out]; omega)).trans HX.out
  have x2 := (one_block kx).1 2
  have HO := hide hown
  have hs1 := hb1.size
  rw [HS.out] at hs1
  have HB1 := hide hb1
  have HBW := hide (HBA.out.trans (hb1.mono HBA.out.size))
  rw [HS.out] at HO
  clear hI hb1 hown kx
  by_cases hr : xr = 0
  · have HA2 : Hid (AL = IL) := by show _ = _; rw [HAL.out, if_pos hr, List.append_nil]
    subst hr
    go_wp2_with fail
    go_ret
    exact ⟨v, rfl, by rw [HA2.out]; exact HO.out, HBW.out⟩
  · have HA2 : Hid (AL = IL ++ [xr]) := by show _ = _; rw [HAL.out, if_neg hr]
    have hr' : (xr != 0) = true := by simpa using hr
    have N1 : Hid ((w1.alloc (.cells #[.int .u32 xr] 22)).ownsRow (w.heap.size + 1) 22 1 v IL.length (IL.map (Value.int .u32))) := own_below HO.out ((Below.refl _ w1).alloc (Nat.le_refl _) _)
    have N2 : Hid (∀ (j : Nat) (u : Value), ([.int .u32 xr] : List Value)[j]? = some u → (w1.alloc (.cells #[.int .u32 xr] 22)).cell? ((⟨w1.heap.size, 0, none⟩ : Addr).add j) = some u) := World.news_of_block (cs := #[.int .u32 xr]) (t := 22) (fr := (0, 0)) (heap_alloc_new w1 _)
    have N3 : Hid (∀ u : Value, u ∈ ([.int .u32 xr] : List Value) → u.oneCell' = true) := by intro u hu; simp at hu; subst hu; rfl
    have N6 : Hid (w.heap.size + 1 ≤ (w1.alloc (.cells #[.int .u32 xr] 22)).heap.size) := by show _ ≤ (World.alloc _ _).heap.size; rw [World.size_alloc]; omega
    have HBA1 := hide (HBW.out.alloc HBW.out.size (.cells #[.int .u32 xr] 22))
    have HOL : Hid (∀ g, v.ownBlock = some g → w.heap.size + 1 ≤ g) := fun g e => (HO.out.lt g e).1
    clear hr
    go_wp2_with (at_builtin; refine wpList_append_lies _ rfl (.tmp 9) (.tmp 12) 28 rfl (w.heap.size + 1) 22 i0 (.int .u32 0) 1 4 Try.underlying28 hi hz0 hz1 hz2 rfl (by decide) v IL.length (IL.map (Value.int .u32)) rfl N1.out ⟨w1.heap.size, 0, none⟩ 1 1 [.int .u32 xr] rfl rfl N2.out N3.out (by decide) (by unfold maxLen; omega) (by omega) N6.out _ rfl ?_)
    intro g7 cap7 w7 hown7 hgr7 hat7 hlt7
    have HO7 := hide hown7
    have HB7 : Hid (Below w.heap.size w w7) := HBA1.out.grown hgr7 HBA1.out.size (fun j hj => by have := HOL.out j hj; omega)
    clear hown7 hgr7 hat7
    go_wp2_with fail
    go_ret
    exact ⟨_, rfl, by rw [HA2.out, List.length_append, List.map_append]; exact HO7.out, HB7.out⟩

/-- The two maps of pairs. -/
structure PrM (W : World) (T K : Nat) (l : List (Int × Int)) : Prop where
  there : MapU W 22 .u32 T l.length (thF l)
  back : MapU W 22 .u32 K l.length (bkF l)
  ne : T ≠ K
theorem PrM.below {W W' : World} {T K : Nat} {l : List (Int × Int)} (h : PrM W T K l) (hb : Below W.heap.size W W') : PrM W' T K l := ⟨h.there.below hb, h.back.below hb, h.ne⟩
/-- Nothing but the two maps has turned. -/
structure KeepP (T K : Nat) (w w' : World) : Prop where
  os : w'.os = w.os
  tape : w'.tape = w.tape
  output : w'.output = w.output
  size : w.heap.size ≤ w'.heap.size
  block : ∀ i, i < w.heap.size → i ≠ T → i ≠ K → w'.heap[i]? = w.heap[i]?
theorem KeepP.trans {T K : Nat} {w w' w'' : World} (h : KeepP T K w w') (k : KeepP T K w' w'') : KeepP T K w w'' :=
  ⟨k.os.trans h.os, k.tape.trans h.tape, k.output.trans h.output, Nat.le_trans h.size k.size, fun i hi h1 h2 => (k.block i (Nat.lt_of_lt_of_le hi h.size) h1 h2).trans (h.block i hi h1 h2)⟩
theorem keepP_below {T K : Nat} {w w' : World} (h : Below w.heap.size w w') : KeepP T K w w' := ⟨h.os, h.tape, h.output, h.size, fun i hi _ _ => h.block i hi⟩
theorem KeepP.bel {T K : Nat} {w0 w w' : World} (h : Below w0.heap.size w0 w) (k : KeepP T K w w') (hT : w0.heap.size ≤ T) (hK : w0.heap.size ≤ K) : Below w0.heap.size w0 w' :=
  ⟨k.os.trans h.os, k.tape.trans h.tape, k.output.trans h.output, Nat.le_trans h.size k.size, fun i hi => (k.block i (Nat.lt_of_lt_of_le hi h.size) (by omega) (by omega)).trans (h.block i hi)⟩
theorem wf_u32 {x : Int} (h0 : 0 ≤ x) (h1 : x < 4294967296) : (Lit.int .u32 x).wf = true := by simp [Lit.wf, show IntKind.u32.min = 0 from rfl, show IntKind.u32.max = 4294967295 from rfl]; omega

set_option maxHeartbeats 8000000 in
theorem pairJoin_any (T K : Nat) (l : List (Int × Int)) (a b : Int) (w : World) (hM : PrM w T K l) (hB : Bij l) (hl : l.length < maxLen) (a0 : 0 < a) (a1 : a < 4294967296) (b0 : 0 < b) (b1 : b < 4294967296) :
    Calls Try.prog 33 #[.agg #[.map (some T), .map (some K)], .int .u32 a, .int .u32 b] w fun e w' => ∃ r : Bool, e = .returned (.bool r) ∧ (r = true ↔ Bij (l ++ [(a, b)])) ∧ (r = true → PrM w' T K (l ++ [(a, b)])) ∧ KeepP T K w w' := by
  have hba : Below w.heap.size w (w.alloc (.cells #[.map (some T), .map (some K)] 48)) := (Below.refl _ w).alloc (Nat.le_refl _) _
  have HM := hide (hM.below hba)
  have HP := hide (heap_alloc_new w (.cells #[.map (some T), .map (some K)] 48))
  have HTT := hide Try.underlying46
  have HTE := hide Try.underlying22
  have HBA := hide hba
  have HTl : Hid (T < w.heap.size ∧ K < w.heap.size) := ⟨hM.there.lt, hM.back.lt⟩
  have HNE := hide hM.ne
  have HAR : Hid (0 ≤ a ∧ a < 4294967296) := ⟨by omega, a1⟩
  have HBR : Hid (0 ≤ b ∧ b < 4294967296) := ⟨by omega, b1⟩
  have HSW : Hid ((w.alloc (.cells #[.map (some T), .map (some K)] 48)).heap.size = w.heap.size + 1) := by show _ = _; simp
  obtain ⟨pp, _⟩ := one_block HP.out
  have p0 := pp 0
  have p1 := pp 1
  have HL := hide hl
  clear hba hM pp
  by_cases hn : thF l a = none ∧ bkF l b = none
  · obtain ⟨j1, j2, j3⟩ := join_new hB hn.1 hn.2
    obtain ⟨n1, n2⟩ := hn
    have HJ := hide (And.intro j1 (And.intro j2 j3))
    clear hB j1 j2 j3
    go_enter Try.func33, Try.ntmps33
    go_wp2_with (first | (at_lookup; refine wpList_lookU_ok rfl _ _ 46 rfl 22 .u32 HTT.out HTE.out (zeroU32P _) T l.length (thF l) rfl HM.out.there a rfl HAR.out.1 HAR.out.2 ?_; rw [n1, Option.getD_none, Option.isSome_none]) | (at_lookup; refine wpList_lookU_ok rfl _ _ 46 rfl 22 .u32 HTT.out HTE.out (zeroU32P _) K l.length (bkF l) rfl HM.out.back b rfl HBR.out.1 HBR.out.2 ?_; rw [n2, Option.getD_none, Option.isSome_none]) | go_in)
    have LC : Hid (∀ w' : World, w'.heap[w.heap.size]? = some (.cells #[.map (some T), .map (some K)] 48) → w'.cell? ⟨w.heap.size, 0, none⟩ = some (.map (some T)) ∧ w'.cell? ⟨w.heap.size, 1, none⟩ = some (.map (some K))) := fun w' h => ⟨(one_block h).1 0, (one_block h).1 1⟩
    have hC0 : (w.alloc (.cells #[.map (some T), .map (some K)] 48)).drew.heap[w.heap.size]? = some (.cells #[.map (some T), .map (some K)] 48) := HP.out
    have hmix : Try.prog.follows .mixedOrders = true := by kernel_rfl
    refine (wpIn_wide (n := 0)).1 ?_
    refine wpIn_normal (wpIn_region_any hmix (wpAnyE_sound (C := fun w' : World => w'.heap[w.heap.size]? = some (.cells #[.map (some T), .map (some K)] 48)) (E := fun _ => false) _ _ _ _ ?_))
    change wpAnyE _ _ _ _ _ _ _ _ _ _ _ (World.drew _)
    refine wpAnyE_takeD (i := 0) (some 31) (v := (.pointer (some ⟨w.heap.size, 0, none⟩))) (fun _ => trivial) (by kernel_rfl) rfl rfl (by kernel_rfl) (by kernel_rfl) (by kernel_rfl) (by kernel_rfl) (fun _ _ _ h => by cases h.1) hC0 (Or.inl ⟨by rfl, fun w' hC => by obtain ⟨e1, e2⟩ := LC.out w' hC; clear hC; go_simp⟩) ?_
    simp only [Act.put, List.setIfInBounds_toArray, List.set_cons_succ, List.set_cons_zero]
    refine wpAnyE_takeD (i := 1) (some 32) (v := (.map (some T))) (fun _ => trivial) (by kernel_rfl) rfl rfl (by kernel_rfl) (by kernel_rfl) (by kernel_rfl) (by kernel_rfl) (fun _ _ _ h => by cases h.1) hC0 (Or.inl ⟨by rfl, fun w' hC => by obtain ⟨e1, e2⟩ := LC.out w' hC; clear hC; go_simp⟩) ?_
    simp only [Act.put, List.setIfInBounds_toArray, List.set_cons_succ, List.set_cons_zero]
    refine wpAnyE_takeD (i := 2) (some 33) (v := (.int .u32 a)) (fun _ => trivial) (by kernel_rfl) rfl rfl (by kernel_rfl) (by kernel_rfl) (by kernel_rfl) (by kernel_rfl) (fun _ _ _ h => by cases h.1) hC0 (Or.inl ⟨by rfl, fun w' hC => by obtain ⟨e1, e2⟩ := LC.out w' hC; clear hC; go_simp⟩) ?_
    simp only [Act.put, List.setIfInBounds_toArray, List.set_cons_succ, List.set_cons_zero]
    refine wpAnyE_takeD (i := 3) (some 34) (v := (.pointer (some ⟨w.heap.size, 1, none⟩))) (fun _ => trivial) (by kernel_rfl) rfl rfl (by kernel_rfl) (by kernel_rfl) (by kernel_rfl) (by kernel_rfl) (fun _ _ _ h => by cases h.1) hC0 (Or.inl ⟨by rfl, fun w' hC => by obtain ⟨e1, e2⟩ := LC.out w' hC; clear hC; go_simp⟩) ?_
    simp only [Act.put, List.setIfInBounds_toArray, List.set_cons_succ, List.set_cons_zero]
    refine wpAnyE_takeD (i := 4) (some 35) (v := (.map (some K))) (fun _ => trivial) (by kernel_rfl) rfl rfl (by kernel_rfl) (by kernel_rfl) (by kernel_rfl) (by kernel_rfl) (fun _ _ _ h => by cases h.1) hC0 (Or.inl ⟨by rfl, fun w' hC => by obtain ⟨e1, e2⟩ := LC.out w' hC; clear hC; go_simp⟩) ?_
    simp only [Act.put, List.setIfInBounds_toArray, List.set_cons_succ, List.set_cons_zero]
    refine wpAnyE_takeD (i := 5) (some 36) (v := (.int .u32 b)) (fun _ => trivial) (by kernel_rfl) rfl rfl (by kernel_rfl) (by kernel_rfl) (by kernel_rfl) (by kernel_rfl) (fun _ _ _ h => by cases h.1) hC0 (Or.inl ⟨by rfl, fun w' hC => by obtain ⟨e1, e2⟩ := LC.out w' hC; clear hC; go_simp⟩) ?_
    simp only [Act.put, List.setIfInBounds_toArray, List.set_cons_succ, List.set_cons_zero]
    refine wpAnyE_takeD (i := 6) (some 37) (v := (.int .u32 b)) (fun _ => trivial) (by kernel_rfl) rfl rfl (by kernel_rfl) (by kernel_rfl) (by kernel_rfl) (by kernel_rfl) (fun _ _ _ h => by cases h.1) hC0 (Or.inl ⟨by rfl, fun w' hC => by obtain ⟨e1, e2⟩ := LC.out w' hC; clear hC; go_simp⟩) ?_
    simp only [Act.put, List.setIfInBounds_toArray, List.set_cons_succ, List.set_cons_zero]
    refine wpAnyE_takeD (i := 7) (some 38) (v := (.int .u32 a)) (fun _ => trivial) (by kernel_rfl) rfl rfl (by kernel_rfl) (by kernel_rfl) (by kernel_rfl) (by kernel_rfl) (fun _ _ _ h => by cases h.1) hC0 (Or.inl ⟨by rfl, fun w' hC => by obtain ⟨e1, e2⟩ := LC.out w' hC; clear hC; go_simp⟩) ?_
    simp only [Act.put, List.setIfInBounds_toArray, List.set_cons_succ, List.set_cons_zero]
    refine wpAnyE_ready (rs := [8]) (by kernel_rfl) (by simp) ?_
    refine AllE.cons rfl (fun Kk hK => ?_) AllE.nil
    refine stepAny_putU _ (fun _ => trivial) rfl (.tmp 32) (.tmp 33) (.tmp 37) 46 rfl 22 .u32 HTT.out HTE.out T l.length (thF l) rfl (HM.out.there.block rfl) HL.out a b rfl HAR.out.1 HAR.out.2 rfl (wf_u32 HBR.out.1 HBR.out.2) ?_
    intro w5 hm5 hg5
    have hC5 : w5.heap[w.heap.size]? = some (.cells #[.map (some T), .map (some K)] 48) := (hg5.block _ (by show _ < (World.alloc _ _).heap.size; simp) (fun e => by have := HTl.out.1; simp only [Option.some.injEq] at e; omega)).trans hC0
    refine hK _ _ (.inr hC5) ?_
    clear hK Kk
    have hk5 : MapU w5 22 .u32 K l.length (bkF l) := HM.out.back.block (hg5.block _ (by have := HTl.out.2; show _ < (World.alloc _ _).heap.size; simp; omega) (fun e => HNE.out (Option.some.inj e).symm))
    refine wpAnyE_ready (rs := [9]) (by kernel_rfl) (by simp) ?_
    refine AllE.cons rfl (fun Kk hK => ?_) AllE.nil
    refine stepAny_putU _ (fun _ => trivial) rfl (.tmp 35) (.tmp 36) (.tmp 38) 46 rfl 22 .u32 HTT.out HTE.out K l.length (bkF l) rfl hk5 HL.out b a rfl HBR.out.1 HBR.out.2 rfl (wf_u32 HAR.out.1 HAR.out.2) ?_
    intro w6 hm6 hg6
    have hC6 : w6.heap[w.heap.size]? = some (.cells #[.map (some T), .map (some K)] 48) := (hg6.block _ (by have := hg5.size; have e : (w.alloc (.cells #[.map (some T), .map (some K)] 48)).drew.heap.size = w.heap.size + 1 := HSW.out; omega) (fun e => by have := HTl.out.2; simp only [Option.some.injEq] at e; omega)).trans hC5
    refine hK _ _ (.inr hC6) ?_
    clear hK Kk
    have HF : Hid (PrM w6 T K (l ++ [(a, b)]) ∧ KeepP T K w w6) := by
      have e0 : (w.alloc (.cells #[.map (some T), .map (some K)] 48)).drew.heap.size = w.heap.size + 1 := HSW.out
      have s5 := hg5.size
      have s6 := hg6.size
      refine ⟨⟨?_, ?_, HNE.out⟩, ?_⟩
      · have h1 : MapU w6 22 .u32 T (l.length + 1) _ := hm5.block (hg6.block _ (by have := HTl.out.1; omega) (fun e => HNE.out (Option.some.inj e)))
        rw [List.length_append]; exact h1.congr HJ.out.2.1
      · rw [List.length_append]; exact hm6.congr HJ.out.2.2
      · refine ⟨hg6.os.trans (hg5.os.trans HBA.out.os), hg6.tape.trans (hg5.tape.trans HBA.out.tape), hg6.output.trans (hg5.output.trans HBA.out.output), by omega, fun i hi h1 h2 => ?_⟩
        exact (hg6.block i (by omega) (fun e => h2 (Option.some.inj e))).trans ((hg5.block i (by omega) (fun e => h1 (Option.some.inj e))).trans (HBA.out.block i hi))
    clear hC0 hC5 hC6 hm5 hm6 hg5 hg6 hk5
    refine wpAnyE_done (by kernel_rfl) ⟨rfl, ?_⟩ _
    rw [then_normalP]
    go_wp2_with fail
    go_ret
    exact ⟨true, rfl, ⟨fun _ => HJ.out.1, fun _ => rfl⟩, fun _ => HF.out.1, HF.out.2⟩
  · have HJ := hide (join_old hB hn)
    have HJS : Hid (thF l a = some b → (∀ y, thF l y = thF (l ++ [(a, b)]) y) ∧ ∀ y, bkF l y = bkF (l ++ [(a, b)]) y) := join_same hB
    have HFN : Hid (PrM (w.alloc (.cells #[.map (some T), .map (some K)] 48)) T K l ∧ KeepP T K w (w.alloc (.cells #[.map (some T), .map (some K)] 48))) := ⟨HM.out, keepP_below HBA.out⟩
    have HNN : Hid (¬ ((thF l a).isSome = false ∧ (bkF l b).isSome = false)) := by intro h; exact hn ⟨by simpa using h.1, by simpa using h.2⟩
    have HRR : Hid (((bkF l b).getD 0 == a && (thF l a).getD 0 == b) = true ↔ Bij (l ++ [(a, b)])) := by
      show _ ↔ _
      rw [HJ.out]
      cases hx : bkF l b <;> cases hy : thF l a <;> simp <;> omega
    have HTB : Hid (((bkF l b).getD 0 == a && (thF l a).getD 0 == b) = true → thF l a = some b) := fun h => (HJ.out.1 (HRR.out.1 h)).2
    have HFX : Hid (((bkF l b).getD 0 == a && (thF l a).getD 0 == b) = true → PrM (w.alloc (.cells #[.map (some T), .map (some K)] 48)) T K (l ++ [(a, b)])) := fun h => by
      obtain ⟨q1, q2⟩ := HJS.out (HTB.out h)
      have e : (l ++ [(a, b)]).length = l.length + 1 := by simp
      exact ⟨by rw [e]; exact (HFN.out.1.there.congr q1).mono (by omega), by rw [e]; exact (HFN.out.1.back.congr q2).mono (by omega), HNE.out⟩
    clear hB hn HJ HJS HTB
    go_enter Try.func33, Try.ntmps33
    generalize hy : thF l a = ya at *
    generalize hz : bkF l b = zb at *
    clear a0 a1 b0 b1
    cases e3 : ya.isSome <;> cases e4 : zb.isSome
    · exact (HNN.out ⟨e3, e4⟩).elim
    · clear HNN
      generalize g1 : zb.getD 0 = zv at *
      generalize g2 : ya.getD 0 = yv at *
      by_cases e1 : zv = a
      · have e1' : (zv == a) = true := by simp [e1]
        clear e1
        by_cases e2 : yv = b
        · have e2' : (yv == b) = true := by simp [e2]
          clear e2
          go_wp2_with (first | (at_lookup; refine wpList_lookU_ok rfl _ _ 46 rfl 22 .u32 HTT.out HTE.out (zeroU32P _) T l.length (thF l) rfl HM.out.there a rfl HAR.out.1 HAR.out.2 ?_; rw [hy, e3, g2]) | (at_lookup; refine wpList_lookU_ok rfl _ _ 46 rfl 22 .u32 HTT.out HTE.out (zeroU32P _) K l.length (bkF l) rfl HM.out.back b rfl HBR.out.1 HBR.out.2 ?_; rw [hz, e4, g1]) | go_in)
          go_ret
          exact ⟨zv == a && yv == b, by first | (rw [e1', e2']; rfl) | (rw [e1']; rfl) | (simp [e1', e2']; done), HRR.out, HFX.out, HFN.out.2⟩
        · have e2' : (yv == b) = false := by simp [e2]
          clear e2
          go_wp2_with (first | (at_lookup; refine wpList_lookU_ok rfl _ _ 46 rfl 22 .u32 HTT.out HTE.out (zeroU32P _) T l.length (thF l) rfl HM.out.there a rfl HAR.out.1 HAR.out.2 ?_; rw [hy, e3, g2]) | (at_lookup; refine wpList_lookU_ok rfl _ _ 46 rfl 22 .u32 HTT.out HTE.out (zeroU32P _) K l.length (bkF l) rfl HM.out.back b rfl HBR.out.1 HBR.out.2 ?_; rw [hz, e4, g1]) | go_in)
          go_ret
          exact ⟨zv == a && yv == b, by first | (rw [e1', e2']; rfl) | (rw [e1']; rfl) | (simp [e1', e2']; done), HRR.out, HFX.out, HFN.out.2⟩
      · have e1' : (zv == a) = false := by simp [e1]
        clear e1
        by_cases e2 : yv = b
        · have e2' : (yv == b) = true := by simp [e2]
          clear e2
          go_wp2_with (first | (at_lookup; refine wpList_lookU_ok rfl _ _ 46 rfl 22 .u32 HTT.out HTE.out (zeroU32P _) T l.length (thF l) rfl HM.out.there a rfl HAR.out.1 HAR.out.2 ?_; rw [hy, e3, g2]) | (at_lookup; refine wpList_lookU_ok rfl _ _ 46 rfl 22 .u32 HTT.out HTE.out (zeroU32P _) K l.length (bkF l) rfl HM.out.back b rfl HBR.out.1 HBR.out.2 ?_; rw [hz, e4, g1]) | go_in)
          go_ret
          exact ⟨zv == a && yv == b, by first | (rw [e1', e2']; rfl) | (rw [e1']; rfl) | (simp [e1', e2']; done), HRR.out, HFX.out, HFN.out.2⟩
        · have e2' : (yv == b) = false := by simp [e2]
          clear e2
          go_wp2_with (first | (at_lookup; refine wpList_lookU_ok rfl _ _ 46 rfl 22 .u32 HTT.out HTE.out (zeroU32P _) T l.length (thF l) rfl HM.out.there a rfl HAR.out.1 HAR.out.2 ?_; rw [hy, e3, g2]) | (at_lookup; refine wpList_lookU_ok rfl _ _ 46 rfl 22 .u32 HTT.out HTE.out (zeroU32P _) K l.length (bkF l) rfl HM.out.back b rfl HBR.out.1 HBR.out.2 ?_; rw [hz, e4, g1]) | go_in)
          go_ret
          exact ⟨zv == a && yv == b, by first | (rw [e1', e2']; rfl) | (rw [e1']; rfl) | (simp [e1', e2']; done), HRR.out, HFX.out, HFN.out.2⟩
    · clear HNN
      generalize g1 : zb.getD 0 = zv at *
      generalize g2 : ya.getD 0 = yv at *
      by_cases e1 : zv = a
      · have e1' : (zv == a) = true := by simp [e1]
        clear e1
        by_cases e2 : yv = b
        · have e2' : (yv == b) = true := by simp [e2]
          clear e2
          go_wp2_with (first | (at_lookup; refine wpList_lookU_ok rfl _ _ 46 rfl 22 .u32 HTT.out HTE.out (zeroU32P _) T l.length (thF l) rfl HM.out.there a rfl HAR.out.1 HAR.out.2 ?_; rw [hy, e3, g2]) | (at_lookup; refine wpList_lookU_ok rfl _ _ 46 rfl 22 .u32 HTT.out HTE.out (zeroU32P _) K l.length (bkF l) rfl HM.out.back b rfl HBR.out.1 HBR.out.2 ?_; rw [hz, e4, g1]) | go_in)
          go_ret
          exact ⟨zv == a && yv == b, by first | (rw [e1', e2']; rfl) | (rw [e1']; rfl) | (simp [e1', e2']; done), HRR.out, HFX.out, HFN.out.2⟩
        · have e2' : (yv == b) = false := by simp [e2]
          clear e2
          go_wp2_with (first | (at_lookup; refine wpList_lookU_ok rfl _ _ 46 rfl 22 .u32 HTT.out HTE.out (zeroU32P _) T l.length (thF l) rfl HM.out.there a rfl HAR.out.1 HAR.out.2 ?_; rw [hy, e3, g2]) | (at_lookup; refine wpList_lookU_ok rfl _ _ 46 rfl 22 .u32 HTT.out HTE.out (zeroU32P _) K l.length (bkF l) rfl HM.out.back b rfl HBR.out.1 HBR.out.2 ?_; rw [hz, e4, g1]) | go_in)
          go_ret
          exact ⟨zv == a && yv == b, by first | (rw [e1', e2']; rfl) | (rw [e1']; rfl) | (simp [e1', e2']; done), HRR.out, HFX.out, HFN.out.2⟩
      · have e1' : (zv == a) = false := by simp [e1]
        clear e1
        by_cases e2 : yv = b
        · have e2' : (yv == b) = true := by simp [e2]
          clear e2
          go_wp2_with (first | (at_lookup; refine wpList_lookU_ok rfl _ _ 46 rfl 22 .u32 HTT.out HTE.out (zeroU32P _) T l.length (thF l) rfl HM.out.there a rfl HAR.out.1 HAR.out.2 ?_; rw [hy, e3, g2]) | (at_lookup; refine wpList_lookU_ok rfl _ _ 46 rfl 22 .u32 HTT.out HTE.out (zeroU32P _) K l.length (bkF l) rfl HM.out.back b rfl HBR.out.1 HBR.out.2 ?_; rw [hz, e4, g1]) | go_in)
          go_ret
          exact ⟨zv == a && yv == b, by first | (rw [e1', e2']; rfl) | (rw [e1']; rfl) | (simp [e1', e2']; done), HRR.out, HFX.out, HFN.out.2⟩
        · have e2' : (yv == b) = false := by simp [e2]
          clear e2
          go_wp2_with (first | (at_lookup; refine wpList_lookU_ok rfl _ _ 46 rfl 22 .u32 HTT.out HTE.out (zeroU32P _) T l.length (thF l) rfl HM.out.there a rfl HAR.out.1 HAR.out.2 ?_; rw [hy, e3, g2]) | (at_lookup; refine wpList_lookU_ok rfl _ _ 46 rfl 22 .u32 HTT.out HTE.out (zeroU32P _) K l.length (bkF l) rfl HM.out.back b rfl HBR.out.1 HBR.out.2 ?_; rw [hz, e4, g1]) | go_in)
          go_ret
          exact ⟨zv == a && yv == b, by first | (rw [e1', e2']; rfl) | (rw [e1']; rfl) | (simp [e1', e2']; done), HRR.out, HFX.out, HFN.out.2⟩
    · clear HNN
      generalize g1 : zb.getD 0 = zv at *
      generalize g2 : ya.getD 0 = yv at *
      by_cases e1 : zv = a
      · have e1' : (zv == a) = true := by simp [e1]
        clear e1
        by_cases e2 : yv = b
        · have e2' : (yv == b) = true := by simp [e2]
          clear e2
          go_wp2_with (first | (at_lookup; refine wpList_lookU_ok rfl _ _ 46 rfl 22 .u32 HTT.out HTE.out (zeroU32P _) T l.length (thF l) rfl HM.out.there a rfl HAR.out.1 HAR.out.2 ?_; rw [hy, e3, g2]) | (at_lookup; refine wpList_lookU_ok rfl _ _ 46 rfl 22 .u32 HTT.out HTE.out (zeroU32P _) K l.length (bkF l) rfl HM.out.back b rfl HBR.out.1 HBR.out.2 ?_; rw [hz, e4, g1]) | go_in)
          go_ret
          exact ⟨zv == a && yv == b, by first | (rw [e1', e2']; rfl) | (rw [e1']; rfl) | (simp [e1', e2']; done), HRR.out, HFX.out, HFN.out.2⟩
        · have e2' : (yv == b) = false := by simp [e2]
          clear e2
          go_wp2_with (first | (at_lookup; refine wpList_lookU_ok rfl _ _ 46 rfl 22 .u32 HTT.out HTE.out (zeroU32P _) T l.length (thF l) rfl HM.out.there a rfl HAR.out.1 HAR.out.2 ?_; rw [hy, e3, g2]) | (at_lookup; refine wpList_lookU_ok rfl _ _ 46 rfl 22 .u32 HTT.out HTE.out (zeroU32P _) K l.length (bkF l) rfl HM.out.back b rfl HBR.out.1 HBR.out.2 ?_; rw [hz, e4, g1]) | go_in)
          go_ret
          exact ⟨zv == a && yv == b, by first | (rw [e1', e2']; rfl) | (rw [e1']; rfl) | (simp [e1', e2']; done), HRR.out, HFX.out, HFN.out.2⟩
      · have e1' : (zv == a) = false := by simp [e1]
        clear e1
        by_cases e2 : yv = b
        · have e2' : (yv == b) = true := by simp [e2]
          clear e2
          go_wp2_with (first | (at_lookup; refine wpList_lookU_ok rfl _ _ 46 rfl 22 .u32 HTT.out HTE.out (zeroU32P _) T l.length (thF l) rfl HM.out.there a rfl HAR.out.1 HAR.out.2 ?_; rw [hy, e3, g2]) | (at_lookup; refine wpList_lookU_ok rfl _ _ 46 rfl 22 .u32 HTT.out HTE.out (zeroU32P _) K l.length (bkF l) rfl HM.out.back b rfl HBR.out.1 HBR.out.2 ?_; rw [hz, e4, g1]) | go_in)
          go_ret
          exact ⟨zv == a && yv == b, by first | (rw [e1', e2']; rfl) | (rw [e1']; rfl) | (simp [e1', e2']; done), HRR.out, HFX.out, HFN.out.2⟩
        · have e2' : (yv == b) = false := by simp [e2]
          clear e2
          go_wp2_with (first | (at_lookup; refine wpList_lookU_ok rfl _ _ 46 rfl 22 .u32 HTT.out HTE.out (zeroU32P _) T l.length (thF l) rfl HM.out.there a rfl HAR.out.1 HAR.out.2 ?_; rw [hy, e3, g2]) | (at_lookup; refine wpList_lookU_ok rfl _ _ 46 rfl 22 .u32 HTT.out HTE.out (zeroU32P _) K l.length (bkF l) rfl HM.out.back b rfl HBR.out.1 HBR.out.2 ?_; rw [hz, e4, g1]) | go_in)
          go_ret
          exact ⟨zv == a && yv == b, by first | (rw [e1', e2']; rfl) | (rw [e1']; rfl) | (simp [e1', e2']; done), HRR.out, HFX.out, HFN.out.2⟩

end Go.Proofs.Ytjckgnpbjekhbaa

/-
  Plain facts on who makes an id and who names it.
-/
namespace Go.Proofs.Ytjckgnpbjekhbaa
open Go.RowKit
set_option linter.unusedVariables false

end Go.Proofs.Ytjckgnpbjekhbaa

/-
  Contains of the package slices, of words: whether a word is among them.
-/
namespace Go.Proofs.Ytjckgnpbjekhbaa
open Go.RowKit
set_option linter.unusedVariables false
set_option linter.unusedSimpArgs false
set_option maxRecDepth 10000

end Go.Proofs.Ytjckgnpbjekhbaa

/-
  What Letter of the document's answer returns, for every operation and number.
-/
namespace Go.Proofs.Ytjckgnpbjekhbaa
open Go.RowKit
set_option maxRecDepth 10000
set_option linter.unusedVariables false
set_option linter.unusedSimpArgs false

theorem ofV_look (n : Int) : ∃ m, ofV n = formV m (lookF refT n).1 := by
  unfold ofV
  cases h : (lookF refT n).2
  · rw [(lookF_false h).1]; exact ⟨0, rfl⟩
  · exact ⟨n, rfl⟩

theorem letterI_none (i : Int) : letterI noFrm i = 0 := by
  unfold letterI
  split
  · rfl
  · split
    · rename_i h1 h2
      have : (noFrm.2.2.2.1.size : Int) = 0 := rfl
      omega
    · have : mayB noFrm (i - noFrm.2.2.2.1.size) = false := rfl
      rw [this]; rfl

set_option maxRecDepth 10000 in
set_option maxHeartbeats 2000000 in
theorem refLetter_any (n i : Int) (w : World) (h1 : i < 9223372036854775808) :
    Calls Try.prog 50 #[.int .u16 n, .int .i64 i] w fun e w' => e = .returned (.int .u8 (letterI (lookF refT n).1 i)) ∧ Below w.heap.size w w' := by
  have hR := fun w => refOf_any n w
  obtain ⟨m, hm⟩ := ofV_look n
  rw [hm] at hR
  clear hm
  have hs := look_short n
  have HN : Hid ((lookF refT n).2 = false → (lookF refT n).1 = noFrm) := fun h => by rw [(lookF_false h).1]
  generalize (lookF refT n).1 = f at *
  generalize (lookF refT n).2 = is at *
  have HL : Hid (∃ x, x = letterI f i) := ⟨_, rfl⟩
  have hs2 := hs
  simp only [shortF, Bool.and_eq_true, decide_eq_true_eq] at hs
  obtain ⟨⟨⟨s1, s2⟩, s3⟩, s4⟩ := hs
  obtain ⟨nm, t, r, fx, rs, mo, pa⟩ := f
  simp only at s1 s2 s3 s4
  clear hs2 HL
  cases is
  · have HE : Hid (letterI (nm, t, r, fx, rs, mo, pa) i = 0) := by show _ = _; rw [HN.out rfl]; exact letterI_none i
    clear HN
    unfold formV at hR
    go_enter Try.func50, Try.ntmps50
    go_wp2_with fail
    refine (hR _).mono ?_
    rintro e w1 ⟨rfl, hb⟩
    clear hR
    go_wp2
    go_ret
    exact ⟨by rw [HE.out]; rfl, hb.alloc hb.size _⟩
  · clear HN
    by_cases hi : i < 0
    · have HE : Hid (letterI (nm, t, r, fx, rs, mo, pa) i = 0) := by show _ = _; unfold letterI; rw [if_pos hi]
      unfold formV at hR
      go_enter Try.func50, Try.ntmps50
      go_wp2_with fail
      refine (hR _).mono ?_
      rintro e w1 ⟨rfl, hb⟩
      clear hR
      go_wp2
      go_ret
      exact ⟨by rw [HE.out]; rfl, hb.alloc hb.size _⟩
    · have hid : decide (i < 0) = false := by simpa using hi
      obtain ⟨k, rfl⟩ := Int.eq_ofNat_of_zero_le (show 0 ≤ i by omega)
      by_cases hx : (k : Int) < fx.size
      · have HE : Hid (letterI (nm, t, r, fx, rs, mo, pa) k = sgn fx k) := by show _ = _; unfold letterI; rw [if_neg hi, if_pos hx, Int.toNat_natCast]
        have hk : k < fx.size := by omega
        have hsg := sgn_at fx k hk
        unfold formV at hR
        go_enter Try.func50, Try.ntmps50
        go_wp2_with fail
        refine (hR _).mono ?_
        rintro e w1 ⟨rfl, hb⟩
        clear hR
        go_wp2
        go_ret
        exact ⟨by rw [HE.out]; rfl, hb.alloc hb.size _⟩
      · by_cases hr : rs.size = 0
        · have HE : Hid (letterI (nm, t, r, fx, rs, mo, pa) k = 0) := by show _ = _; unfold letterI; rw [if_neg hi, if_neg hx]; simp [mayB, hr]
          have hrz : (((rs.size : Nat) : Int) == 0) = true := by simp [hr]
          have hxd : ¬ k < fx.size := by omega
          clear hr hx hi h1 s3 s4 s1 s2
          unfold formV at hR
          go_enter Try.func50, Try.ntmps50
          go_wp2_with fail
          refine (hR _).mono ?_
          rintro e w1 ⟨rfl, hb⟩
          clear hR
          go_wp2
          go_ret
          exact ⟨by rw [HE.out]; rfl, hb.alloc hb.size _⟩
        · have hrz : (((rs.size : Nat) : Int) == 0) = false := by simp [hr]
          have hr0 : (0 : Int) < (rs.size : Int) := by omega
          have hz : ¬ (rs.size : Int) = 0 := by omega
          obtain ⟨b, hb⟩ : ∃ b : Nat, (k : Int) - (fx.size : Int) = b := ⟨k - fx.size, by omega⟩
          have hw1 : IntKind.i64.wrap ((k : Int) - (fx.size : Int)) = b := by rw [hb]; exact wrapI _ (by omega) (by omega)
          have hbl : (b : Int) < 9223372036854775808 := by omega
          have ht : Int.tdiv (b : Int) (rs.size : Int) = (b : Int) / (rs.size : Int) := Int.tdiv_eq_ediv_of_nonneg (by omega)
          have hq0 : 0 ≤ (b : Int) / (rs.size : Int) := Int.ediv_nonneg (by omega) (by omega)
          have hq1 : (b : Int) / (rs.size : Int) ≤ b := Int.ediv_le_self _ (by omega)
          have hw : IntKind.i64.wrap ((b : Int) / (rs.size : Int)) = (b : Int) / (rs.size : Int) := wrapI _ (by omega) (by omega)
          have HM : Hid (mayB (nm, t, r, fx, rs, mo, pa) b = if mo = 0 then true else decide ((b : Int) / (rs.size : Int) < mo)) := by show _ = _; simp [mayB, hr]
          have tm : Int.tmod (b : Int) (rs.size : Int) = (b : Int) % (rs.size : Int) := Int.tmod_eq_emod_of_nonneg (by omega)
          have m0 : 0 ≤ (b : Int) % (rs.size : Int) := Int.emod_nonneg _ hz
          have m1 : (b : Int) % (rs.size : Int) < (rs.size : Int) := Int.emod_lt_of_pos _ hr0
          have hw2 : IntKind.i64.wrap ((b : Int) % (rs.size : Int)) = (b : Int) % (rs.size : Int) := wrapI _ (by omega) (by omega)
          have HE : Hid (letterI (nm, t, r, fx, rs, mo, pa) k = if mayB (nm, t, r, fx, rs, mo, pa) b then sgn rs ((b : Int) % (rs.size : Int)).toNat else 0) := by show _ = _; unfold letterI; rw [if_neg hi, if_neg hx]; simp only [hb]
          by_cases hc : mo > 0 ∧ (b : Int) / (rs.size : Int) ≥ mo
          · have HF : Hid (letterI (nm, t, r, fx, rs, mo, pa) k = 0) := by show _ = _; rw [HE.out, HM.out, if_neg (show ¬ mo = 0 by omega), decide_eq_false (by omega)]; rfl
            clear HE HM tm m0 m1 hw2 hb
            have hxd : ¬ k < fx.size := by omega
            obtain ⟨hc1, hc2⟩ := hc
            clear hx hi hr h1 hbl s1 s2 hq1
            have g1 : decide (mo > 0) = true := by simpa using hc1
            have g2 : decide (mo ≤ (b : Int) / (rs.size : Int)) = true := by simpa using hc2
            unfold formV at hR
            go_enter Try.func50, Try.ntmps50
            go_wp2_with fail
            refine (hR _).mono ?_
            rintro e w1 ⟨rfl, hb⟩
            clear hR
            go_wp2
            go_quiet (fail)
            go_wp2
            go_ret
            exact ⟨by rw [HF.out]; rfl, bel_drewN (hb.alloc hb.size _) _⟩
          · have hmb : mayB (nm, t, r, fx, rs, mo, pa) b = true := by
              rw [HM.out]
              split
              · rfl
              · exact decide_eq_true (by omega)
            obtain ⟨j, hj⟩ := Int.eq_ofNat_of_zero_le m0
            have HF : Hid (letterI (nm, t, r, fx, rs, mo, pa) k = sgn rs j) := by show _ = _; rw [HE.out, hmb, if_pos rfl, hj]; rfl
            rw [hj] at tm hw2
            have hjl : j < rs.size := by omega
            have hsg := sgn_at rs j hjl
            have hxd : ¬ k < fx.size := by omega
            clear HE HM hmb hb hj m0 m1
            by_cases g1 : mo > 0
            · have g2 : decide (mo ≤ (b : Int) / (rs.size : Int)) = false := decide_eq_false (by omega)
              have g1' : decide (mo > 0) = true := decide_eq_true g1
              clear hx hi hr h1 hbl s1 s2 hq1 hc g1
              unfold formV at hR
              go_enter Try.func50, Try.ntmps50
              go_wp2_with fail
              refine (hR _).mono ?_
              rintro e w1 ⟨rfl, hb⟩
              clear hR
              go_wp2
              go_quiet (fail)
              go_wp2
              go_quiet (fail)
              go_wp2
              go_ret
              exact ⟨by rw [HF.out]; rfl, bel_drewN (bel_drewN (hb.alloc hb.size _) _) _⟩
            · have g1' : decide (mo > 0) = false := decide_eq_false g1
              clear hx hi hr h1 hbl s1 s2 hq1 hc g1 s3 s4
              unfold formV at hR
              go_enter Try.func50, Try.ntmps50
              go_wp2_with fail
              refine (hR _).mono ?_
              rintro e w1 ⟨rfl, hb⟩
              clear hR
              go_wp2
              go_quiet (fail)
              go_wp2
              go_quiet (fail)
              go_wp2
              go_ret
              exact ⟨by rw [HF.out]; rfl, bel_drewN (bel_drewN (hb.alloc hb.size _) _) _⟩

end Go.Proofs.Ytjckgnpbjekhbaa

/-
  What Wrong of the document's answer returns: what is wrong with an argument that stands where a letter is.
-/
namespace Go.Proofs.Ytjckgnpbjekhbaa
open Go.RowKit
set_option linter.unusedVariables false
set_option linter.unusedSimpArgs false
set_option maxRecDepth 10000

theorem wrongA_eq (c : Int) (x : ArgT) (b : Int) : wrongA c x b = if mayStandB c x = false then 42 else if x.1 = 1 ∧ noneB x.2.1 b = true then 43 else if x.1 = 4 ∧ enumB c x.2.1 = false then 31 else if nulS x.2.2 then 13 else 0 := by
  unfold wrongA
  by_cases hm : mayStandB c x = false
  · simp [hm]
  · have hk : kindI c = x.1 := by simp [mayStandB] at hm; exact hm.2.1.symm
    unfold faultW
    rw [hk, if_neg hm, if_neg hm]
    by_cases h3 : x.1 = 3
    · simp [h3]
    · have hs : x.2.2 = ByteArray.empty := by simp [mayStandB, h3] at hm; exact hm.2.2
      have hn : nulS x.2.2 = false := by rw [hs]; rfl
      by_cases h1 : x.1 = 1
      · cases hb : noneB x.2.1 b <;> simp [h1, hn]
      · by_cases h4 : x.1 = 4
        · cases hb : enumB c x.2.1 <;> simp [h4, hn]
        · simp [h1, h3, h4, hn]

theorem nul_first {s : ByteArray} {k : Nat} (hk : k < s.size) (h : (s[k].toNat : Int) = 0) : nulS s = true := by
  cases e : nulS s with
  | true => rfl
  | false => exact absurd (by rw [nth_strI s k hk]; exact h) ((nulS_false.1 e) k hk)
theorem nul_not {s : ByteArray} (h : ∀ j, (hj : j < s.size) → (s[j].toNat : Int) ≠ 0) : nulS s = false := nulS_false.2 fun k hk => by rw [nth_strI s k hk]; exact h k hk

set_option maxHeartbeats 4000000 in
theorem refWrong4_any (c : Int) (x : ArgT) (b : Int) (w : World) (hok : ArgOk x) (b0 : 0 ≤ b) (b1 : b < 4294967296) :
    Calls Try.prog 49 #[.int .u8 c, argV x, .int .u32 b] w fun e w' => e = .returned (.int .i64 (wrongA c x b)) ∧ Below w.heap.size w w' := by
  obtain ⟨R, hR⟩ : ∃ R, R = wrongA c x b := ⟨_, rfl⟩
  rw [← hR]
  rw [wrongA_eq] at hR
  obtain ⟨x1, x2, x3⟩ := x
  simp only at hR
  have HR := hide hR
  clear hR
  obtain ⟨g0, g1, g2, g3, g4⟩ := hok
  simp only at g0 g1 g2 g3 g4
  have hNo := fun wx => none_any x2 b wx g2 g3 b0 b1
  have hEn := fun wx => refEnum_any c x2 wx
  unfold argV
  simp only
  have hba : Below w.heap.size w (w.alloc (.cells #[.int .u8 x1, .int .u32 x2, .string x3] 55)) := (Below.refl _ w).alloc (Nat.le_refl _) _
  have kB : (w.alloc (.cells #[.int .u8 x1, .int .u32 x2, .string x3] 55)).heap[w.heap.size]? = some (.cells #[.int .u8 x1, .int .u32 x2, .string x3] 55 (0, 0)) := alloc_new w _ _
  have hsz : w.heap.size < (w.alloc (.cells #[.int .u8 x1, .int .u32 x2, .string x3] 55)).heap.size := by simp
  have hKd := fun wx => refKind_any c wx
  go_enter Try.func49, Try.ntmps49
  go_wp2_with fail
  generalize w.alloc (.cells #[.int .u8 x1, .int .u32 x2, .string x3] 55) = W at *
  have a0 := fun s : InC (Below W.heap.size W) => s.cell (p := ⟨w.heap.size, 0, none⟩) hsz ((one_block kB).1 0)
  have hK := fun s : InC (Below W.heap.size W) => Calls.inC s (hKd s.w)
  have hne : Nonempty (InC (Below W.heap.size W)) := ⟨⟨W, Below.refl _ _⟩⟩
  have hbl := below_drew W
  clear hKd g0 g1 g2 g3 b0 b1
  by_cases h0 : c = 0
  · subst h0
    refine wp_region_class (C := Below W.heap.size W) (by kernel_rfl) (by kernel_rfl) hbl ?_
    repeat (go_big_quiet_step (fail))
    refine wpQuiet_nil ?_
    rintro _ ⟨s, rfl⟩
    have hfin := hba.trans (s.ok.mono (by omega))
    clear hne hK a0 hNo hEn
    go_wp2
    go_ret
    exact ⟨by rw [HR.out, if_pos (by simp [mayStandB])]; rfl, hfin⟩
  · have h0' : (c == 0) = false := by simpa using h0
    by_cases hk : x1 = kindI c
    · have hk' : (x1 != kindI c) = false := by simp [hk]
      refine wp_region_class (C := Below W.heap.size W) (by kernel_rfl) (by kernel_rfl) hbl ?_
      repeat (go_big_quiet_step ((go_at_call 63; exact hK _)))
      refine wpQuiet_nil ?_
      rintro _ ⟨s, rfl⟩
      have hb1 := hba.trans (s.ok.mono (by omega))
      have kB1 := (s.ok.block _ hsz).trans kB
      have hs1 : w.heap.size < s.w.heap.size := Nat.lt_of_lt_of_le hsz s.ok.size
      clear hne hK a0 hba kB hsz hbl
      generalize s.w = W1 at *
      have c0 := (one_block kB1).1 0
      have c1 := (one_block kB1).1 1
      have c2 := (one_block kB1).1 2
      have HM := hide (show mayStandB c (x1, x2, x3) = (if x1 = 3 then x2 == 0 else x3.size == 0) by simp [mayStandB, h0, hk])
      have hemp := empty_size x3
      clear hk hk' h0 h0' kB1
      by_cases h3 : x1 = 3
      · subst h3
        by_cases h2 : x2 = 0
        · subst h2
          go_wp2_with fail
          refine (hEn _).mono ?_
          rintro e w2 ⟨rfl, hb2⟩
          have k0 := hb2.cell (p := ⟨w.heap.size, 0, none⟩) hs1
          rw [c0] at k0
          have k2 := hb2.cell (p := ⟨w.heap.size, 2, none⟩) hs1
          rw [c2] at k2
          have hb := hb1.trans (hb2.mono (by omega))
          clear c0 c1 c2 hb2 hb1 hNo hEn
          go_wp2
          go_loop [9] (fun i => ∃ k : Nat, k ≤ x3.size ∧ i = .int .i64 k ∧ Hid (∀ j, (hj : j < x3.size) → j < k → (x3[j].toNat : Int) ≠ 0)) (fun i => x3.size - (intOf i).toNat)
          case atStart => exact ⟨0, Nat.zero_le _, rfl, fun j hj h => by omega⟩
          case round =>
            obtain ⟨k, hkk, rfl, HJ⟩ := hrel
            by_cases hlt : k < x3.size
            · have hki : (k : Int) < (x3.size : Int) := by omega
              have hk0 : (0 : Int) ≤ (k : Int) := by omega
              by_cases hn : (x3[k].toNat : Int) = 0
              · have hn' : ((x3[k].toNat : Int) == 0) = true := by simpa using hn
                go_wp2
                go_ret
                exact ⟨by rw [HR.out, HM.out]; simp [nul_first hlt hn], hb⟩
              · have hn' : ((x3[k].toNat : Int) == 0) = false := by simpa using hn
                go_wp2
                go_round
                case rel => exact ⟨k + 1, by omega, by go_num, fun j hj h => if e : j = k then (by subst e; exact hn) else HJ.out j hj (by omega)⟩
                case measure => simp [intOf]; omega
            · obtain rfl : k = x3.size := by omega
              go_wp2
              go_ret
              exact ⟨by rw [HR.out, HM.out]; simp [nul_not fun j hj => HJ.out j hj hj], hb⟩
        · have h2' : (x2 != 0) = true := by simp [h2]
          go_wp2
          go_ret
          exact ⟨by rw [HR.out, HM.out]; simp [h2], hb1⟩
      · have h3' : (x1 == 3) = false := by simpa using h3
        have h3n : (x1 != 3) = true := by simp [h3]
        by_cases hz : x3.size = 0
        · obtain rfl := size_zero hz
          have hm : mayStandB c (x1, x2, ⟨#[]⟩) = true := by rw [HM.out, if_neg h3]; rfl
          by_cases h1 : x1 = 1
          · subst h1
            cases hnb : noneB x2 b
            · rw [hnb] at hNo
              go_wp2_with (go_at_call 64; refine (hNo _).mono ?_; rintro e w' ⟨rfl, rfl⟩)
              refine (hEn _).mono ?_
              rintro e w2 ⟨rfl, hb2⟩
              have k0 := hb2.cell (p := ⟨w.heap.size, 0, none⟩) hs1
              rw [c0] at k0
              have k2 := hb2.cell (p := ⟨w.heap.size, 2, none⟩) hs1
              rw [c2] at k2
              have hb := hb1.trans (hb2.mono (by omega))
              clear c0 c1 c2 hb2 hb1 hNo hEn
              go_wp2
              go_loop [9] (fun i => i = .int .i64 0) (fun i => 0)
              case atStart => rfl
              case round =>
                subst hrel
                go_wp2
                go_ret
                exact ⟨by rw [HR.out]; simp [hm, hnb, nulS_empty], hb⟩
            · rw [hnb] at hNo
              go_wp2_with (go_at_call 64; refine (hNo _).mono ?_; rintro e w' ⟨rfl, rfl⟩)
              go_ret
              exact ⟨by rw [HR.out]; simp [hm, hnb], hb1⟩
          · have h1' : (x1 == 1) = false := by simpa using h1
            by_cases h4 : x1 = 4
            · subst h4
              cases heb : enumB c x2
              · rw [heb] at hEn
                go_wp2_with fail
                refine (hEn _).mono ?_
                rintro e w2 ⟨rfl, hb2⟩
                have kk := hb2.cell (p := ⟨w.heap.size, 0, none⟩) hs1
                rw [c0] at kk
                have hb := hb1.trans (hb2.mono (by omega))
                clear c0 c1 c2 hb2
                go_wp2
                go_ret
                exact ⟨by rw [HR.out]; simp [hm, heb], hb⟩
              · rw [heb] at hEn
                go_wp2_with fail
                refine (hEn _).mono ?_
                rintro e w2 ⟨rfl, hb2⟩
                have k0 := hb2.cell (p := ⟨w.heap.size, 0, none⟩) hs1
                rw [c0] at k0
                have k2 := hb2.cell (p := ⟨w.heap.size, 2, none⟩) hs1
                rw [c2] at k2
                have hb := hb1.trans (hb2.mono (by omega))
                clear c0 c1 c2 hb2 hb1 hNo hEn
                go_wp2
                go_loop [9] (fun i => i = .int .i64 0) (fun i => 0)
                case atStart => rfl
                case round =>
                  subst hrel
                  go_wp2
                  go_ret
                  exact ⟨by rw [HR.out]; simp [hm, heb, nulS_empty], hb⟩
            · have h4' : (x1 == 4) = false := by simpa using h4
              go_wp2_with fail
              refine (hEn _).mono ?_
              rintro e w2 ⟨rfl, hb2⟩
              have k0 := hb2.cell (p := ⟨w.heap.size, 0, none⟩) hs1
              rw [c0] at k0
              have k2 := hb2.cell (p := ⟨w.heap.size, 2, none⟩) hs1
              rw [c2] at k2
              have hb := hb1.trans (hb2.mono (by omega))
              clear c0 c1 c2 hb2 hb1 hNo hEn
              go_wp2
              go_loop [9] (fun i => i = .int .i64 0) (fun i => 0)
              case atStart => rfl
              case round =>
                subst hrel
                go_wp2
                go_ret
                exact ⟨by rw [HR.out]; simp [hm, h1, h4, nulS_empty], hb⟩
        · have hz' : (x3.size == 0) = false := by simpa using hz
          go_wp2
          go_ret
          exact ⟨by rw [HR.out, HM.out]; simp [h3, hz], hb1⟩
    · have hk' : (x1 != kindI c) = true := by simp [hk]
      refine wp_region_class (C := Below W.heap.size W) (by kernel_rfl) (by kernel_rfl) hbl ?_
      repeat (go_big_quiet_step ((go_at_call 63; exact hK _)))
      refine wpQuiet_nil ?_
      rintro _ ⟨s, rfl⟩
      have hfin := hba.trans (s.ok.mono (by omega))
      clear hne hK a0 hNo hEn
      go_wp2
      go_ret
      exact ⟨by rw [HR.out, if_pos (by simp [mayStandB, hk])]; rfl, hfin⟩

end Go.Proofs.Ytjckgnpbjekhbaa

/-
  What Split of the document's answer returns, for every list of bytes: its error, and its words in new memory; nothing that was there has turned.
-/
namespace Go.Proofs.Ytjckgnpbjekhbaa
open Go.RowKit
set_option maxRecDepth 10000

theorem RefSplit.info : (Try.prog.info? 22).map (fun i => (i.zero, i.size, i.bytes)) = some (some (.int .u32 0), 1, 4) := by kernel_rfl

end Go.Proofs.Ytjckgnpbjekhbaa

/-
  What OfText of the document's answer returns, for every string: its error, or its words in new memory; nothing that was there has turned.
-/
namespace Go.Proofs.Ytjckgnpbjekhbaa
open Go.RowKit
set_option maxRecDepth 10000

theorem RefOfText.info : (Try.prog.info? 5).map (fun i => (i.zero, i.size, i.bytes)) = some (some (.int .u8 0), 1, 1) := by kernel_rfl

theorem refRoom_any (s : ByteArray) (w : World) (hs : s.size ≤ 140737488351232) :
    Calls Try.prog 53 #[.string s] w fun e w' => e = .returned (.int .i64 ((s.size / 4 + 1 : Nat) : Int)) ∧ w = w' := by
  go_enter Try.func53, Try.ntmps53
  go_wp2
  go_ret
  exact ⟨ret_int (by omega), rfl⟩

end Go.Proofs.Ytjckgnpbjekhbaa

/-
  What Room of the document's answer returns: how many words an instruction has, its first one among them.
-/
namespace Go.Proofs.Ytjckgnpbjekhbaa
open Go.RowKit
set_option linter.unusedVariables false
set_option linter.unusedSimpArgs false
set_option maxRecDepth 10000

theorem words_le (l : List ArgT) (k : Nat) : (wordsL (l.take k)).length ≤ (wordsL l).length := by
  have h : wordsL l = wordsL (l.take k) ++ wordsL (l.drop k) := by
    unfold wordsL; rw [← List.flatMap_append, List.take_append_drop]
  rw [h]; simp

set_option maxHeartbeats 2000000 in
theorem refRoom4_any (x : InstT) (o : Int) (f : Frm) (ax : Option Addr) (n cx : Nat) (w : World) (hv : ArgsV w ax x.2.2.2) (hok : InstOk x) (hl : x.2.2.2.length = n) (hB : (wordsL x.2.2.2).length ≤ 4611686018427387904) :
    Calls Try.prog 40 #[instV x ax n cx, formV o f] w fun e w' => e = .returned (.int .i64 ((1 + (rawL f x).length : Nat) : Int)) ∧ Below w.heap.size w w' := by
  obtain ⟨xo, xt, xr, xl⟩ := x
  obtain ⟨nm, t, r, fx, rs, mo, pa⟩ := f
  obtain ⟨_, _, _, _, _, _, hok, hn24⟩ := hok
  simp only at hv hl hB hok hn24
  rw [hl] at hn24
  unfold instV formV
  simp only
  have HLE : Hid (∀ k, (wordsL (xl.take k)).length ≤ (wordsL xl).length) := words_le xl
  have HB : Hid (((wordsL xl).length : Int) ≤ 4611686018427387904) := by show _ ≤ _; omega
  have HL : Hid (xl.length = n) := hl
  have HOK : Hid (ArgsOk xl) := hok
  have HT : Hid (∀ k, k < n → (wordsL (xl.take (k + 1))).length = (wordsL (xl.take k)).length + (if (nthA xl k).1 = 3 then (nthA xl k).2.2.size / 4 + 1 else 1)) := fun k hk => by
    rw [wordsL_take xl k (by omega), List.length_append, wordsA_len]
  have HR : Hid (((1 + (rawL (nm, t, r, fx, rs, mo, pa) (xo, xt, xr, xl)).length : Nat) : Int) = ((1 + (headW (nm, t, r, fx, rs, mo, pa) xt xr).length : Nat) : Int) + ((wordsL (xl.take n)).length : Int)) := by
    show _ = _
    unfold rawL; rw [List.take_of_length_le (by omega)]; simp; omega
  have hbel : Below w.heap.size w ((w.alloc (.cells #[.int .u16 xo, .int .u32 xt, .int .u32 xr, .slice ax n cx] 38)).alloc (.cells #[.int .u16 o, .string nm, .bool t, .bool r, .string fx, .string rs, .int .i64 mo, .int .u8 pa] 81)) := ((Below.refl _ w).alloc (Nat.le_refl _) _).alloc (by simp) _
  have hv1 := hv.below hbel
  have kI : ((w.alloc (.cells #[.int .u16 xo, .int .u32 xt, .int .u32 xr, .slice ax n cx] 38)).alloc (.cells #[.int .u16 o, .string nm, .bool t, .bool r, .string fx, .string rs, .int .i64 mo, .int .u8 pa] 81)).heap[w.heap.size]? = some (.cells #[.int .u16 xo, .int .u32 xt, .int .u32 xr, .slice ax n cx] 38 (0, 0)) := (Below.heap_alloc _ _ _ (by simp)).trans (alloc_new w _ _)
  have kF : ((w.alloc (.cells #[.int .u16 xo, .int .u32 xt, .int .u32 xr, .slice ax n cx] 38)).alloc (.cells #[.int .u16 o, .string nm, .bool t, .bool r, .string fx, .string rs, .int .i64 mo, .int .u8 pa] 81)).heap[w.heap.size + 1]? = some (.cells #[.int .u16 o, .string nm, .bool t, .bool r, .string fx, .string rs, .int .i64 mo, .int .u8 pa] 81 (0, 0)) := by simpa using alloc_new (w.alloc (.cells #[.int .u16 xo, .int .u32 xt, .int .u32 xr, .slice ax n cx] 38)) #[.int .u16 o, .string nm, .bool t, .bool r, .string fx, .string rs, .int .i64 mo, .int .u8 pa] 81
  have c3 := (one_block kI).1 3
  have d2 := (one_block kF).1 2
  have d3 := (one_block kF).1 3
  have HBEL := hide hbel
  have HV := hide hv1
  clear hv hl hB hok hbel kI kF hv1
  obtain ⟨h0, hh0⟩ : ∃ h0 : Int, Hid (h0 = ((1 + (headW (nm, t, r, fx, rs, mo, pa) xt xr).length : Nat) : Int)) := ⟨_, rfl⟩
  have hlo : 0 ≤ h0 := by rw [hh0.out]; omega
  have hhi : h0 ≤ 3 := by rw [hh0.out]; unfold headW; cases t <;> cases r <;> simp
  rcases t with _ | _ <;> rcases r with _ | _ <;> (
    go_enter Try.func40, Try.ntmps40
    go_wp2
    generalize (w.alloc (.cells #[.int .u16 xo, .int .u32 xt, .int .u32 xr, .slice ax n cx] 38)).alloc (.cells #[.int .u16 o, .string nm, .bool _, .bool _, .string fx, .string rs, .int .i64 mo, .int .u8 pa] 81) = W at *
    go_loop [5, 6] (fun u i => ∃ k : Nat, k ≤ n ∧ i = .int .i64 k ∧ u = .int .i64 (h0 + ((wordsL (xl.take k)).length : Int))) (fun _ i => n - (intOf i).toNat)
    case atStart => exact ⟨0, Nat.zero_le _, rfl, by rw [hh0.out]; simp [headW, wordsL]⟩
    case round =>
      obtain ⟨k, hk, rfl, rfl⟩ := hrel
      by_cases hlt : k < n
      · obtain ⟨b1, o1, rfl, hb1, p1, p2, p3⟩ := HV.out k (by rw [HL.out]; exact hlt)
        have hki : (k : Int) < (n : Int) := by omega
        have hk0 : (0 : Int) ≤ (k : Int) := by omega
        have hT := HT.out k hlt
        have hle := HLE.out (k + 1)
        have hbb := HB.out
        obtain ⟨_, _, _, _, hsz⟩ := HOK.out k (by rw [HL.out]; exact hlt)
        have HS : Hid _ := hT
        clear hT
        generalize nthA xl k = z at *
        obtain ⟨z1, z2, z3⟩ := z
        simp only at *
        by_cases h3 : z1 = 3
        · subst h3
          have hRm := fun wx => refRoom_any z3 wx hsz
          go_wp2_with (go_at_call 53; refine (hRm _).mono ?_; rintro e w' ⟨rfl, rfl⟩)
          go_round
          case rel => exact ⟨k + 1, by omega, by go_num, by have hS := HS.out; simp only [if_true] at hS; refine congrArg (Value.int .i64) ?_; first | omega | (unfold wrap64; omega)⟩
          case measure => simp [intOf]; omega
        · have h3' : (z1 == 3) = false := by simpa using h3
          go_wp2
          go_round
          case rel => exact ⟨k + 1, by omega, by go_num, by have hS := HS.out; rw [if_neg h3] at hS; refine congrArg (Value.int .i64) ?_; first | omega | (unfold wrap64; omega)⟩
          case measure => simp [intOf]; omega
      · obtain rfl : k = n := by omega
        go_wp2
        go_ret
        exact ⟨by have hR := HR.out; have h9 := hh0.out; refine congrArg (fun z => Ending.returned (.int .i64 z)) ?_; omega, HBEL.out⟩)

end Go.Proofs.Ytjckgnpbjekhbaa
