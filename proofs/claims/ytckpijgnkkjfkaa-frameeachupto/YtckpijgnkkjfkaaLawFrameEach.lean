/-
  The law FrameEach answers true, for every list of at most 1048576 words and every number of rounds.
-/
import Derived.RangeFuncNested
import Derived.RangeFuncBound
import Derived.RangeFuncCalls
import Derived.RangeFuncLeaves
import Derived.Shelf.Abstract
import Derived.Shelf.RegionOpen
import Derived.WalkKit
import Derived.OwnWalkIn
import Derived.TacticsInMore
import Derived.LoopNIn
import Derived.LoopIn
import Derived.WalkSpells
import Derived.Test.YtckpijgnkkjfkaaDraw
import Derived.Test.YtckpijgnkkjfkaaLaw02Awake
import Derived.Test.YtckpijgnkkjfkaaFrameRead
import Derived.Test.YtckpijgnkkjfkaaFrameWrite
import Derived.Test.YtckpijgnkkjfkaaFrameEach
import Derived.Test.YtckpijgnkkjfkaaFrameFind
import Derived.Test.YtckpijgnkkjfkaaKitCopyWords
namespace Go.Proofs.Ytckpijgnkkjfkaa
open Go.RowKit Go.Shelf
attribute [local go_sem] Oper.semAt_some

/-- Between two rounds: how many there were. -/
def EachI (zs : List Int) (w3 : World) (pre : List Told) (W : World) : Prop :=
  (Below w3.heap.size w3 W ∧ w3.heap.size + 1 ≤ W.heap.size) ∧ W.heap[w3.heap.size]? = some (.cells #[.int .i64 pre.length] 3 (0, 0)) ∧ pre.map (·.1) <+: rest zs 5
/-- Behind the round that left. -/
def EachX (w3 : World) (stop : Int) (c : Code) (pre : List Told) (W : World) : Prop :=
  c = .exit 0 ∧ (Below w3.heap.size w3 W ∧ w3.heap.size + 1 ≤ W.heap.size) ∧ W.heap[w3.heap.size]? = some (.cells #[.int .i64 pre.length] 3 (0, 0)) ∧ (pre.length : Int) = stop
theorem eachI_own (zs : List Int) (w3 : World) : OwnFrom (w3.heap.size + 1) (EachI zs w3) := by
  rintro pre W W' row ⟨h1, h2, h3⟩ hg hr
  exact ⟨⟨below_stay h1.1 (Nat.le_refl _) (by omega) hg hr, Nat.le_trans h1.2 hg.size⟩, cells_stay h2 hg hr, h3⟩
theorem eachX_own (w3 : World) (stop : Int) (c : Code) : OwnFrom (w3.heap.size + 1) (EachX w3 stop c) := by
  rintro pre W W' row ⟨h0, h1, h2, h3⟩ hg hr
  exact ⟨h0, ⟨below_stay h1.1 (Nat.le_refl _) (by omega) hg hr, Nat.le_trans h1.2 hg.size⟩, cells_stay h2 hg hr, h3⟩
theorem told_stay {zs : List Int} {lo : Nat} {pre : List Told} {x : Told} {W W' : World} {row : Option Nat} {B : Nat} (h : ToldOk zs lo pre x W) (hg : W.grownBy W' row) (hr : ∀ r, row = some r → B ≤ r ∧ ∃ o : Obj, W.heap[r]? = some o ∧ o.isCells = false) : ToldOk zs lo pre x W' :=
  ⟨h.1, own_apartly h.2 hg (fun g e => .inr (hr g e).2)⟩
theorem told_below {zs : List Int} {lo : Nat} {pre : List Told} {x : Told} {W W' : World} (h : ToldOk zs lo pre x W) (hb : Below W.heap.size W W') : ToldOk zs lo pre x W' := ⟨h.1, own_below h.2 hb⟩

theorem two_set {w : World} {g T : Nat} {a b : Value} (h : w.heap[g]? = some (.cells #[a, b] T (0, 0))) (u0 u1 : Value) : ((w.setCell ⟨g, 0, none⟩ u0).setCell ⟨g, 1, none⟩ u1).heap[g]? = some (.cells #[u0, u1] T (0, 0)) := by
  simp only [World.setCell, Array.getElem?_modify, h]; simp

/-- The place that is told next. -/
theorem told_next {zs : List Int} {lo : Nat} {pre : List Told} {x : Told} {W : World} (h : ToldOk zs lo pre x W) : pre.length < (rest zs 5).length ∧ (rest zs 5).getD pre.length 0 = x.1 := by
  obtain ⟨s, hs⟩ := h.1
  have hl : (pre.map (·.1)).length = pre.length := by simp
  rw [← hs, List.append_assoc]
  constructor
  · simp
  · rw [List.getD_eq_getElem?_getD, List.getElem?_append_right (by omega), hl]; simp

set_option maxRecDepth 100000 in
set_option maxHeartbeats 8000000 in
theorem frameEach_true (w : World) (a : Option Addr) (n cap : Nat) (zs : List Int) (hl : zs.length = n) (hv : View .u32 w a zs) (hw : Within 4294967296 zs) (hr : 4 * n ≤ 140737488351232) (stop : Int) (_ : (Lit.int .i64 stop).wf = true) (hu : n ≤ 1048576) :
    Calls Try.prog 5 #[.slice a n cap, .int .i64 stop] w fun e w' => e = .returned (.bool true) ∧ Below w.heap.size w w' := by
  have HL : Hid (zs.length = n) := hl
  have HV : Hid (View .u32 w a zs) := hv
  have HW : Hid (Within 4294967296 zs) := hw
  have HP : Hid (∀ wx, Below w.heap.size w wx → _) := fun wx (hb : Below w.heap.size w wx) => refPlaces_any a n cap zs wx (hv.below hb) hl hw hu
  have HC : Hid (∀ wx, Below w.heap.size w wx → _) := fun wx (hb : Below w.heap.size w wx) => copyWords_any a n cap zs wx (hv.below hb) hl hr
  have HE : Hid (∀ x wx, View .u32 wx (some x) zs → _) := fun x wx (h : View .u32 wx (some x) zs) => each_any x n n zs wx h hl hr
  have HA : Hid (∀ wx, _) := fun wx => awake_true readC writeC wx
  have hmix : Try.prog.follows .mixedOrders = true := by kernel_rfl
  have hnf : ∀ (w : World) (B : Nat), (binOp .eql 47 (.func (.func 40) #[] #[.pointer (some ⟨B, 0, none⟩)]) .nilFunc).run Try.prog w = .ok (.bool false) w := fun w B => by kernel_rfl
  have hrl := rest_len zs 5
  rw [hl] at hrl
  clear hv hl hw
  refine (callsIn_wide (n := 0)).1 ?_
  refine callsIn_of_wp_marks Try.func5 rfl trivial ?_ rfl
  simp only [Try.ntmps5, List.size_toArray, List.length_cons, List.length_nil, Nat.reduceAdd, Nat.reduceSub, Array.replicate_succ, Array.replicate_zero, List.push_toArray, List.append_toArray, List.nil_append, List.cons_append]
  gi_wp2_with fail
  obtain ⟨w1, hw1⟩ : ∃ X, X = ((w.alloc (.cells #[.slice a n cap] 22)).alloc (.cells #[.int .i64 stop] 3)).alloc (.cells #[.bool false] 4) := ⟨_, rfl⟩
  have hb1 : Below w.heap.size w w1 := by rw [hw1]; exact (((Below.refl _ w).alloc (Nat.le_refl _) _).alloc (by simp) _).alloc (by simp; omega) _
  have s1 : w.heap.size + 3 ≤ w1.heap.size := by rw [hw1]; simp
  have k0 : w1.heap[w.heap.size]? = some (.cells #[.slice a n cap] 22 (0, 0)) := by rw [hw1]; exact (Below.heap_alloc _ _ _ (by simp; omega)).trans ((Below.heap_alloc _ _ _ (by simp)).trans (heap_alloc_new w _))
  have k1 : w1.heap[w.heap.size + 1]? = some (.cells #[.int .i64 stop] 3 (0, 0)) := by rw [hw1]; exact (Below.heap_alloc _ _ _ (by simp)).trans (by simpa using heap_alloc_new (w.alloc (.cells #[.slice a n cap] 22)) (.cells #[.int .i64 stop] 3))
  have k2 : w1.heap[w.heap.size + 2]? = some (.cells #[.bool false] 4 (0, 0)) := by rw [hw1]; simpa using heap_alloc_new ((w.alloc (.cells #[.slice a n cap] 22)).alloc (.cells #[.int .i64 stop] 3)) (.cells #[.bool false] 4)
  rw [← hw1]
  clear hw1
  refine ⟨trivial, rfl, (callsIn_wide.2 (HP.out w1 hb1)).mono ?_⟩
  rintro e w2 ⟨ap, cp, m, rfl, hm, hown2, hb12⟩
  have s2 := hb12.size
  have hvp := View.ofOwn hown2 (by rw [natI_len]; exact hm)
  have k02 := (hb12.block _ (by omega)).trans k0
  obtain ⟨c02, _⟩ := one_cell k02
  have l02 : w.heap.size < w2.heap.size := by omega
  clear hown2
  gi_wp2_with fail
  obtain ⟨w3, hw3⟩ : ∃ X, X = w2.alloc (.cells #[.slice ap m cp] 44) := ⟨_, rfl⟩
  have hb23 : Below w2.heap.size w2 w3 := by rw [hw3]; exact (Below.refl _ w2).alloc (Nat.le_refl _) _
  have kp3 : w3.heap[w2.heap.size]? = some (.cells #[.slice ap m cp] 44 (0, 0)) := by rw [hw3]; exact heap_alloc_new w2 _
  have s3 : w2.heap.size < w3.heap.size := (Array.getElem?_eq_some_iff.1 kp3).1
  rw [← hw3]
  clear hw3
  have hbw3 : Below w.heap.size w w3 := (hb1.trans (hb12.mono (by omega))).trans (hb23.mono (by omega))
  refine ⟨trivial, rfl, (callsIn_wide.2 (HC.out w3 hbw3)).mono ?_⟩
  rintro e w4 ⟨rfl, hown4, hb34⟩
  have s4 := hb34.size
  have hv4 := View.ofRow hown4 HL.out
  clear hown4
  gi_wp2_with fail
  refine ⟨trivial, rfl, (callsIn_wide.2 (HE.out _ w4 hv4)).mono ?_⟩
  rintro e w5 ⟨B, g, cx, rfl, kB, hvg, hcx, hb45, hB45⟩
  have s5 := hb45.size
  have hv5 := hv4.below hb45
  have hb25 : Below w2.heap.size w2 w5 := (hb23.trans (hb34.mono (by omega))).trans (hb45.mono (by omega))
  have hb15 : Below w1.heap.size w1 w5 := hb12.trans (hb25.mono (by omega))
  have hbw5 : Below w.heap.size w w5 := hb1.trans (hb15.mono (by omega))
  have k05 := (hb15.block _ (by omega)).trans k0
  have k15 := (hb15.block _ (by omega)).trans k1
  have k25 := (hb15.block _ (by omega)).trans k2
  have kp5 := ((hb34.trans (hb45.mono (by omega))).block _ s3).trans kp3
  have hvp5 := hvp.below hb25
  have lp5 : w2.heap.size < w5.heap.size := by omega
  have lw5 : w.heap.size + 3 ≤ w2.heap.size := by omega
  clear hb12 hb23 hb34 hb45 k0 k1 k2 kp3 hvp hv4 hb1 k02 c02 hb25 hb15 hbw3 hB45 l02 s1 s2 s3 s4 s5
  -- the first loop
  gi_wp2_with fail
  rename_i K1 hK1
  have REST1 : Hid (∀ (D k : Nat) (W : World), w5.heap.size + 1 ≤ D → Below w5.heap.size w5 W → w5.heap.size + 1 ≤ W.heap.size → W.heap[w5.heap.size]? = some (.cells #[.int .i64 k] 3 (0, 0)) → (k = m ∨ (k : Int) = stop) → W.heap[D]? = some (.deferred (some [])) → K1 { tmps := #[.slice a n cap, .int .i64 stop, .pointer (some ⟨w.heap.size, 0, none⟩), .pointer (some ⟨w.heap.size + 1, 0, none⟩), .pointer (some ⟨w.heap.size + 2, 0, none⟩), .pointer (some ⟨w2.heap.size, 0, none⟩), .slice (some ⟨w3.heap.size, 0, none⟩) n n, .func (.func 40) #[] #[.pointer (some ⟨B, 0, none⟩)], .pointer (some ⟨w5.heap.size, 0, none⟩), undef, undef, undef, undef, undef, .slice a n cap, .slice ap m cp, .slice a n cap, .slice (some ⟨w3.heap.size, 0, none⟩) n n, .slice (some ⟨w3.heap.size, 0, none⟩) n n, .func (.func 40) #[] #[.pointer (some ⟨B, 0, none⟩)], .func (.func 40) #[] #[.pointer (some ⟨B, 0, none⟩)], .bool false, .func (.func 40) #[] #[.pointer (some ⟨B, 0, none⟩)], undef, undef, undef, undef, undef, undef, undef, undef, undef, undef, undef, undef, undef, undef, undef, undef, undef, undef, undef, undef, undef, undef, undef, undef, undef, undef, undef, undef, undef, undef, undef, undef, undef, undef, undef, undef, undef, undef, undef, undef, undef, undef, undef, undef, undef, undef, undef, undef, undef, undef, undef, undef, undef, undef, undef, undef, undef, undef, undef, undef, undef, undef, undef, undef, undef, undef, undef, undef, undef, undef, undef, undef, undef, undef, undef, undef, undef, undef, undef, undef, undef, undef, undef, undef, undef, undef, undef, undef, undef, undef, undef, undef, undef, undef, undef, undef, undef, undef, undef, undef, undef, undef, undef, undef], defers := [{ target := .collected D, args := #[] }] } W) := by
    intro D k W hD h1 hlt h2 hk hKD
    apply hK1
    have l5 : w.heap.size + 3 ≤ w5.heap.size := by omega
    obtain ⟨c1, _⟩ := one_cell ((h1.block _ (by omega)).trans k15)
    obtain ⟨cp0, _⟩ := one_cell ((h1.block _ lp5).trans kp5)
    obtain ⟨cn, fn⟩ := one_cell h2
    have n0 := one_set h2 (.int .i64 0)
    have hb0 : Below w5.heap.size w5 (W.setCell ⟨w5.heap.size, 0, none⟩ (.int .i64 0)) := h1.setCell (by simp) _
    have hD0 : (W.setCell ⟨w5.heap.size, 0, none⟩ (.int .i64 0)).heap[D]? = some (.deferred (some [])) := (KeepsOthers.setCell _ _ _).same D _ hKD rfl
    have s0 : (W.setCell ⟨w5.heap.size, 0, none⟩ (.int .i64 0)).heap.size = W.heap.size := by simp [World.setCell]
    clear h2
    by_cases hkm : k = m
    · subst hkm
      clear hk
      gi_wp2_with fail
      rename_i K2 hK2
      have kBM := (hb0.block _ (Array.getElem?_eq_some_iff.1 kB).1).trans kB
      have hDlt := (Array.getElem?_eq_some_iff.1 hD0).1
      have hsM5 : w5.heap.size + 1 ≤ (W.setCell ⟨w5.heap.size, 0, none⟩ (.int .i64 0)).heap.size := by omega
      clear hKD h1 c1 cp0 cn fn s0
      generalize W.setCell ⟨w5.heap.size, 0, none⟩ (.int .i64 0) = wM at *
      refine wp_tells rfl (enters_of Try.func40 (by kernel_rfl) rfl) (each_tells g n cx zs w5 hvg HL.out HW.out hr hcx (fun t => t = 22 ∨ t = 70) (.inl rfl) (.inr rfl) wM B hb0 kBM) (by omega) (fun _ => rfl)
        (fun pre W2 => EachI zs w5 pre W2 ∧ W2.heap[D]? = some (.deferred (some [])) ∧ wM.heap.size ≤ W2.heap.size) (fun _ _ _ => False) ?hI (fun _ _ _ _ _ hs _ _ => hs)
        ⟨⟨⟨hb0, by omega⟩, by simpa using n0, by simp⟩, hD0, Nat.le_refl _⟩
        (fun pre x a' W2 => ∃ Bx, wM.heap.size ≤ Bx ∧ W2.heap[Bx]? = some (.cells #[.int .u16 (opI zs x.1), .slice (some ⟨x.2.1, 0, none⟩) (cntN zs x.1 - 1) x.2.2] 51 (0, 0)) ∧ ToldOk zs wM.heap.size pre x W2 ∧ a' = { tmps := #[.slice a n cap, .int .i64 stop, .pointer (some ⟨w.heap.size, 0, none⟩), .pointer (some ⟨w.heap.size + 1, 0, none⟩), .pointer (some ⟨w.heap.size + 2, 0, none⟩), .pointer (some ⟨w2.heap.size, 0, none⟩), .slice (some ⟨w3.heap.size, 0, none⟩) n n, .func (.func 40) #[] #[.pointer (some ⟨B, 0, none⟩)], .pointer (some ⟨w5.heap.size, 0, none⟩), undef, undef, undef, .int .i64 x.1, .pointer (some ⟨Bx, 0, none⟩), .slice a n cap, .slice ap k cp, .slice a n cap, .slice (some ⟨w3.heap.size, 0, none⟩) n n, .slice (some ⟨w3.heap.size, 0, none⟩) n n, .func (.func 40) #[] #[.pointer (some ⟨B, 0, none⟩)], .func (.func 40) #[] #[.pointer (some ⟨B, 0, none⟩)], .bool false, .func (.func 40) #[] #[.pointer (some ⟨B, 0, none⟩)], undef, undef, undef, undef, undef, undef, undef, undef, undef, undef, undef, undef, undef, undef, undef, undef, undef, undef, undef, undef, undef, undef, undef, undef, undef, undef, undef, undef, undef, undef, undef, undef, undef, undef, undef, undef, undef, undef, undef, undef, undef, undef, undef, undef, undef, undef, undef, undef, undef, undef, undef, undef, .int .i64 k, .slice ap k cp, .int .i64 k, .bool false, .bool false, undef, undef, undef, .bool false, .func (.func 40) #[] #[.pointer (some ⟨B, 0, none⟩)], .int .i64 x.1, .agg #[.int .u16 (opI zs x.1), .slice (some ⟨x.2.1, 0, none⟩) (cntN zs x.1 - 1) x.2.2], undef, undef, undef, undef, undef, undef, undef, undef, undef, undef, undef, undef, undef, undef, undef, undef, undef, undef, undef, undef, undef, undef, undef, undef, undef, undef, undef, undef, undef, undef, undef, undef, undef, undef, undef, undef, undef, undef, undef, undef], defers := [] })
        ?hAx ?assign ?body ?done ?stop
      case hI =>
        rintro pre W2 W3 row ⟨h1, h2, h3⟩ hg hr
        exact ⟨eachI_own zs w5 pre W2 W3 row h1 hg (fun r e => ⟨by have := (hr r e).1; omega, (hr r e).2⟩), (hg.block D (Array.getElem?_eq_some_iff.1 h2).1 (fun e => by have := (hr D e.symm).1; omega)).trans h2, Nat.le_trans h3 hg.size⟩
      case hAx =>
        rintro pre x a' s W2 W' row ⟨Bx, h1, h2, h3, h4⟩ hg hr
        exact ⟨Bx, h1, cells_stay h2 hg hr, told_stay h3 hg hr, h4⟩
      case assign =>
        rintro l pre x W2 K ⟨hI, hDD, hsM⟩ hV hK
        have hbel : ∀ o, Below W2.heap.size W2 (W2.alloc o) := fun o => (Below.refl _ W2).alloc (Nat.le_refl _) o
        have hlt2 := hI.1.2
        simp only [toldV]
        gi_wp2
        exact hK _ _ (KeepsFrom.of_below (hbel _)) (Kept.of_below (hbel _) (by omega)) ⟨OwnFrom.below (eachI_own zs w5) hI (hbel _), (Below.heap_alloc _ _ _ (Array.getElem?_eq_some_iff.1 hDD).1).trans hDD, by simp; omega⟩ ⟨W2.heap.size, hsM, heap_alloc_new W2 _, told_below hV (hbel _), rfl⟩
      case stop =>
        rintro D2 c pre W2 _ _ h _
        exact h.elim
      case body =>
        rintro l pre ⟨q, g3, cx3⟩ a' W2 hl' ⟨r, hr'⟩ ⟨⟨⟨h1, hlt2⟩, h2, h3⟩, hDD, hsM⟩ ⟨Bx, hBx, hx, hV, rfl⟩
        obtain ⟨hkm, hkq⟩ := told_next hV
        obtain ⟨_, hql, hbad⟩ := rest_mem zs 5 q (hV.1.subset (by simp))
        rw [HL.out] at hql
        rw [hm] at hkm
        dsimp only at hx hkq ⊢
        obtain ⟨bp, offp, rfl, hbsp, hcp⟩ := hvp5 pre.length (by rw [natI_len, hm]; exact hkm)
        rw [nth_natI _ _ (by rw [hm]; exact hkm), hkq] at hcp
        have cP := (h1.cell (p := ⟨bp, offp + pre.length, none⟩) hbsp).trans hcp
        obtain ⟨ba, offa, rfl, hbsa, hca⟩ := (HV.out.below hbw5) q (by rw [HL.out]; exact hql)
        have cX := (h1.cell (p := ⟨ba, offa + q, none⟩) hbsa).trans hca
        have hxb := HW.out.at (k := q) (by rw [HL.out]; exact hql)
        have HCV : Hid (IntKind.u16.wrap (nth zs q % 65536) = opI zs q) := by
          show _ = _
          rw [show IntKind.u16.wrap (nth zs q % 65536) = nth zs q % 65536 % 65536 by simp [IntKind.wrap, IntKind.bits, IntKind.signed]]
          unfold opI; omega
        obtain ⟨c0, _⟩ := one_cell ((h1.block _ (by omega)).trans k05)
        obtain ⟨cp0, _⟩ := one_cell ((h1.block _ lp5).trans kp5)
        obtain ⟨cn, fn⟩ := one_cell h2
        obtain ⟨x0, x1, _⟩ := cell_of_two hx
        have hki : (pre.length : Int) < (k : Int) := by omega
        have hk0 : (0 : Int) ≤ (pre.length : Int) := by omega
        have hkd : decide (k ≤ pre.length) = false := decide_eq_false (by omega)
        have hqi : (q : Int) < (n : Int) := by omega
        have hpl : (pre.length : Int) ≤ 1048576 := by omega
        have hq0 : (0 : Int) ≤ (q : Int) := by omega
        have HPRE : Hid (pre.map (·.1) ++ [q] <+: rest zs 5) := hV.1
        have L0 : Hid (∀ w', Below W2.heap.size W2 w' → w'.cell? ⟨w.heap.size, 0, none⟩ = some (.slice (some ⟨ba, offa, none⟩) n cap)) := fun w' h => (h.cell (p := ⟨w.heap.size, 0, none⟩) (World.block_lt_of_cell? _ _ c0)).trans c0
        have Lp : Hid (∀ w', Below W2.heap.size W2 w' → w'.cell? ⟨w2.heap.size, 0, none⟩ = some (.slice (some ⟨bp, offp, none⟩) k cp)) := fun w' h => (h.cell (p := ⟨w2.heap.size, 0, none⟩) (World.block_lt_of_cell? _ _ cp0)).trans cp0
        have Ln : Hid (∀ w', Below W2.heap.size W2 w' → w'.cell? ⟨w5.heap.size, 0, none⟩ = some (.int .i64 pre.length)) := fun w' h => (h.cell (p := ⟨w5.heap.size, 0, none⟩) (World.block_lt_of_cell? _ _ cn)).trans cn
        have LP : Hid (∀ w', Below W2.heap.size W2 w' → w'.cell? ⟨bp, offp + pre.length, none⟩ = some (.int .i64 q)) := fun w' h => (h.cell (p := ⟨bp, offp + pre.length, none⟩) (World.block_lt_of_cell? _ _ cP)).trans cP
        have LX : Hid (∀ w', Below W2.heap.size W2 w' → w'.cell? ⟨ba, offa + q, none⟩ = some (.int .u32 (nth zs q))) := fun w' h => (h.cell (p := ⟨ba, offa + q, none⟩) (World.block_lt_of_cell? _ _ cX)).trans cX
        have LO : Hid (∀ w', Below W2.heap.size W2 w' → w'.cell? ⟨Bx, 0, none⟩ = some (.int .u16 (opI zs q))) := fun w' h => (h.cell (p := ⟨Bx, 0, none⟩) (World.block_lt_of_cell? _ _ x0)).trans x0
        have HE9 : Hid (∀ (u : Int), u = ((pre.length + 1 : Nat) : Int) → KeepsFrom wM.heap.size W2 ((W2.setCell ⟨w5.heap.size, 0, none⟩ (.int .i64 u)).drew) ∧ Kept w5.heap.size (fun t => t = 22 ∨ t = 70) W2 ((W2.setCell ⟨w5.heap.size, 0, none⟩ (.int .i64 u)).drew) ∧ (EachI zs w5 (pre ++ [(q, g3, cx3)]) ((W2.setCell ⟨w5.heap.size, 0, none⟩ (.int .i64 u)).drew) ∧ ((W2.setCell ⟨w5.heap.size, 0, none⟩ (.int .i64 u)).drew).heap[D]? = some (.deferred (some [])) ∧ wM.heap.size ≤ ((W2.setCell ⟨w5.heap.size, 0, none⟩ (.int .i64 u)).drew).heap.size)) := by
          rintro u rfl
          have hko : KeepsOthers W2 ((W2.setCell ⟨w5.heap.size, 0, none⟩ (.int .i64 ((pre.length + 1 : Nat) : Int))).drew) := (KeepsOthers.setCell _ _ _).trans (KeepsOthers.drew _)
          have nE := one_set h2 (.int .i64 ((pre.length + 1 : Nat) : Int))
          have hs9 := hko.size
          exact ⟨hko.from _, ⟨((Below.refl _ W2).setCell (p := ⟨w5.heap.size, 0, none⟩) (by simp) _).drew, (KeptT.setCell h2 (by decide) 0 _).trans (KeptT.of_below (Below.refl _ _).drew)⟩, ⟨⟨(h1.setCell (by simp) _).drew, by omega⟩, by rw [List.length_append, List.length_singleton]; exact nE, by simpa using HPRE.out⟩, hko.same D _ hDD rfl, by omega⟩
        have HFN : Hid (W2.frozen? ⟨w5.heap.size, 0, none⟩ = false) := fn
        have hC0 : Below W2.heap.size W2 W2.drew := (Below.refl _ W2).drew
        clear hV hkq hbad hcp hca HP HC HE c0 cp0 x0 x1 cP cX HA hnf hvg hvp5 k05 k15 k25 kp5 kB kBM h1 h2 h3 hDD hx hv5 hbw5 n0 hb0 hD0 hK2 hrl hbsp hbsa hcx hr' HL HV HW cn fn hm hr hu
        generalize opI zs q = op at *
        generalize nth zs q = xw at *
        gi_wp2_with fail
        refine wpIn_region_any hmix (wpAnyC_sound (C := fun w' => Below W2.heap.size W2 w') _ _ _ _ ?_)
        change wpAnyC _ _ _ _ _ _ _ _ _ _ (World.drew _)
        refine wpAnyC_takeD (i := 0) (some 87) (v := .int .i64 pre.length) (fun _ => trivial) (by kernel_rfl) rfl rfl (by kernel_rfl) (by kernel_rfl) (by kernel_rfl) (fun _ _ _ h => h) hC0 (Or.inl ⟨by kernel_rfl, fun w' hC => by have e := Ln.out w' hC; clear hC; go_simp⟩) ?_
        simp only [Act.put, List.setIfInBounds_toArray, List.set_cons_succ, List.set_cons_zero]
        refine wpAnyC_takeD (i := 1) (some 88) (v := .slice (some ⟨bp, offp, none⟩) k cp) (fun _ => trivial) (by kernel_rfl) rfl rfl (by kernel_rfl) (by kernel_rfl) (by kernel_rfl) (fun _ _ _ h => h) hC0 (Or.inl ⟨by kernel_rfl, fun w' hC => by have e := Lp.out w' hC; clear hC; go_simp⟩) ?_
        simp only [Act.put, List.setIfInBounds_toArray, List.set_cons_succ, List.set_cons_zero]
        refine wpAnyC_takeD (i := 2) (some 89) (v := .int .i64 k) (fun _ => trivial) (by kernel_rfl) rfl rfl (by kernel_rfl) (by kernel_rfl) (by kernel_rfl) (fun _ _ _ h => h) hC0 (Or.inl ⟨by kernel_rfl, fun w' _ => by go_simp⟩) ?_
        simp only [Act.put, List.setIfInBounds_toArray, List.set_cons_succ, List.set_cons_zero]
        refine wpAnyC_takeD (i := 3) (some 90) (v := .bool false) (fun _ => trivial) (by kernel_rfl) rfl rfl (by kernel_rfl) (by kernel_rfl) (by kernel_rfl) (fun _ _ _ h => h) hC0 (Or.inl ⟨by kernel_rfl, fun w' _ => by go_simp⟩) ?_
        simp only [Act.put, List.setIfInBounds_toArray, List.set_cons_succ, List.set_cons_zero]
        refine wpAnyC_takeD (i := 4) (some 91) (v := .bool false) (fun _ => trivial) (by kernel_rfl) rfl rfl (by kernel_rfl) (by kernel_rfl) (by kernel_rfl) (fun _ _ _ h => h) hC0 (Or.inl ⟨by kernel_rfl, fun w' _ => by go_simp⟩) ?_
        simp only [Act.put, List.setIfInBounds_toArray, List.set_cons_succ, List.set_cons_zero]
        refine wpAnyC_takeD (i := 5) (some 92) (v := .int .i64 q) (fun _ => trivial) (by kernel_rfl) rfl rfl (by kernel_rfl) (by kernel_rfl) (by kernel_rfl) (fun _ _ _ h => h) hC0 (Or.inl ⟨by kernel_rfl, fun w' _ => by go_simp⟩) ?_
        simp only [Act.put, List.setIfInBounds_toArray, List.set_cons_succ, List.set_cons_zero]
        refine wpAnyC_takeD (i := 6) (some 93) (v := .slice (some ⟨bp, offp, none⟩) k cp) (fun _ => trivial) (by kernel_rfl) rfl rfl (by kernel_rfl) (by kernel_rfl) (by kernel_rfl) (fun _ _ _ h => h) hC0 (Or.inl ⟨by kernel_rfl, fun w' hC => by have e := Lp.out w' hC; clear hC; go_simp⟩) ?_
        simp only [Act.put, List.setIfInBounds_toArray, List.set_cons_succ, List.set_cons_zero]
        refine wpAnyC_takeD (i := 7) (some 94) (v := .int .i64 pre.length) (fun _ => trivial) (by kernel_rfl) rfl rfl (by kernel_rfl) (by kernel_rfl) (by kernel_rfl) (fun _ _ _ h => h) hC0 (Or.inl ⟨by kernel_rfl, fun w' hC => by have e := Ln.out w' hC; clear hC; go_simp⟩) ?_
        simp only [Act.put, List.setIfInBounds_toArray, List.set_cons_succ, List.set_cons_zero]
        refine wpAnyC_takeD (i := 8) (some 95) (v := .pointer (some ⟨bp, offp + pre.length, none⟩)) (fun _ => trivial) (by kernel_rfl) rfl rfl (by kernel_rfl) (by kernel_rfl) (by kernel_rfl) (fun _ _ _ h => h) hC0 (Or.inl ⟨by kernel_rfl, fun w' _ => by go_simp⟩) ?_
        simp only [Act.put, List.setIfInBounds_toArray, List.set_cons_succ, List.set_cons_zero]
        refine wpAnyC_takeD (i := 9) (some 96) (v := .int .i64 q) (fun _ => trivial) (by kernel_rfl) rfl rfl (by kernel_rfl) (by kernel_rfl) (by kernel_rfl) (fun _ _ _ h => h) hC0 (Or.inl ⟨by kernel_rfl, fun w' hC => by have e := LP.out w' hC; clear hC; go_simp⟩) ?_
        simp only [Act.put, List.setIfInBounds_toArray, List.set_cons_succ, List.set_cons_zero]
        refine wpAnyC_takeD (i := 10) (some 97) (v := .bool false) (fun _ => trivial) (by kernel_rfl) rfl rfl (by kernel_rfl) (by kernel_rfl) (by kernel_rfl) (fun _ _ _ h => h) hC0 (Or.inl ⟨by kernel_rfl, fun w' _ => by go_simp⟩) ?_
        simp only [Act.put, List.setIfInBounds_toArray, List.set_cons_succ, List.set_cons_zero]
        refine wpAnyC_takeD (i := 11) (some 98) (v := .bool false) (fun _ => trivial) (by kernel_rfl) rfl rfl (by kernel_rfl) (by kernel_rfl) (by kernel_rfl) (fun _ _ _ h => h) hC0 (Or.inl ⟨by kernel_rfl, fun w' _ => by go_simp⟩) ?_
        simp only [Act.put, List.setIfInBounds_toArray, List.set_cons_succ, List.set_cons_zero]
        refine wpAnyC_takeD (i := 12) (some 99) (v := .bool false) (fun _ => trivial) (by kernel_rfl) rfl rfl (by kernel_rfl) (by kernel_rfl) (by kernel_rfl) (fun _ _ _ h => h) hC0 (Or.inl ⟨by kernel_rfl, fun w' _ => by go_simp⟩) ?_
        simp only [Act.put, List.setIfInBounds_toArray, List.set_cons_succ, List.set_cons_zero]
        refine wpAnyC_takeD (i := 13) (some 100) (v := .pointer (some ⟨Bx, 0, none⟩)) (fun _ => trivial) (by kernel_rfl) rfl rfl (by kernel_rfl) (by kernel_rfl) (by kernel_rfl) (fun _ _ _ h => h) hC0 (Or.inl ⟨by kernel_rfl, fun w' _ => by go_simp⟩) ?_
        simp only [Act.put, List.setIfInBounds_toArray, List.set_cons_succ, List.set_cons_zero]
        refine wpAnyC_takeD (i := 14) (some 101) (v := .int .u16 op) (fun _ => trivial) (by kernel_rfl) rfl rfl (by kernel_rfl) (by kernel_rfl) (by kernel_rfl) (fun _ _ _ h => h) hC0 (Or.inl ⟨by kernel_rfl, fun w' hC => by have e := LO.out w' hC; clear hC; go_simp⟩) ?_
        simp only [Act.put, List.setIfInBounds_toArray, List.set_cons_succ, List.set_cons_zero]
        refine wpAnyC_takeD (i := 15) (some 102) (v := .slice (some ⟨ba, offa, none⟩) n cap) (fun _ => trivial) (by kernel_rfl) rfl rfl (by kernel_rfl) (by kernel_rfl) (by kernel_rfl) (fun _ _ _ h => h) hC0 (Or.inl ⟨by kernel_rfl, fun w' hC => by have e := L0.out w' hC; clear hC; go_simp⟩) ?_
        simp only [Act.put, List.setIfInBounds_toArray, List.set_cons_succ, List.set_cons_zero]
        refine wpAnyC_takeD (i := 16) (some 103) (v := .slice (some ⟨bp, offp, none⟩) k cp) (fun _ => trivial) (by kernel_rfl) rfl rfl (by kernel_rfl) (by kernel_rfl) (by kernel_rfl) (fun _ _ _ h => h) hC0 (Or.inl ⟨by kernel_rfl, fun w' hC => by have e := Lp.out w' hC; clear hC; go_simp⟩) ?_
        simp only [Act.put, List.setIfInBounds_toArray, List.set_cons_succ, List.set_cons_zero]
        refine wpAnyC_takeD (i := 17) (some 104) (v := .int .i64 pre.length) (fun _ => trivial) (by kernel_rfl) rfl rfl (by kernel_rfl) (by kernel_rfl) (by kernel_rfl) (fun _ _ _ h => h) hC0 (Or.inl ⟨by kernel_rfl, fun w' hC => by have e := Ln.out w' hC; clear hC; go_simp⟩) ?_
        simp only [Act.put, List.setIfInBounds_toArray, List.set_cons_succ, List.set_cons_zero]
        refine wpAnyC_takeD (i := 18) (some 105) (v := .pointer (some ⟨bp, offp + pre.length, none⟩)) (fun _ => trivial) (by kernel_rfl) rfl rfl (by kernel_rfl) (by kernel_rfl) (by kernel_rfl) (fun _ _ _ h => h) hC0 (Or.inl ⟨by kernel_rfl, fun w' _ => by go_simp⟩) ?_
        simp only [Act.put, List.setIfInBounds_toArray, List.set_cons_succ, List.set_cons_zero]
        refine wpAnyC_takeD (i := 19) (some 106) (v := .int .i64 q) (fun _ => trivial) (by kernel_rfl) rfl rfl (by kernel_rfl) (by kernel_rfl) (by kernel_rfl) (fun _ _ _ h => h) hC0 (Or.inl ⟨by kernel_rfl, fun w' hC => by have e := LP.out w' hC; clear hC; go_simp⟩) ?_
        simp only [Act.put, List.setIfInBounds_toArray, List.set_cons_succ, List.set_cons_zero]
        refine wpAnyC_takeD (i := 20) (some 107) (v := .pointer (some ⟨ba, offa + q, none⟩)) (fun _ => trivial) (by kernel_rfl) rfl rfl (by kernel_rfl) (by kernel_rfl) (by kernel_rfl) (fun _ _ _ h => h) hC0 (Or.inl ⟨by kernel_rfl, fun w' _ => by go_simp⟩) ?_
        simp only [Act.put, List.setIfInBounds_toArray, List.set_cons_succ, List.set_cons_zero]
        refine wpAnyC_takeD (i := 21) (some 108) (v := .int .u32 xw) (fun _ => trivial) (by kernel_rfl) rfl rfl (by kernel_rfl) (by kernel_rfl) (by kernel_rfl) (fun _ _ _ h => h) hC0 (Or.inl ⟨by kernel_rfl, fun w' hC => by have e := LX.out w' hC; clear hC; go_simp⟩) ?_
        simp only [Act.put, List.setIfInBounds_toArray, List.set_cons_succ, List.set_cons_zero]
        refine wpAnyC_takeD (i := 22) (some 109) (v := .int .u32 (xw % 65536)) (fun _ => trivial) (by kernel_rfl) rfl rfl (by kernel_rfl) (by kernel_rfl) (by kernel_rfl) (fun _ _ _ h => h) hC0 (Or.inl ⟨by kernel_rfl, fun w' _ => by go_simp; exact Int.tmod_eq_emod_of_nonneg hxb.1⟩) ?_
        simp only [Act.put, List.setIfInBounds_toArray, List.set_cons_succ, List.set_cons_zero]
        refine wpAnyC_takeD (i := 23) (some 110) (v := .int .u16 op) (fun _ => trivial) (by kernel_rfl) rfl rfl (by kernel_rfl) (by kernel_rfl) (by kernel_rfl) (fun _ _ _ h => h) hC0 (Or.inl ⟨by kernel_rfl, fun w' _ => by go_simp; exact HCV.out⟩) ?_
        simp only [Act.put, List.setIfInBounds_toArray, List.set_cons_succ, List.set_cons_zero]
        refine wpAnyC_takeD (i := 24) (some 111) (v := .bool false) (fun _ => trivial) (by kernel_rfl) rfl rfl (by kernel_rfl) (by kernel_rfl) (by kernel_rfl) (fun _ _ _ h => h) hC0 (Or.inl ⟨by kernel_rfl, fun w' _ => by go_simp⟩) ?_
        simp only [Act.put, List.setIfInBounds_toArray, List.set_cons_succ, List.set_cons_zero]
        refine wpAnyC_takeD (i := 25) (some 112) (v := .bool false) (fun _ => trivial) (by kernel_rfl) rfl rfl (by kernel_rfl) (by kernel_rfl) (by kernel_rfl) (fun _ _ _ h => h) hC0 (Or.inl ⟨by kernel_rfl, fun w' _ => by go_simp⟩) ?_
        simp only [Act.put, List.setIfInBounds_toArray, List.set_cons_succ, List.set_cons_zero]
        clear L0 Lp LP LX LO
        have cn := Ln.out W2 (Below.refl _ _)
        have fn := HFN.out
        refine wpAnyC_done (by kernel_rfl) ?_ _
        clear hkd hki hqi hq0 hxb
        gi_wp2_with fail
        exact HE9.out ((pre.length : Int) + 1) (by simp)
      case done =>
        rintro D2 xs W2 hD2 hS ⟨⟨⟨h1, hlt2⟩, h2, h3⟩, hDD, hsM⟩ hKD2
        have hkm : xs.length = k := by
          have h4 : xs.map (·.1) = rest zs 5 := hS
          rw [← hm, ← h4]; simp
        rw [hkm] at h2
        obtain ⟨c0, _⟩ := one_cell ((h1.block _ (by omega)).trans k05)
        obtain ⟨cp0, _⟩ := one_cell ((h1.block _ lp5).trans kp5)
        obtain ⟨cn, fn⟩ := one_cell h2
        have kr := (h1.block _ (by omega)).trans k25
        have hbw2 : Below w.heap.size w W2 := hbw5.trans (h1.mono hbw5.size)
        have HB2 : Hid (Below w.heap.size w W2) := hbw2
        have hWd := words_true (some ⟨w3.heap.size, 0, none⟩) a n n cap zs W2 (hv5.below h1) (HV.out.below hbw2) HL.out (by omega)
        clear h2 h3 hS
        gi_wp2_with fail
        refine ⟨trivial, rfl, (callsIn_wide.2 hWd).mono ?_⟩
        rintro e W3 ⟨rfl, qd, rfl⟩
        have hb23 : Below W2.heap.size W2 (W2.drewN qd) := bel_drewN (Below.refl _ _) qd
        clear hWd cn fn c0 cp0
        generalize W2.drewN qd = W3 at *
        gi_wp2_with fail
        refine ⟨trivial, rfl, (callsIn_wide.2 (HA.out W3)).mono ?_⟩
        rintro e W4 ⟨rfl, hb34⟩
        have hb24 : Below W2.heap.size W2 W4 := hb23.trans (hb34.mono hb23.size)
        have kr4 := (hb24.block _ (Array.getElem?_eq_some_iff.1 kr).1).trans kr
        obtain ⟨cr4, fr4⟩ := one_cell kr4
        have hD4 := (hb24.block _ (Array.getElem?_eq_some_iff.1 hDD).1).trans hDD
        have hE4 := (hb24.block _ (Array.getElem?_eq_some_iff.1 hKD2).1).trans hKD2
        have hbw4 : Below w.heap.size w W4 := HB2.out.trans (hb24.mono HB2.out.size)
        clear hb23 hb34 hb24 kr
        obtain ⟨Y, hY⟩ : ∃ Y, Y = W4.setCell ⟨w.heap.size + 2, 0, none⟩ (.bool true) := ⟨_, rfl⟩
        have hDY : Y.heap[D]? = some (.deferred (some [])) := by rw [hY]; exact (KeepsOthers.setCell _ _ _).same D _ hD4 rfl
        have hEY : Y.heap[D2]? = some (.deferred (some [])) := by rw [hY]; exact (KeepsOthers.setCell _ _ _).same D2 _ hE4 rfl
        have hrY : Y.heap[w.heap.size + 2]? = some (.cells #[.bool true] 4 (0, 0)) := by rw [hY]; exact one_set kr4 _
        have hbY : Below w.heap.size w Y := by rw [hY]; exact hbw4.setCell (by simp) _
        gi_wp2_with fail
        rw [← hY]
        clear hY cr4 fr4 kr4 hD4 hE4
        have hDY2 : (Y.putObj D2 (.deferred none)).heap[D]? = some (.deferred (some [])) := (World.putObj_heap_other (by omega)).trans hDY
        refine ⟨by simp, .inl ⟨_, _, rfl, run_takeDeferred hEY, ?_⟩⟩
        refine ⟨by simp, .inl ⟨_, _, rfl, run_takeDeferred hDY2, ?_⟩⟩
        have r0 := cell_kept (W := Y.putObj D2 (.deferred none)) (cell_kept (W := Y) (one_cell hrY).1 (grownBy_putObj' Y D2 (.deferred none)) (fun r e => by cases e; exact ⟨_, hEY, rfl⟩)) (grownBy_putObj' _ D (.deferred none)) (fun r e => by cases e; exact ⟨_, hDY2, rfl⟩)
        exact ⟨.bool true, by simp [results, Try.results5, go_sem, r0], rfl, (hbY.trans (belowK_b (w := w) (Nat.le_refl _) Y D2 _ _ (by omega) hEY rfl rfl)).trans (belowK_b (w := w) (Nat.le_refl _) _ D _ _ (by omega) hDY2 rfl rfl)⟩
    · obtain hks : (k : Int) = stop := by
        rcases hk with h | h
        · exact absurd h hkm
        · exact h
      subst hks
      have q1 : ((k : Int) == (m : Int)) = false := by simp; omega
      have q2 : (k == m) = false := by simpa using hkm
      have q3 : decide (k = m) = false := decide_eq_false hkm
      clear hk
      gi_wp2_with fail
      rename_i K2 hK2
      have kBM := (hb0.block _ (Array.getElem?_eq_some_iff.1 kB).1).trans kB
      have hDlt := (Array.getElem?_eq_some_iff.1 hD0).1
      have hsM5 : w5.heap.size + 1 ≤ (W.setCell ⟨w5.heap.size, 0, none⟩ (.int .i64 0)).heap.size := by omega
      clear hKD h1 c1 cp0 cn fn s0
      generalize W.setCell ⟨w5.heap.size, 0, none⟩ (.int .i64 0) = wM at *
      refine wp_tells rfl (enters_of Try.func40 (by kernel_rfl) rfl) (each_tells g n cx zs w5 hvg HL.out HW.out hr hcx (fun t => t = 22 ∨ t = 70) (.inl rfl) (.inr rfl) wM B hb0 kBM) (by omega) (fun _ => rfl)
        (fun pre W2 => EachI zs w5 pre W2 ∧ W2.heap[D]? = some (.deferred (some [])) ∧ wM.heap.size ≤ W2.heap.size) (fun _ _ _ => False) ?hI (fun _ _ _ _ _ hs _ _ => hs)
        ⟨⟨⟨hb0, by omega⟩, by simpa using n0, by simp⟩, hD0, Nat.le_refl _⟩
        (fun pre x a' W2 => ∃ Bx, wM.heap.size ≤ Bx ∧ W2.heap[Bx]? = some (.cells #[.int .u16 (opI zs x.1), .slice (some ⟨x.2.1, 0, none⟩) (cntN zs x.1 - 1) x.2.2] 51 (0, 0)) ∧ ToldOk zs wM.heap.size pre x W2 ∧ a' = { tmps := #[.slice a n cap, .int .i64 (k : Int), .pointer (some ⟨w.heap.size, 0, none⟩), .pointer (some ⟨w.heap.size + 1, 0, none⟩), .pointer (some ⟨w.heap.size + 2, 0, none⟩), .pointer (some ⟨w2.heap.size, 0, none⟩), .slice (some ⟨w3.heap.size, 0, none⟩) n n, .func (.func 40) #[] #[.pointer (some ⟨B, 0, none⟩)], .pointer (some ⟨w5.heap.size, 0, none⟩), undef, undef, undef, .int .i64 x.1, .pointer (some ⟨Bx, 0, none⟩), .slice a n cap, .slice ap m cp, .slice a n cap, .slice (some ⟨w3.heap.size, 0, none⟩) n n, .slice (some ⟨w3.heap.size, 0, none⟩) n n, .func (.func 40) #[] #[.pointer (some ⟨B, 0, none⟩)], .func (.func 40) #[] #[.pointer (some ⟨B, 0, none⟩)], .bool false, .func (.func 40) #[] #[.pointer (some ⟨B, 0, none⟩)], undef, undef, undef, undef, undef, undef, undef, undef, undef, undef, undef, undef, undef, undef, undef, undef, undef, undef, undef, undef, undef, undef, undef, undef, undef, undef, undef, undef, undef, undef, undef, undef, undef, undef, undef, undef, undef, undef, undef, undef, undef, undef, undef, undef, undef, undef, undef, undef, undef, undef, undef, undef, .int .i64 k, .slice ap m cp, .int .i64 m, .bool ((k : Int) != (m : Int)), .bool ((k : Int) != (m : Int)), .int .i64 k, .int .i64 k, .bool false, .bool false, .func (.func 40) #[] #[.pointer (some ⟨B, 0, none⟩)], .int .i64 x.1, .agg #[.int .u16 (opI zs x.1), .slice (some ⟨x.2.1, 0, none⟩) (cntN zs x.1 - 1) x.2.2], undef, undef, undef, undef, undef, undef, undef, undef, undef, undef, undef, undef, undef, undef, undef, undef, undef, undef, undef, undef, undef, undef, undef, undef, undef, undef, undef, undef, undef, undef, undef, undef, undef, undef, undef, undef, undef, undef, undef, undef], defers := [] })
        ?hAx ?assign ?body ?done ?stop
      case hI =>
        rintro pre W2 W3 row ⟨h1, h2, h3⟩ hg hr
        exact ⟨eachI_own zs w5 pre W2 W3 row h1 hg (fun r e => ⟨by have := (hr r e).1; omega, (hr r e).2⟩), (hg.block D (Array.getElem?_eq_some_iff.1 h2).1 (fun e => by have := (hr D e.symm).1; omega)).trans h2, Nat.le_trans h3 hg.size⟩
      case hAx =>
        rintro pre x a' s W2 W' row ⟨Bx, h1, h2, h3, h4⟩ hg hr
        exact ⟨Bx, h1, cells_stay h2 hg hr, told_stay h3 hg hr, h4⟩
      case assign =>
        rintro l pre x W2 K ⟨hI, hDD, hsM⟩ hV hK
        have hbel : ∀ o, Below W2.heap.size W2 (W2.alloc o) := fun o => (Below.refl _ W2).alloc (Nat.le_refl _) o
        have hlt2 := hI.1.2
        simp only [toldV]
        gi_wp2
        exact hK _ _ (KeepsFrom.of_below (hbel _)) (Kept.of_below (hbel _) (by omega)) ⟨OwnFrom.below (eachI_own zs w5) hI (hbel _), (Below.heap_alloc _ _ _ (Array.getElem?_eq_some_iff.1 hDD).1).trans hDD, by simp; omega⟩ ⟨W2.heap.size, hsM, heap_alloc_new W2 _, told_below hV (hbel _), rfl⟩
      case stop =>
        rintro D2 c pre W2 _ _ h _
        exact h.elim
      case body =>
        rintro l pre ⟨q, g3, cx3⟩ a' W2 hl' ⟨r, hr'⟩ ⟨⟨⟨h1, hlt2⟩, h2, h3⟩, hDD, hsM⟩ ⟨Bx, hBx, hx, hV, rfl⟩
        obtain ⟨hkm, hkq⟩ := told_next hV
        obtain ⟨_, hql, hbad⟩ := rest_mem zs 5 q (hV.1.subset (by simp))
        rw [HL.out] at hql
        rw [hm] at hkm
        dsimp only at hx hkq ⊢
        obtain ⟨bp, offp, rfl, hbsp, hcp⟩ := hvp5 pre.length (by rw [natI_len, hm]; exact hkm)
        rw [nth_natI _ _ (by rw [hm]; exact hkm), hkq] at hcp
        have cP := (h1.cell (p := ⟨bp, offp + pre.length, none⟩) hbsp).trans hcp
        obtain ⟨ba, offa, rfl, hbsa, hca⟩ := (HV.out.below hbw5) q (by rw [HL.out]; exact hql)
        have cX := (h1.cell (p := ⟨ba, offa + q, none⟩) hbsa).trans hca
        have hxb := HW.out.at (k := q) (by rw [HL.out]; exact hql)
        have HCV : Hid (IntKind.u16.wrap (nth zs q % 65536) = opI zs q) := by
          show _ = _
          rw [show IntKind.u16.wrap (nth zs q % 65536) = nth zs q % 65536 % 65536 by simp [IntKind.wrap, IntKind.bits, IntKind.signed]]
          unfold opI; omega
        obtain ⟨c0, _⟩ := one_cell ((h1.block _ (by omega)).trans k05)
        obtain ⟨cp0, _⟩ := one_cell ((h1.block _ lp5).trans kp5)
        obtain ⟨cn, fn⟩ := one_cell h2
        obtain ⟨x0, x1, _⟩ := cell_of_two hx
        have hki : (pre.length : Int) < (m : Int) := by omega
        have hk0 : (0 : Int) ≤ (pre.length : Int) := by omega
        have hkd : decide (m ≤ pre.length) = false := decide_eq_false (by omega)
        have hqi : (q : Int) < (n : Int) := by omega
        have hpl : (pre.length : Int) ≤ 1048576 := by omega
        have hq0 : (0 : Int) ≤ (q : Int) := by omega
        have HPRE : Hid (pre.map (·.1) ++ [q] <+: rest zs 5) := hV.1
        have L0 : Hid (∀ w', Below W2.heap.size W2 w' → w'.cell? ⟨w.heap.size, 0, none⟩ = some (.slice (some ⟨ba, offa, none⟩) n cap)) := fun w' h => (h.cell (p := ⟨w.heap.size, 0, none⟩) (World.block_lt_of_cell? _ _ c0)).trans c0
        have Lp : Hid (∀ w', Below W2.heap.size W2 w' → w'.cell? ⟨w2.heap.size, 0, none⟩ = some (.slice (some ⟨bp, offp, none⟩) m cp)) := fun w' h => (h.cell (p := ⟨w2.heap.size, 0, none⟩) (World.block_lt_of_cell? _ _ cp0)).trans cp0
        have Ln : Hid (∀ w', Below W2.heap.size W2 w' → w'.cell? ⟨w5.heap.size, 0, none⟩ = some (.int .i64 pre.length)) := fun w' h => (h.cell (p := ⟨w5.heap.size, 0, none⟩) (World.block_lt_of_cell? _ _ cn)).trans cn
        have LP : Hid (∀ w', Below W2.heap.size W2 w' → w'.cell? ⟨bp, offp + pre.length, none⟩ = some (.int .i64 q)) := fun w' h => (h.cell (p := ⟨bp, offp + pre.length, none⟩) (World.block_lt_of_cell? _ _ cP)).trans cP
        have LX : Hid (∀ w', Below W2.heap.size W2 w' → w'.cell? ⟨ba, offa + q, none⟩ = some (.int .u32 (nth zs q))) := fun w' h => (h.cell (p := ⟨ba, offa + q, none⟩) (World.block_lt_of_cell? _ _ cX)).trans cX
        have LO : Hid (∀ w', Below W2.heap.size W2 w' → w'.cell? ⟨Bx, 0, none⟩ = some (.int .u16 (opI zs q))) := fun w' h => (h.cell (p := ⟨Bx, 0, none⟩) (World.block_lt_of_cell? _ _ x0)).trans x0
        have HE9 : Hid (∀ (u : Int), u = ((pre.length + 1 : Nat) : Int) → KeepsFrom wM.heap.size W2 ((W2.setCell ⟨w5.heap.size, 0, none⟩ (.int .i64 u)).drew) ∧ Kept w5.heap.size (fun t => t = 22 ∨ t = 70) W2 ((W2.setCell ⟨w5.heap.size, 0, none⟩ (.int .i64 u)).drew) ∧ (EachI zs w5 (pre ++ [(q, g3, cx3)]) ((W2.setCell ⟨w5.heap.size, 0, none⟩ (.int .i64 u)).drew) ∧ ((W2.setCell ⟨w5.heap.size, 0, none⟩ (.int .i64 u)).drew).heap[D]? = some (.deferred (some [])) ∧ wM.heap.size ≤ ((W2.setCell ⟨w5.heap.size, 0, none⟩ (.int .i64 u)).drew).heap.size)) := by
          rintro u rfl
          have hko : KeepsOthers W2 ((W2.setCell ⟨w5.heap.size, 0, none⟩ (.int .i64 ((pre.length + 1 : Nat) : Int))).drew) := (KeepsOthers.setCell _ _ _).trans (KeepsOthers.drew _)
          have nE := one_set h2 (.int .i64 ((pre.length + 1 : Nat) : Int))
          have hs9 := hko.size
          exact ⟨hko.from _, ⟨((Below.refl _ W2).setCell (p := ⟨w5.heap.size, 0, none⟩) (by simp) _).drew, (KeptT.setCell h2 (by decide) 0 _).trans (KeptT.of_below (Below.refl _ _).drew)⟩, ⟨⟨(h1.setCell (by simp) _).drew, by omega⟩, by rw [List.length_append, List.length_singleton]; exact nE, by simpa using HPRE.out⟩, hko.same D _ hDD rfl, by omega⟩
        have HFN : Hid (W2.frozen? ⟨w5.heap.size, 0, none⟩ = false) := fn
        have hC0 : Below W2.heap.size W2 W2.drew := (Below.refl _ W2).drew
        clear hV hkq hbad hcp hca HP HC HE c0 cp0 x0 x1 cP cX HA hnf hvg hvp5 k05 k15 k25 kp5 kB kBM h1 h2 h3 hDD hx hv5 hbw5 n0 hb0 hD0 hK2 hrl hbsp hbsa hcx hr' HL HV HW cn fn hm hr hu
        generalize opI zs q = op at *
        generalize nth zs q = xw at *
        gi_wp2_with fail
        refine wpIn_region_any hmix (wpAnyC_sound (C := fun w' => Below W2.heap.size W2 w') _ _ _ _ ?_)
        change wpAnyC _ _ _ _ _ _ _ _ _ _ (World.drew _)
        refine wpAnyC_takeD (i := 0) (some 87) (v := .int .i64 pre.length) (fun _ => trivial) (by kernel_rfl) rfl rfl (by kernel_rfl) (by kernel_rfl) (by kernel_rfl) (fun _ _ _ h => h) hC0 (Or.inl ⟨by kernel_rfl, fun w' hC => by have e := Ln.out w' hC; clear hC; go_simp⟩) ?_
        simp only [Act.put, List.setIfInBounds_toArray, List.set_cons_succ, List.set_cons_zero]
        refine wpAnyC_takeD (i := 1) (some 88) (v := .slice (some ⟨bp, offp, none⟩) m cp) (fun _ => trivial) (by kernel_rfl) rfl rfl (by kernel_rfl) (by kernel_rfl) (by kernel_rfl) (fun _ _ _ h => h) hC0 (Or.inl ⟨by kernel_rfl, fun w' hC => by have e := Lp.out w' hC; clear hC; go_simp⟩) ?_
        simp only [Act.put, List.setIfInBounds_toArray, List.set_cons_succ, List.set_cons_zero]
        refine wpAnyC_takeD (i := 2) (some 89) (v := .int .i64 m) (fun _ => trivial) (by kernel_rfl) rfl rfl (by kernel_rfl) (by kernel_rfl) (by kernel_rfl) (fun _ _ _ h => h) hC0 (Or.inl ⟨by kernel_rfl, fun w' _ => by go_simp⟩) ?_
        simp only [Act.put, List.setIfInBounds_toArray, List.set_cons_succ, List.set_cons_zero]
        refine wpAnyC_takeD (i := 3) (some 90) (v := .bool false) (fun _ => trivial) (by kernel_rfl) rfl rfl (by kernel_rfl) (by kernel_rfl) (by kernel_rfl) (fun _ _ _ h => h) hC0 (Or.inl ⟨by kernel_rfl, fun w' _ => by go_simp⟩) ?_
        simp only [Act.put, List.setIfInBounds_toArray, List.set_cons_succ, List.set_cons_zero]
        refine wpAnyC_takeD (i := 4) (some 91) (v := .bool false) (fun _ => trivial) (by kernel_rfl) rfl rfl (by kernel_rfl) (by kernel_rfl) (by kernel_rfl) (fun _ _ _ h => h) hC0 (Or.inl ⟨by kernel_rfl, fun w' _ => by go_simp⟩) ?_
        simp only [Act.put, List.setIfInBounds_toArray, List.set_cons_succ, List.set_cons_zero]
        refine wpAnyC_takeD (i := 5) (some 92) (v := .int .i64 q) (fun _ => trivial) (by kernel_rfl) rfl rfl (by kernel_rfl) (by kernel_rfl) (by kernel_rfl) (fun _ _ _ h => h) hC0 (Or.inl ⟨by kernel_rfl, fun w' _ => by go_simp⟩) ?_
        simp only [Act.put, List.setIfInBounds_toArray, List.set_cons_succ, List.set_cons_zero]
        refine wpAnyC_takeD (i := 6) (some 93) (v := .slice (some ⟨bp, offp, none⟩) m cp) (fun _ => trivial) (by kernel_rfl) rfl rfl (by kernel_rfl) (by kernel_rfl) (by kernel_rfl) (fun _ _ _ h => h) hC0 (Or.inl ⟨by kernel_rfl, fun w' hC => by have e := Lp.out w' hC; clear hC; go_simp⟩) ?_
        simp only [Act.put, List.setIfInBounds_toArray, List.set_cons_succ, List.set_cons_zero]
        refine wpAnyC_takeD (i := 7) (some 94) (v := .int .i64 pre.length) (fun _ => trivial) (by kernel_rfl) rfl rfl (by kernel_rfl) (by kernel_rfl) (by kernel_rfl) (fun _ _ _ h => h) hC0 (Or.inl ⟨by kernel_rfl, fun w' hC => by have e := Ln.out w' hC; clear hC; go_simp⟩) ?_
        simp only [Act.put, List.setIfInBounds_toArray, List.set_cons_succ, List.set_cons_zero]
        refine wpAnyC_takeD (i := 8) (some 95) (v := .pointer (some ⟨bp, offp + pre.length, none⟩)) (fun _ => trivial) (by kernel_rfl) rfl rfl (by kernel_rfl) (by kernel_rfl) (by kernel_rfl) (fun _ _ _ h => h) hC0 (Or.inl ⟨by kernel_rfl, fun w' _ => by go_simp⟩) ?_
        simp only [Act.put, List.setIfInBounds_toArray, List.set_cons_succ, List.set_cons_zero]
        refine wpAnyC_takeD (i := 9) (some 96) (v := .int .i64 q) (fun _ => trivial) (by kernel_rfl) rfl rfl (by kernel_rfl) (by kernel_rfl) (by kernel_rfl) (fun _ _ _ h => h) hC0 (Or.inl ⟨by kernel_rfl, fun w' hC => by have e := LP.out w' hC; clear hC; go_simp⟩) ?_
        simp only [Act.put, List.setIfInBounds_toArray, List.set_cons_succ, List.set_cons_zero]
        refine wpAnyC_takeD (i := 10) (some 97) (v := .bool false) (fun _ => trivial) (by kernel_rfl) rfl rfl (by kernel_rfl) (by kernel_rfl) (by kernel_rfl) (fun _ _ _ h => h) hC0 (Or.inl ⟨by kernel_rfl, fun w' _ => by go_simp⟩) ?_
        simp only [Act.put, List.setIfInBounds_toArray, List.set_cons_succ, List.set_cons_zero]
        refine wpAnyC_takeD (i := 11) (some 98) (v := .bool false) (fun _ => trivial) (by kernel_rfl) rfl rfl (by kernel_rfl) (by kernel_rfl) (by kernel_rfl) (fun _ _ _ h => h) hC0 (Or.inl ⟨by kernel_rfl, fun w' _ => by go_simp⟩) ?_
        simp only [Act.put, List.setIfInBounds_toArray, List.set_cons_succ, List.set_cons_zero]
        refine wpAnyC_takeD (i := 12) (some 99) (v := .bool false) (fun _ => trivial) (by kernel_rfl) rfl rfl (by kernel_rfl) (by kernel_rfl) (by kernel_rfl) (fun _ _ _ h => h) hC0 (Or.inl ⟨by kernel_rfl, fun w' _ => by go_simp⟩) ?_
        simp only [Act.put, List.setIfInBounds_toArray, List.set_cons_succ, List.set_cons_zero]
        refine wpAnyC_takeD (i := 13) (some 100) (v := .pointer (some ⟨Bx, 0, none⟩)) (fun _ => trivial) (by kernel_rfl) rfl rfl (by kernel_rfl) (by kernel_rfl) (by kernel_rfl) (fun _ _ _ h => h) hC0 (Or.inl ⟨by kernel_rfl, fun w' _ => by go_simp⟩) ?_
        simp only [Act.put, List.setIfInBounds_toArray, List.set_cons_succ, List.set_cons_zero]
        refine wpAnyC_takeD (i := 14) (some 101) (v := .int .u16 op) (fun _ => trivial) (by kernel_rfl) rfl rfl (by kernel_rfl) (by kernel_rfl) (by kernel_rfl) (fun _ _ _ h => h) hC0 (Or.inl ⟨by kernel_rfl, fun w' hC => by have e := LO.out w' hC; clear hC; go_simp⟩) ?_
        simp only [Act.put, List.setIfInBounds_toArray, List.set_cons_succ, List.set_cons_zero]
        refine wpAnyC_takeD (i := 15) (some 102) (v := .slice (some ⟨ba, offa, none⟩) n cap) (fun _ => trivial) (by kernel_rfl) rfl rfl (by kernel_rfl) (by kernel_rfl) (by kernel_rfl) (fun _ _ _ h => h) hC0 (Or.inl ⟨by kernel_rfl, fun w' hC => by have e := L0.out w' hC; clear hC; go_simp⟩) ?_
        simp only [Act.put, List.setIfInBounds_toArray, List.set_cons_succ, List.set_cons_zero]
        refine wpAnyC_takeD (i := 16) (some 103) (v := .slice (some ⟨bp, offp, none⟩) m cp) (fun _ => trivial) (by kernel_rfl) rfl rfl (by kernel_rfl) (by kernel_rfl) (by kernel_rfl) (fun _ _ _ h => h) hC0 (Or.inl ⟨by kernel_rfl, fun w' hC => by have e := Lp.out w' hC; clear hC; go_simp⟩) ?_
        simp only [Act.put, List.setIfInBounds_toArray, List.set_cons_succ, List.set_cons_zero]
        refine wpAnyC_takeD (i := 17) (some 104) (v := .int .i64 pre.length) (fun _ => trivial) (by kernel_rfl) rfl rfl (by kernel_rfl) (by kernel_rfl) (by kernel_rfl) (fun _ _ _ h => h) hC0 (Or.inl ⟨by kernel_rfl, fun w' hC => by have e := Ln.out w' hC; clear hC; go_simp⟩) ?_
        simp only [Act.put, List.setIfInBounds_toArray, List.set_cons_succ, List.set_cons_zero]
        refine wpAnyC_takeD (i := 18) (some 105) (v := .pointer (some ⟨bp, offp + pre.length, none⟩)) (fun _ => trivial) (by kernel_rfl) rfl rfl (by kernel_rfl) (by kernel_rfl) (by kernel_rfl) (fun _ _ _ h => h) hC0 (Or.inl ⟨by kernel_rfl, fun w' _ => by go_simp⟩) ?_
        simp only [Act.put, List.setIfInBounds_toArray, List.set_cons_succ, List.set_cons_zero]
        refine wpAnyC_takeD (i := 19) (some 106) (v := .int .i64 q) (fun _ => trivial) (by kernel_rfl) rfl rfl (by kernel_rfl) (by kernel_rfl) (by kernel_rfl) (fun _ _ _ h => h) hC0 (Or.inl ⟨by kernel_rfl, fun w' hC => by have e := LP.out w' hC; clear hC; go_simp⟩) ?_
        simp only [Act.put, List.setIfInBounds_toArray, List.set_cons_succ, List.set_cons_zero]
        refine wpAnyC_takeD (i := 20) (some 107) (v := .pointer (some ⟨ba, offa + q, none⟩)) (fun _ => trivial) (by kernel_rfl) rfl rfl (by kernel_rfl) (by kernel_rfl) (by kernel_rfl) (fun _ _ _ h => h) hC0 (Or.inl ⟨by kernel_rfl, fun w' _ => by go_simp⟩) ?_
        simp only [Act.put, List.setIfInBounds_toArray, List.set_cons_succ, List.set_cons_zero]
        refine wpAnyC_takeD (i := 21) (some 108) (v := .int .u32 xw) (fun _ => trivial) (by kernel_rfl) rfl rfl (by kernel_rfl) (by kernel_rfl) (by kernel_rfl) (fun _ _ _ h => h) hC0 (Or.inl ⟨by kernel_rfl, fun w' hC => by have e := LX.out w' hC; clear hC; go_simp⟩) ?_
        simp only [Act.put, List.setIfInBounds_toArray, List.set_cons_succ, List.set_cons_zero]
        refine wpAnyC_takeD (i := 22) (some 109) (v := .int .u32 (xw % 65536)) (fun _ => trivial) (by kernel_rfl) rfl rfl (by kernel_rfl) (by kernel_rfl) (by kernel_rfl) (fun _ _ _ h => h) hC0 (Or.inl ⟨by kernel_rfl, fun w' _ => by go_simp; exact Int.tmod_eq_emod_of_nonneg hxb.1⟩) ?_
        simp only [Act.put, List.setIfInBounds_toArray, List.set_cons_succ, List.set_cons_zero]
        refine wpAnyC_takeD (i := 23) (some 110) (v := .int .u16 op) (fun _ => trivial) (by kernel_rfl) rfl rfl (by kernel_rfl) (by kernel_rfl) (by kernel_rfl) (fun _ _ _ h => h) hC0 (Or.inl ⟨by kernel_rfl, fun w' _ => by go_simp; exact HCV.out⟩) ?_
        simp only [Act.put, List.setIfInBounds_toArray, List.set_cons_succ, List.set_cons_zero]
        refine wpAnyC_takeD (i := 24) (some 111) (v := .bool false) (fun _ => trivial) (by kernel_rfl) rfl rfl (by kernel_rfl) (by kernel_rfl) (by kernel_rfl) (fun _ _ _ h => h) hC0 (Or.inl ⟨by kernel_rfl, fun w' _ => by go_simp⟩) ?_
        simp only [Act.put, List.setIfInBounds_toArray, List.set_cons_succ, List.set_cons_zero]
        refine wpAnyC_takeD (i := 25) (some 112) (v := .bool false) (fun _ => trivial) (by kernel_rfl) rfl rfl (by kernel_rfl) (by kernel_rfl) (by kernel_rfl) (fun _ _ _ h => h) hC0 (Or.inl ⟨by kernel_rfl, fun w' _ => by go_simp⟩) ?_
        simp only [Act.put, List.setIfInBounds_toArray, List.set_cons_succ, List.set_cons_zero]
        clear L0 Lp LP LX LO
        have cn := Ln.out W2 (Below.refl _ _)
        have fn := HFN.out
        refine wpAnyC_done (by kernel_rfl) ?_ _
        clear hkd hki hqi hq0 hxb
        gi_wp2_with fail
        exact HE9.out ((pre.length : Int) + 1) (by simp)
      case done =>
        rintro D2 xs W2 hD2 hS ⟨⟨⟨h1, hlt2⟩, h2, h3⟩, hDD, hsM⟩ hKD2
        have hkm : xs.length = m := by
          have h4 : xs.map (·.1) = rest zs 5 := hS
          rw [← hm, ← h4]; simp
        rw [hkm] at h2
        obtain ⟨c0, _⟩ := one_cell ((h1.block _ (by omega)).trans k05)
        obtain ⟨cp0, _⟩ := one_cell ((h1.block _ lp5).trans kp5)
        obtain ⟨cn, fn⟩ := one_cell h2
        have kr := (h1.block _ (by omega)).trans k25
        have hbw2 : Below w.heap.size w W2 := hbw5.trans (h1.mono hbw5.size)
        have HB2 : Hid (Below w.heap.size w W2) := hbw2
        have hWd := words_true (some ⟨w3.heap.size, 0, none⟩) a n n cap zs W2 (hv5.below h1) (HV.out.below hbw2) HL.out (by omega)
        clear h2 h3 hS
        gi_wp2_with fail
        refine ⟨trivial, rfl, (callsIn_wide.2 hWd).mono ?_⟩
        rintro e W3 ⟨rfl, qd, rfl⟩
        have hb23 : Below W2.heap.size W2 (W2.drewN qd) := bel_drewN (Below.refl _ _) qd
        clear hWd cn fn c0 cp0
        generalize W2.drewN qd = W3 at *
        gi_wp2_with fail
        refine ⟨trivial, rfl, (callsIn_wide.2 (HA.out W3)).mono ?_⟩
        rintro e W4 ⟨rfl, hb34⟩
        have hb24 : Below W2.heap.size W2 W4 := hb23.trans (hb34.mono hb23.size)
        have kr4 := (hb24.block _ (Array.getElem?_eq_some_iff.1 kr).1).trans kr
        obtain ⟨cr4, fr4⟩ := one_cell kr4
        have hD4 := (hb24.block _ (Array.getElem?_eq_some_iff.1 hDD).1).trans hDD
        have hE4 := (hb24.block _ (Array.getElem?_eq_some_iff.1 hKD2).1).trans hKD2
        have hbw4 : Below w.heap.size w W4 := HB2.out.trans (hb24.mono HB2.out.size)
        clear hb23 hb34 hb24 kr
        obtain ⟨Y, hY⟩ : ∃ Y, Y = W4.setCell ⟨w.heap.size + 2, 0, none⟩ (.bool true) := ⟨_, rfl⟩
        have hDY : Y.heap[D]? = some (.deferred (some [])) := by rw [hY]; exact (KeepsOthers.setCell _ _ _).same D _ hD4 rfl
        have hEY : Y.heap[D2]? = some (.deferred (some [])) := by rw [hY]; exact (KeepsOthers.setCell _ _ _).same D2 _ hE4 rfl
        have hrY : Y.heap[w.heap.size + 2]? = some (.cells #[.bool true] 4 (0, 0)) := by rw [hY]; exact one_set kr4 _
        have hbY : Below w.heap.size w Y := by rw [hY]; exact hbw4.setCell (by simp) _
        gi_wp2_with fail
        rw [← hY]
        clear hY cr4 fr4 kr4 hD4 hE4
        have hDY2 : (Y.putObj D2 (.deferred none)).heap[D]? = some (.deferred (some [])) := (World.putObj_heap_other (by omega)).trans hDY
        refine ⟨by simp, .inl ⟨_, _, rfl, run_takeDeferred hEY, ?_⟩⟩
        refine ⟨by simp, .inl ⟨_, _, rfl, run_takeDeferred hDY2, ?_⟩⟩
        have r0 := cell_kept (W := Y.putObj D2 (.deferred none)) (cell_kept (W := Y) (one_cell hrY).1 (grownBy_putObj' Y D2 (.deferred none)) (fun r e => by cases e; exact ⟨_, hEY, rfl⟩)) (grownBy_putObj' _ D (.deferred none)) (fun r e => by cases e; exact ⟨_, hDY2, rfl⟩)
        exact ⟨.bool true, by simp [results, Try.results5, go_sem, r0], rfl, (hbY.trans (belowK_b (w := w) (Nat.le_refl _) Y D2 _ _ (by omega) hEY rfl rfl)).trans (belowK_b (w := w) (Nat.le_refl _) _ D _ _ (by omega) hDY2 rfl rfl)⟩
  clear hK1
  obtain ⟨wL, hwL⟩ : ∃ X, X = w5.alloc (.cells #[.int .i64 0] 3) := ⟨_, rfl⟩
  have hsL : wL.heap.size = w5.heap.size + 1 := by rw [hwL]; simp
  have hb5L : Below w5.heap.size w5 wL := by rw [hwL]; exact (Below.refl _ w5).alloc (Nat.le_refl _) _
  have kn : wL.heap[w5.heap.size]? = some (.cells #[.int .i64 0] 3 (0, 0)) := by rw [hwL]; exact heap_alloc_new w5 _
  rw [← hwL]
  clear hwL
  simp only [Nat.add_assoc, Nat.reduceAdd]
  have kBL := (hb5L.block _ (Array.getElem?_eq_some_iff.1 kB).1).trans kB
  refine wp_tells rfl (enters_of Try.func40 (by kernel_rfl) rfl) (each_tells g n cx zs w5 hvg HL.out HW.out hr hcx (fun t => t = 22 ∨ t = 70) (.inl rfl) (.inr rfl) wL B hb5L kBL) (by omega) (fun _ => rfl)
    (EachI zs w5) (EachX w5 stop) (by rw [hsL]; exact eachI_own zs w5) (fun c => by rw [hsL]; exact eachX_own w5 stop c)
    ⟨⟨hb5L, by omega⟩, kn, by simp⟩
    (fun pre x a' W => ∃ Bx, w5.heap.size + 1 ≤ Bx ∧ W.heap[Bx]? = some (.cells #[.int .u16 (opI zs x.1), .slice (some ⟨x.2.1, 0, none⟩) (cntN zs x.1 - 1) x.2.2] 51 (0, 0)) ∧ ToldOk zs wL.heap.size pre x W ∧ a' = { tmps := #[.slice a n cap, .int .i64 stop, .pointer (some ⟨w.heap.size, 0, none⟩), .pointer (some ⟨w.heap.size + 1, 0, none⟩), .pointer (some ⟨w.heap.size + 2, 0, none⟩), .pointer (some ⟨w2.heap.size, 0, none⟩), .slice (some ⟨w3.heap.size, 0, none⟩) n n, .func (.func 40) #[] #[.pointer (some ⟨B, 0, none⟩)], .pointer (some ⟨w5.heap.size, 0, none⟩), .int .i64 x.1, .pointer (some ⟨Bx, 0, none⟩), undef, undef, undef, .slice a n cap, .slice ap m cp, .slice a n cap, .slice (some ⟨w3.heap.size, 0, none⟩) n n, .slice (some ⟨w3.heap.size, 0, none⟩) n n, .func (.func 40) #[] #[.pointer (some ⟨B, 0, none⟩)], .func (.func 40) #[] #[.pointer (some ⟨B, 0, none⟩)], .bool false, .func (.func 40) #[] #[.pointer (some ⟨B, 0, none⟩)], .int .i64 x.1, .agg #[.int .u16 (opI zs x.1), .slice (some ⟨x.2.1, 0, none⟩) (cntN zs x.1 - 1) x.2.2], undef, undef, undef, undef, undef, undef, undef, undef, undef, undef, undef, undef, undef, undef, undef, undef, undef, undef, undef, undef, undef, undef, undef, undef, undef, undef, undef, undef, undef, undef, undef, undef, undef, undef, undef, undef, undef, undef, undef, undef, undef, undef, undef, undef, undef, undef, undef, undef, undef, undef, undef, undef, undef, undef, undef, undef, undef, undef, undef, undef, undef, undef, undef, undef, undef, undef, undef, undef, undef, undef, undef, undef, undef, undef, undef, undef, undef, undef, undef, undef, undef, undef, undef, undef, undef, undef, undef, undef, undef, undef, undef, undef, undef, undef, undef, undef, undef, undef, undef, undef, undef, undef], defers := [] })
    ?hAx ?assign ?body ?done ?stop
  case hAx =>
    rintro pre x a' s W W' row ⟨Bx, h1, h2, h3, h4⟩ hg hr
    exact ⟨Bx, h1, cells_stay h2 hg hr, told_stay h3 hg hr, h4⟩
  case assign =>
    rintro l pre x W K hI hV hK
    have hbel : ∀ o, Below W.heap.size W (W.alloc o) := fun o => (Below.refl _ W).alloc (Nat.le_refl _) o
    have hlt := hI.1.2
    simp only [toldV]
    gi_wp2
    exact hK _ _ (KeepsFrom.of_below (hbel _)) (Kept.of_below (hbel _) (by omega)) (OwnFrom.below (eachI_own zs w5) hI (hbel _)) ⟨W.heap.size, hlt, heap_alloc_new W _, told_below hV (hbel _), rfl⟩
  case body =>
    rintro l pre ⟨q, g3, cx3⟩ a' W hl' ⟨r, hr'⟩ ⟨⟨h1, hlt⟩, h2, h3⟩ ⟨Bx, hBx, hx, hV, rfl⟩
    obtain ⟨hkm, hkq⟩ := told_next hV
    obtain ⟨_, hql, hbad⟩ := rest_mem zs 5 q (hV.1.subset (by simp))
    have hcp0 := cnt_pos hbad
    have hcf := cnt_fits hbad
    rw [HL.out] at hql hcf
    rw [hm] at hkm
    dsimp only at hx hkq ⊢
    obtain ⟨bp, offp, rfl, hbsp, hcp⟩ := hvp5 pre.length (by rw [natI_len, hm]; exact hkm)
    rw [nth_natI _ _ (by rw [hm]; exact hkm), hkq] at hcp
    have cP := (h1.cell (p := ⟨bp, offp + pre.length, none⟩) hbsp).trans hcp
    obtain ⟨c0, _⟩ := one_cell ((h1.block _ (by omega)).trans k05)
    obtain ⟨c1, _⟩ := one_cell ((h1.block _ (by omega)).trans k15)
    obtain ⟨cp0, _⟩ := one_cell ((h1.block _ lp5).trans kp5)
    obtain ⟨cn, fn⟩ := one_cell h2
    obtain ⟨x0, x1, _⟩ := cell_of_two hx
    have hvW := HV.out.below (hbw5.trans (h1.mono hbw5.size))
    have hki : (pre.length : Int) < (m : Int) := by omega
    have hk0 : (0 : Int) ≤ (pre.length : Int) := by omega
    have hkd : decide (m ≤ pre.length) = false := decide_eq_false (by omega)
    have hown0 : W.ownsRow wL.heap.size 23 1 (.slice (some ⟨g3, 0, none⟩) (cntN zs q - 1) cx3) (cntN zs q - 1) ((midL zs (q + 1) (cntN zs q - 1)).map (Value.int .u32)) := hV.2
    have HPRE : Hid (pre.map (·.1) ++ [q] <+: rest zs 5) := hV.1
    have hg3 : w5.heap.size + 1 ≤ g3 := by have := (hown0.lt g3 rfl).1; omega
    have HVW : Hid (View .u32 W a zs) := hvW
    have hrest := trivial
    clear hrest
    have L0 : ∀ w', Below W.heap.size W w' → w'.cell? ⟨w.heap.size, 0, none⟩ = some (.slice a n cap) := fun w' h => (h.cell (p := ⟨w.heap.size, 0, none⟩) (World.block_lt_of_cell? _ _ c0)).trans c0
    have Lp : ∀ w', Below W.heap.size W w' → w'.cell? ⟨w2.heap.size, 0, none⟩ = some (.slice (some ⟨bp, offp, none⟩) m cp) := fun w' h => (h.cell (p := ⟨w2.heap.size, 0, none⟩) (World.block_lt_of_cell? _ _ cp0)).trans cp0
    have Ln : ∀ w', Below W.heap.size W w' → w'.cell? ⟨w5.heap.size, 0, none⟩ = some (.int .i64 pre.length) := fun w' h => (h.cell (p := ⟨w5.heap.size, 0, none⟩) (World.block_lt_of_cell? _ _ cn)).trans cn
    have LP : ∀ w', Below W.heap.size W w' → w'.cell? ⟨bp, offp + pre.length, none⟩ = some (.int .i64 q) := fun w' h => (h.cell (p := ⟨bp, offp + pre.length, none⟩) (World.block_lt_of_cell? _ _ cP)).trans cP
    have HCNT : Hid (∀ w', Below W.heap.size W w' → _) := fun w' (h : Below W.heap.size W w') => refCount_any a n cap zs w' q (hvW.below h) HL.out HW.out hql
    have HAT : Hid (∀ w', Below W.heap.size W w' → Calls Try.prog 24 #[.slice a n cap, .int .i64 q, .int .i64 ((q : Int) + (cntN zs q : Int))] w' fun e w'' => ∃ ax cx, e = .returned (.agg #[.int .u16 (opI zs q), .slice ax (cntN zs q - 1) cx]) ∧ w''.ownsRow w'.heap.size 23 1 (.slice ax (cntN zs q - 1) cx) (cntN zs q - 1) ((midL zs (q + 1) (cntN zs q - 1)).map (Value.int .u32)) ∧ Below w'.heap.size w' w'') := fun w' h => by
      have h0 := refAt_any a n cap zs w' q (q + cntN zs q) (hvW.below h) HL.out HW.out hr (by omega) hcf
      rw [show q + cntN zs q - q - 1 = cntN zs q - 1 by omega, Int.natCast_add] at h0
      exact h0
    have HML : Hid ((midL zs (q + 1) (cntN zs q - 1)).length = cntN zs q - 1) := midL_len zs (q + 1) _ (by rw [HL.out]; omega)
    clear hV hkq hbad hvW
    generalize hc' : cntN zs q = c at *
    generalize hms' : midL zs (q + 1) (c - 1) = ms at *
    generalize hop' : opI zs q = op at *
    gi_wp2_with fail
    rename_i KO hKO
    have HREST : Hid (∀ (Wz : World) (B6 c1 : Nat) (a1 : Option Addr), Below W.heap.size W Wz → Wz.heap[B6]? = some (.cells #[.int .u16 op, .slice a1 (c - 1) c1] 51 (0, 0)) → View .u32 Wz a1 ms → KO { tmps := #[.slice a n cap, .int .i64 stop, .pointer (some ⟨w.heap.size, 0, none⟩), .pointer (some ⟨w.heap.size + 1, 0, none⟩), .pointer (some ⟨w.heap.size + 2, 0, none⟩), .pointer (some ⟨w2.heap.size, 0, none⟩), .slice (some ⟨w3.heap.size, 0, none⟩) n n, .func (.func 40) #[] #[.pointer (some ⟨B, 0, none⟩)], .pointer (some ⟨w5.heap.size, 0, none⟩), .int .i64 q, .pointer (some ⟨Bx, 0, none⟩), .pointer (some ⟨B6, 0, none⟩), undef, undef, .slice a n cap, .slice (some ⟨bp, offp, none⟩) m cp, .slice a n cap, .slice (some ⟨w3.heap.size, 0, none⟩) n n, .slice (some ⟨w3.heap.size, 0, none⟩) n n, .func (.func 40) #[] #[.pointer (some ⟨B, 0, none⟩)], .func (.func 40) #[] #[.pointer (some ⟨B, 0, none⟩)], .bool false, .func (.func 40) #[] #[.pointer (some ⟨B, 0, none⟩)], .int .i64 q, .agg #[.int .u16 op, .slice (some ⟨g3, 0, none⟩) (c - 1) cx3], .int .i64 pre.length, .slice (some ⟨bp, offp, none⟩) m cp, .int .i64 m, .bool false, .bool false, .int .i64 q, .slice (some ⟨bp, offp, none⟩) m cp, .int .i64 pre.length, .pointer (some ⟨bp, offp + pre.length, none⟩), .int .i64 q, .bool false, .bool false, .slice a n cap, .slice (some ⟨bp, offp, none⟩) m cp, .int .i64 pre.length, .pointer (some ⟨bp, offp + pre.length, none⟩), .int .i64 q, .slice (some ⟨bp, offp, none⟩) m cp, .int .i64 pre.length, .pointer (some ⟨bp, offp + pre.length, none⟩), .int .i64 q, .slice a n cap, .slice (some ⟨bp, offp, none⟩) m cp, .int .i64 pre.length, .pointer (some ⟨bp, offp + pre.length, none⟩), .int .i64 q, .int .i64 c, .int .i64 ((q : Int) + (c : Int)), .agg #[.int .u16 op, .slice a1 (c - 1) c1], undef, undef, undef, undef, undef, undef, undef, undef, undef, undef, undef, undef, undef, undef, undef, undef, undef, undef, undef, undef, undef, undef, undef, undef, undef, undef, undef, undef, undef, undef, undef, undef, undef, undef, undef, undef, undef, undef, undef, undef, undef, undef, undef, undef, undef, undef, undef, undef, undef, undef, undef, undef, undef, undef, undef, undef, undef, undef, undef, undef, undef, undef, undef, undef, undef, undef, undef, undef, undef, undef, undef, undef, undef], defers := [] } Wz) := by
      intro Wz B6 c1 a1 hbz hB6 hv1
      apply hKO
      have sz := hbz.size
      have hxz := (hbz.block _ (Array.getElem?_eq_some_iff.1 hx).1).trans hx
      obtain ⟨y0, y1, _⟩ := cell_of_two hxz
      obtain ⟨z0, z1, _⟩ := cell_of_two hB6
      have hownz := own_below hown0 hbz
      have HOZ : Hid _ := hownz
      have HV1 : Hid (View .u32 Wz a1 ms) := hv1
      have n0z := (hbz.block _ (Array.getElem?_eq_some_iff.1 h2).1).trans h2
      have k1z := (hbz.block _ (by omega)).trans ((h1.block _ (by omega)).trans k15)
      clear L0 Lp Ln LP c0 cp0 cn fn x0 x1 cP hxz hB6 hv1 hownz
      gi_wp2_with fail
      refine ⟨trivial, rfl, (CallsIn.inRound l (callsIn_wide.2 (words_true _ _ (c - 1) cx3 c1 ms Wz (View.ofRow HOZ.out HML.out) HV1.out HML.out (by omega)))).mono ?_⟩
      rintro e Wy0 ⟨rfl, qd, rfl⟩
      have hbzy : Below Wz.heap.size Wz (Wz.drewN qd) := bel_drewN (Below.refl _ _) qd
      have hbWy : Below W.heap.size W (Wz.drewN qd) := hbz.trans (hbzy.mono sz)
      have hownY := own_below HOZ.out hbzy
      have n0y := (hbzy.block _ (Array.getElem?_eq_some_iff.1 n0z).1).trans n0z
      have k1y := (hbzy.block _ (Array.getElem?_eq_some_iff.1 k1z).1).trans k1z
      have y1y := (hbzy.cell (p := ⟨Bx, 1, none⟩) (World.block_lt_of_cell? _ _ y1)).trans y1
      clear y0 y1 z0 z1 n0z k1z hbzy
      generalize Wz.drewN qd = Wy at *
      gi_wp2_with fail
      refine ⟨trivial, rfl, (CallsIn.inRound l (callsIn_wide.2 (spoil_own _ (c - 1) _ ms Wy hownY HML.out (by omega)))).mono ?_⟩
      rintro e W8 ⟨rfl, hg8, _⟩
      have n8 := (hg8.block w5.heap.size (Array.getElem?_eq_some_iff.1 n0y).1 (fun e => by simp [Value.ownBlock] at e; omega)).trans n0y
      have k8 := (hg8.block (w.heap.size + 1) (Array.getElem?_eq_some_iff.1 k1y).1 (fun e => by simp [Value.ownBlock] at e; omega)).trans k1y
      have s8 := hg8.size
      have sy := hbWy.size
      obtain ⟨cn8, fn8⟩ := one_cell n8
      obtain ⟨ck8, _⟩ := one_cell k8
      have hkf8 : KeepsFrom wL.heap.size W W8 := (KeepsFrom.of_below hbWy).trans ((others_row hownY hg8).from _)
      have hkt8 : KeptT (fun t => t = 22 ∨ t = 70) W W8 := (KeptT.of_below hbWy).trans (KeptT.row hownY hg8 (by decide))
      have hbn8 : Below w5.heap.size W W8 := (hbWy.mono (by omega)).grown hg8 (by omega) (fun k e => by simp [Value.ownBlock] at e; omega)
      have HE8 : Hid (∀ (u : Int), u = ((pre.length + 1 : Nat) : Int) → KeepsFrom wL.heap.size W (W8.setCell ⟨w5.heap.size, 0, none⟩ (.int .i64 u)) ∧ Kept w5.heap.size (fun t => t = 22 ∨ t = 70) W (W8.setCell ⟨w5.heap.size, 0, none⟩ (.int .i64 u)) ∧ EachI zs w5 (pre ++ [(q, g3, cx3)]) (W8.setCell ⟨w5.heap.size, 0, none⟩ (.int .i64 u)) ∧ (u = stop → EachX w5 stop (.exit 0) (pre ++ [(q, g3, cx3)]) (W8.setCell ⟨w5.heap.size, 0, none⟩ (.int .i64 u)))) := by
        rintro u rfl
        have hbE : Below w5.heap.size w5 (W8.setCell ⟨w5.heap.size, 0, none⟩ (.int .i64 ((pre.length + 1 : Nat) : Int))) := (h1.trans hbn8).setCell (by simp) _
        have nE := one_set n8 (.int .i64 ((pre.length + 1 : Nat) : Int))
        have sE : w5.heap.size + 1 ≤ (W8.setCell ⟨w5.heap.size, 0, none⟩ (.int .i64 ((pre.length + 1 : Nat) : Int))).heap.size := by have := (grown_setCell W8 w5.heap.size 0 (.int .i64 ((pre.length + 1 : Nat) : Int))).size; omega
        exact ⟨hkf8.trans ((KeepsOthers.setCell _ _ _).from _), ⟨hbn8.setCell (by simp) _, hkt8.trans (KeptT.setCell n8 (by decide) 0 _)⟩, ⟨⟨hbE, sE⟩, by simpa using nE, by simpa using HPRE.out⟩, fun hs => ⟨rfl, ⟨hbE, sE⟩, by simpa using nE, by simpa using hs⟩⟩
      clear n0y k1y y1y hownY hbWy hg8 n8 k8 hkf8 hkt8 hbn8
      by_cases hs : (pre.length : Int) + 1 = stop
      · have b1 : ((pre.length : Int) + 1 == stop) = true := by simpa using hs
        have h9 := HE8.out ((pre.length : Int) + 1) (by simp)
        gi_wp2_with fail
        rw [hs] at h9
        exact ⟨h9.1, h9.2.2.2 rfl⟩
      · have b1 : ((pre.length : Int) + 1 == stop) = false := by simpa using hs
        have h9 := HE8.out ((pre.length : Int) + 1) (by simp)
        gi_wp2_with fail
        exact ⟨h9.1, h9.2.1, h9.2.2.1⟩
    clear hKO
    refine wpIn_region_any hmix (wpAnyC_sound (C := fun w' => Below W.heap.size W w') _ _ _ _ ?_)
    change wpAnyC _ _ _ _ _ _ _ _ _ _ (World.drew _)
    have hC0 : Below W.heap.size W W.drew := (Below.refl _ W).drew
    refine wpAnyC_take (i := 0) (v := .slice a n cap) (fun _ => trivial) (by kernel_rfl) rfl (by kernel_rfl) (by kernel_rfl) (by kernel_rfl) (fun _ _ _ h => h) hC0 (Or.inl ⟨by rfl, fun w' hC => by have e := L0 w' hC; go_simp⟩) ?_
    refine wpAnyC_take (i := 1) (v := .slice (some ⟨bp, offp, none⟩) m cp) (fun _ => trivial) (by kernel_rfl) rfl (by kernel_rfl) (by kernel_rfl) (by kernel_rfl) (fun _ _ _ h => h) hC0 (Or.inl ⟨by rfl, fun w' hC => by have e := Lp w' hC; go_simp⟩) ?_
    refine wpAnyC_take (i := 2) (v := .int .i64 pre.length) (fun _ => trivial) (by kernel_rfl) rfl (by kernel_rfl) (by kernel_rfl) (by kernel_rfl) (fun _ _ _ h => h) hC0 (Or.inl ⟨by rfl, fun w' hC => by have e := Ln w' hC; go_simp⟩) ?_
    refine wpAnyC_take (i := 3) (v := .pointer (some ⟨bp, offp + pre.length, none⟩)) (fun _ => trivial) (by kernel_rfl) rfl (by kernel_rfl) (by kernel_rfl) (by kernel_rfl) (fun _ _ _ h => h) hC0 (Or.inl ⟨by rfl, fun w' _ => by go_simp⟩) ?_
    refine wpAnyC_take (i := 4) (v := .int .i64 q) (fun _ => trivial) (by kernel_rfl) rfl (by kernel_rfl) (by kernel_rfl) (by kernel_rfl) (fun _ _ _ h => h) hC0 (Or.inl ⟨by rfl, fun w' hC => by have e := LP w' hC; go_simp⟩) ?_
    refine wpAnyC_take (i := 5) (v := .slice (some ⟨bp, offp, none⟩) m cp) (fun _ => trivial) (by kernel_rfl) rfl (by kernel_rfl) (by kernel_rfl) (by kernel_rfl) (fun _ _ _ h => h) hC0 (Or.inl ⟨by rfl, fun w' hC => by have e := Lp w' hC; go_simp⟩) ?_
    refine wpAnyC_take (i := 6) (v := .int .i64 pre.length) (fun _ => trivial) (by kernel_rfl) rfl (by kernel_rfl) (by kernel_rfl) (by kernel_rfl) (fun _ _ _ h => h) hC0 (Or.inl ⟨by rfl, fun w' hC => by have e := Ln w' hC; go_simp⟩) ?_
    refine wpAnyC_take (i := 7) (v := .pointer (some ⟨bp, offp + pre.length, none⟩)) (fun _ => trivial) (by kernel_rfl) rfl (by kernel_rfl) (by kernel_rfl) (by kernel_rfl) (fun _ _ _ h => h) hC0 (Or.inl ⟨by rfl, fun w' _ => by go_simp⟩) ?_
    refine wpAnyC_take (i := 8) (v := .int .i64 q) (fun _ => trivial) (by kernel_rfl) rfl (by kernel_rfl) (by kernel_rfl) (by kernel_rfl) (fun _ _ _ h => h) hC0 (Or.inl ⟨by rfl, fun w' hC => by have e := LP w' hC; go_simp⟩) ?_
    refine wpAnyC_take (i := 9) (v := .slice a n cap) (fun _ => trivial) (by kernel_rfl) rfl (by kernel_rfl) (by kernel_rfl) (by kernel_rfl) (fun _ _ _ h => h) hC0 (Or.inl ⟨by rfl, fun w' hC => by have e := L0 w' hC; go_simp⟩) ?_
    refine wpAnyC_take (i := 10) (v := .slice (some ⟨bp, offp, none⟩) m cp) (fun _ => trivial) (by kernel_rfl) rfl (by kernel_rfl) (by kernel_rfl) (by kernel_rfl) (fun _ _ _ h => h) hC0 (Or.inl ⟨by rfl, fun w' hC => by have e := Lp w' hC; go_simp⟩) ?_
    refine wpAnyC_take (i := 11) (v := .int .i64 pre.length) (fun _ => trivial) (by kernel_rfl) rfl (by kernel_rfl) (by kernel_rfl) (by kernel_rfl) (fun _ _ _ h => h) hC0 (Or.inl ⟨by rfl, fun w' hC => by have e := Ln w' hC; go_simp⟩) ?_
    refine wpAnyC_take (i := 12) (v := .pointer (some ⟨bp, offp + pre.length, none⟩)) (fun _ => trivial) (by kernel_rfl) rfl (by kernel_rfl) (by kernel_rfl) (by kernel_rfl) (fun _ _ _ h => h) hC0 (Or.inl ⟨by rfl, fun w' _ => by go_simp⟩) ?_
    refine wpAnyC_take (i := 13) (v := .int .i64 q) (fun _ => trivial) (by kernel_rfl) rfl (by kernel_rfl) (by kernel_rfl) (by kernel_rfl) (fun _ _ _ h => h) hC0 (Or.inl ⟨by rfl, fun w' hC => by have e := LP w' hC; go_simp⟩) ?_
    refine wpAnyC_ready (rs := [14, 17]) (by kernel_rfl) (by simp) ?_
    refine AllC.cons rfl (fun K hK => ?_) ?_
    · go_simp
      refine ⟨trivial, rfl, (CallsIn.inRound l (callsIn_wide.2 (HCNT.out _ hC0))).mono ?_⟩
      rintro e w' ⟨rfl, rfl⟩
      dsimp only
      refine hK _ _ hC0 ?_
      clear hK K
      refine wpAnyC_take (i := 15) (v := .int .i64 ((q : Int) + (c : Int))) (fun _ => trivial) (by kernel_rfl) rfl (by kernel_rfl) (by kernel_rfl) (by kernel_rfl) (fun _ _ _ h => h) hC0 (Or.inl ⟨by rfl, fun w' _ => by go_simp; rw [IntKind.wrap_i64]; omega⟩) ?_
      refine wpAnyC_ready (rs := [16, 17]) (by kernel_rfl) (by simp) ?_
      refine AllC.cons rfl (fun K hK => ?_) ?_
      · go_simp
        refine ⟨trivial, rfl, (CallsIn.inRound l (callsIn_wide.2 (HAT.out _ hC0))).mono ?_⟩
        rintro e wd ⟨a1, c1, rfl, hown1, hbd⟩
        dsimp only
        have hCd : Below W.heap.size W wd := Below.trans hC0 (hbd.mono (by exact Nat.le_refl _))
        refine hK _ _ hCd ?_
        clear hK K
        refine wpAnyC_ready (rs := [17]) (by kernel_rfl) (by simp) ?_
        refine AllC.cons rfl (fun K hK => ?_) ?_
        · go_simp
          refine hK _ _ ((Below.trans hCd ((Below.refl _ wd).alloc (Nat.le_refl _) _ |>.mono hCd.size))) ?_
          clear hK K
          refine wpAnyC_ready (rs := [18]) (by kernel_rfl) (by simp) ?_
          refine AllC.cons rfl (fun K hK => ?_) ?_
          · go_simp
            refine hK _ _ ((Below.trans hCd ((Below.refl _ wd).alloc (Nat.le_refl _) _ |>.mono hCd.size))) ?_
            clear hK K
            refine wpAnyC_done (by kernel_rfl) ?_ _
            exact HREST.out _ wd.heap.size c1 a1 ((Below.trans hCd ((Below.refl _ wd).alloc (Nat.le_refl _) _ |>.mono hCd.size))) (heap_alloc_new wd _) ((View.ofOwn hown1 HML.out).below ((Below.refl _ wd).alloc (Nat.le_refl _) _))
          exact AllC.nil
        exact AllC.nil
      refine AllC.cons rfl (fun K hK => ?_) ?_
      · go_simp
        refine hK _ _ (Below.trans hC0 ((Below.refl _ W.drew).alloc (Nat.le_refl _) _)) ?_
        clear hK K
        refine wpAnyC_ready (rs := [16]) (by kernel_rfl) (by simp) ?_
        refine AllC.cons rfl (fun K hK => ?_) ?_
        · go_simp
          refine ⟨trivial, rfl, (CallsIn.inRound l (callsIn_wide.2 (HAT.out _ (Below.trans hC0 ((Below.refl _ W.drew).alloc (Nat.le_refl _) _))))).mono ?_⟩
          rintro e wd ⟨a1, c1, rfl, hown1, hbd⟩
          dsimp only
          have hCd : Below W.heap.size W wd := Below.trans (Below.trans hC0 ((Below.refl _ W.drew).alloc (Nat.le_refl _) _)) (hbd.mono (by simp))
          refine hK _ _ hCd ?_
          clear hK K
          have s1 : wd.heap[W.heap.size]? = some (.cells #[.int .u16 0, .slice none 0 0] 51 (0, 0)) := (hbd.block _ (by simp)).trans (heap_alloc_new W.drew _)
          obtain ⟨t0, t1, t2⟩ := cell_of_two s1
          have t3 : wd.frozen? ⟨W.heap.size, 0, none⟩ = false := by simp [World.frozen?, s1]
          refine wpAnyC_ready (rs := [18]) (by kernel_rfl) (by simp) ?_
          refine AllC.cons rfl (fun K hK => ?_) ?_
          · go_simp
            refine hK _ _ ((hCd.setCell (by simp) _).setCell (by simp) _) ?_
            clear hK K
            refine wpAnyC_done (by kernel_rfl) ?_ _
            have hS := two_set s1 (.int .u16 op) (.slice a1 (c - 1) c1)
            exact HREST.out _ W.heap.size c1 a1 ((hCd.setCell (by simp) _).setCell (by simp) _) hS (View.ofOwn (ownsRow_setCell_below (ownsRow_setCell_below hown1 (by simp) _) (by simp) _) HML.out)
          exact AllC.nil
        exact AllC.nil
      exact AllC.nil
    refine AllC.cons rfl (fun K hK => ?_) ?_
    · go_simp
      refine hK _ _ (Below.trans hC0 ((Below.refl _ W.drew).alloc (Nat.le_refl _) _)) ?_
      clear hK K
      refine wpAnyC_ready (rs := [14]) (by kernel_rfl) (by simp) ?_
      refine AllC.cons rfl (fun K hK => ?_) ?_
      · go_simp
        refine ⟨trivial, rfl, (CallsIn.inRound l (callsIn_wide.2 (HCNT.out _ (Below.trans hC0 ((Below.refl _ W.drew).alloc (Nat.le_refl _) _))))).mono ?_⟩
        rintro e w' ⟨rfl, rfl⟩
        dsimp only
        refine hK _ _ (Below.trans hC0 ((Below.refl _ W.drew).alloc (Nat.le_refl _) _)) ?_
        clear hK K
        refine wpAnyC_take (i := 15) (v := .int .i64 ((q : Int) + (c : Int))) (fun _ => trivial) (by kernel_rfl) rfl (by kernel_rfl) (by kernel_rfl) (by kernel_rfl) (fun _ _ _ h => h) (Below.trans hC0 ((Below.refl _ W.drew).alloc (Nat.le_refl _) _)) (Or.inl ⟨by rfl, fun w' _ => by go_simp; rw [IntKind.wrap_i64]; omega⟩) ?_
        refine wpAnyC_ready (rs := [16]) (by kernel_rfl) (by simp) ?_
        refine AllC.cons rfl (fun K hK => ?_) ?_
        · go_simp
          refine ⟨trivial, rfl, (CallsIn.inRound l (callsIn_wide.2 (HAT.out _ (Below.trans hC0 ((Below.refl _ W.drew).alloc (Nat.le_refl _) _))))).mono ?_⟩
          rintro e wd ⟨a1, c1, rfl, hown1, hbd⟩
          dsimp only
          have hCd : Below W.heap.size W wd := Below.trans (Below.trans hC0 ((Below.refl _ W.drew).alloc (Nat.le_refl _) _)) (hbd.mono (by simp))
          refine hK _ _ hCd ?_
          clear hK K
          have s1 : wd.heap[W.heap.size]? = some (.cells #[.int .u16 0, .slice none 0 0] 51 (0, 0)) := (hbd.block _ (by simp)).trans (heap_alloc_new W.drew _)
          obtain ⟨t0, t1, t2⟩ := cell_of_two s1
          have t3 : wd.frozen? ⟨W.heap.size, 0, none⟩ = false := by simp [World.frozen?, s1]
          refine wpAnyC_ready (rs := [18]) (by kernel_rfl) (by simp) ?_
          refine AllC.cons rfl (fun K hK => ?_) ?_
          · go_simp
            refine hK _ _ ((hCd.setCell (by simp) _).setCell (by simp) _) ?_
            clear hK K
            refine wpAnyC_done (by kernel_rfl) ?_ _
            have hS := two_set s1 (.int .u16 op) (.slice a1 (c - 1) c1)
            exact HREST.out _ W.heap.size c1 a1 ((hCd.setCell (by simp) _).setCell (by simp) _) hS (View.ofOwn (ownsRow_setCell_below (ownsRow_setCell_below hown1 (by simp) _) (by simp) _) HML.out)
          exact AllC.nil
        exact AllC.nil
      exact AllC.nil
    exact AllC.nil
  case done =>
    rintro D xs W hD hS ⟨⟨h1, hlt⟩, h2, h3⟩ hK
    have hkm : xs.length = m := by
      have h4 : xs.map (·.1) = rest zs 5 := hS
      rw [← hm, ← h4]; simp
    gi_wp2_with fail
    exact REST1.out D xs.length W (by omega) h1 hlt h2 (.inl hkm) hK
  case stop =>
    rintro D c pre W hD _ ⟨rfl, ⟨h1, hlt⟩, h2, h3⟩ hK
    gi_wp2_with fail
    exact REST1.out D pre.length W (by omega) h1 hlt h2 (.inr h3) hK

end Go.Proofs.Ytckpijgnkkjfkaa
