/-
  The law FrameBack answers true, for every list of words.
-/
import Derived.RangeFuncNested
import Derived.RangeFuncBound
import Derived.RangeFuncCalls
import Derived.RangeFuncLeaves
import Derived.Shelf.Abstract
import Derived.Shelf.RegionOpen
import Derived.WalkKit
import Derived.OwnWalkIn
import Derived.TacticsInMore
import Derived.LoopNIn
import Derived.LoopIn
import Derived.WalkSpells
import Derived.Test.YtjpbiakbjpiceabDraw
import Derived.Test.YtjpbiakbjpiceabLaw02Round
import Derived.Test.YtjpbiakbjpiceabMathWR
import Derived.Test.YtjpbiakbjpiceabLaw02Awake
import Derived.Test.YtjpbiakbjpiceabLaw02Copied
import Derived.Test.YtjpbiakbjpiceabFrameRead
import Derived.Test.YtjpbiakbjpiceabFrameWrite
import Derived.Test.YtjpbiakbjpiceabFrameEach
import Derived.Test.YtjpbiakbjpiceabFrameEach2
import Derived.Test.YtjpbiakbjpiceabFrameFind
import Derived.Test.YtjpbiakbjpiceabKitCopyWords
namespace Go.Proofs.Ytjpbiakbjpiceab
open Go.RowKit Go.Shelf
attribute [local go_sem] Oper.semAt_some

/-- Between two rounds: how many there were, and where the next one is. -/
def BackI (zs : List Int) (w9 : World) (lo : Nat) (pre : List Told) (W : World) : Prop :=
  (Below w9.heap.size w9 W ∧ lo ≤ W.heap.size) ∧ W.heap[w9.heap.size]? = some (.cells #[.int .i64 pre.length] 3 (0, 0)) ∧ W.heap[w9.heap.size + 1]? = some (.cells #[.int .i64 (sizeTo (readR zs) pre.length)] 3 (0, 0)) ∧ pre.map (·.1) <+: rest zs 5
theorem backI_own (zs : List Int) (w9 : World) (lo : Nat) (h : w9.heap.size ≤ lo) : OwnFrom lo (BackI zs w9 lo) := by
  rintro pre W W' row ⟨h1, h2, h3, h4⟩ hg hr
  exact ⟨⟨below_stay h1.1 (Nat.le_refl _) (by omega) hg hr, Nat.le_trans h1.2 hg.size⟩, cells_stay h2 hg hr, cells_stay h3 hg hr, h4⟩
theorem told_stay {zs : List Int} {lo : Nat} {pre : List Told} {x : Told} {W W' : World} {row : Option Nat} {B : Nat} (h : ToldOk zs lo pre x W) (hg : W.grownBy W' row) (hr : ∀ r, row = some r → B ≤ r ∧ ∃ o : Obj, W.heap[r]? = some o ∧ o.isCells = false) : ToldOk zs lo pre x W' :=
  ⟨h.1, own_apartly h.2 hg (fun g e => .inr (hr g e).2)⟩
theorem told_below {zs : List Int} {lo : Nat} {pre : List Told} {x : Told} {W W' : World} (h : ToldOk zs lo pre x W) (hb : Below W.heap.size W W') : ToldOk zs lo pre x W' := ⟨h.1, own_below h.2 hb⟩

/-- The place that is told next. -/
theorem told_next {zs : List Int} {lo : Nat} {pre : List Told} {x : Told} {W : World} (h : ToldOk zs lo pre x W) : pre.length < (rest zs 5).length ∧ (rest zs 5).getD pre.length 0 = x.1 := by
  obtain ⟨s, hs⟩ := h.1
  have hl : (pre.map (·.1)).length = pre.length := by simp
  rw [← hs, List.append_assoc]
  constructor
  · simp
  · rw [List.getD_eq_getElem?_getD, List.getElem?_append_right (by omega), hl]; simp

theorem two_set {w : World} {g T : Nat} {a b : Value} (h : w.heap[g]? = some (.cells #[a, b] T (0, 0))) (u0 u1 : Value) : ((w.setCell ⟨g, 0, none⟩ u0).setCell ⟨g, 1, none⟩ u1).heap[g]? = some (.cells #[u0, u1] T (0, 0)) := by
  simp only [World.setCell, Array.getElem?_modify, h]; simp

set_option maxRecDepth 100000 in
set_option maxHeartbeats 8000000 in
theorem frameBack_true (w : World) (a : Option Addr) (n cap : Nat) (zs : List Int) (hl : zs.length = n) (hv : View .u32 w a zs) (hw : Within 4294967296 zs) (hr : 4 * n ≤ 140737488351232) :
    Calls Try.prog 6 #[.slice a n cap] w fun e w' => e = .returned (.bool true) ∧ Below w.heap.size w w' := by
  have HL : Hid (zs.length = n) := hl
  have HV : Hid (View .u32 w a zs) := hv
  have HW : Hid (Within 4294967296 zs) := hw
  have HC : Hid (∀ wx, Below w.heap.size w wx → _) := fun wx (hb : Below w.heap.size w wx) => copyWords_any a n cap zs wx (hv.below hb) hl hr
  have HR : Hid (∀ x wx, View .u32 wx (some x) zs → _) := fun x wx (h : View .u32 wx (some x) zs) => readC (some x) n n zs wx h hl hw hr (Nat.le_refl _)
  have HE : Hid (∀ x wx, View .u32 wx (some x) zs → _) := fun x wx (h : View .u32 wx (some x) zs) => each_own x n n zs wx h hl hr
  have HA : Hid (∀ wx, _) := fun wx => awake_true readC writeC wx
  have hmix : Try.prog.follows .mixedOrders = true := by kernel_rfl
  have hnf : ∀ (w : World) (B : Nat), (binOp .eql 65 (.func (.func 41) #[] #[.pointer (some ⟨B, 0, none⟩)]) .nilFunc).run Try.prog w = .ok (.bool false) w := fun w B => by kernel_rfl
  clear hv hl hw
  refine (callsIn_wide (n := 0)).1 ?_
  refine callsIn_of_wp_marks Try.func6 rfl trivial ?_ rfl
  simp only [Try.ntmps6, List.size_toArray, List.length_cons, List.length_nil, Nat.reduceAdd, Nat.reduceSub, Array.replicate_succ, Array.replicate_zero, List.push_toArray, List.append_toArray, List.nil_append, List.cons_append]
  gi_wp2_with fail
  obtain ⟨w1, hw1⟩ : ∃ X, X = (w.alloc (.cells #[.slice a n cap] 47)).alloc (.cells #[.bool false] 4) := ⟨_, rfl⟩
  have hb1 : Below w.heap.size w w1 := by rw [hw1]; exact ((Below.refl _ w).alloc (Nat.le_refl _) _).alloc (by simp) _
  have s1 : w.heap.size + 2 ≤ w1.heap.size := by rw [hw1]; simp
  have k0 : w1.heap[w.heap.size]? = some (.cells #[.slice a n cap] 47 (0, 0)) := by rw [hw1]; exact (Below.heap_alloc _ _ _ (by simp)).trans (heap_alloc_new w _)
  have k1 : w1.heap[w.heap.size + 1]? = some (.cells #[.bool false] 4 (0, 0)) := by rw [hw1]; simpa using heap_alloc_new (w.alloc (.cells #[.slice a n cap] 47)) (.cells #[.bool false] 4)
  rw [← hw1]
  clear hw1
  refine ⟨trivial, rfl, (callsIn_wide.2 (HC.out w1 hb1)).mono ?_⟩
  rintro e w2 ⟨rfl, hown2, hb12⟩
  have s2 := hb12.size
  have hv2 := View.ofRow hown2 HL.out
  clear hown2
  gi_wp2_with fail
  refine ⟨trivial, rfl, (callsIn_wide.2 (HR.out _ w2 hv2)).mono ?_⟩
  rintro e w3 ⟨hb23, ax, cx, m, rfl, hm, hO⟩
  have s3 := hb23.size
  clear hv2
  have l3 : w.heap.size + 2 ≤ w3.heap.size := by omega
  have hb13 : Below w1.heap.size w1 w3 := hb12.trans (hb23.mono (by omega))
  have k03 := (hb13.block _ (by omega)).trans k0
  have k13 := (hb13.block _ (by omega)).trans k1
  have hbw3 : Below w.heap.size w w3 := hb1.trans (hb13.mono (by omega))
  clear hb12 hb23 k0 k1 hb1 hb13 s1 s2 s3
  by_cases hE : (readE zs).1 = 0
  · have e2 : readAt zs 2 = nth zs 2 := by unfold readAt; rw [if_pos hE]
    have e3 : readAt zs 3 = nth zs 3 := by unfold readAt; rw [if_pos hE]
    have eL : readL zs = readR zs := by unfold readL; rw [if_pos hE]
    obtain ⟨f1, f2, f3, f4, f5, f6⟩ := write_read zs HW.out hE
    have HMAT : Hid (nth zs 3 ≠ 0 ∧ ¬ 65536 < nth zs 3 ∧ fault (readR zs) 0 = (0, 0) ∧ sizeTo (readR zs) (readR zs).length = zs.length ∧ writeTo (nth zs 2) (nth zs 3) (readR zs) (readR zs).length = zs) := ⟨f2, f3, f4, f5, f6⟩
    have hn5 : 5 ≤ n := by rw [← HL.out]; exact f1
    rw [eL] at hm hO
    rw [e2, e3, hE]
    have HE0 : Hid ((readE zs).1 = 0) := hE
    have hn20 : n ≤ 1048576 := by rw [← HL.out]; exact (readE_ok zs hE).1
    have HMN : Hid (m ≤ n) := by show _ ≤ _; rw [← hm, ← HL.out, ← eL]; exact readL_len zs
    have HM32 : Hid (32 * m ≤ 140737488351232) := by show _ ≤ _; have := HMN.out; omega
    have HOK : Hid (RawsOk (readR zs)) := by show RawsOk _; rw [← eL]; exact readL_ok zs HW.out (by rw [HL.out]; exact hr)
    have HSZ : Hid (∀ b wx, RawsV wx (some ⟨b, 0, none⟩) (readR zs) → Calls Try.prog 20 #[.slice (some ⟨b, 0, none⟩) m m] wx fun e w' => e = .returned (.tuple #[.int .i64 n, .int .i64 0]) ∧ Below wx.heap.size wx w') := by
      intro b wx h
      have e1 : sizeOut (readR zs) = (n : Int) := by unfold sizeOut; rw [f4, if_pos rfl, f5, HL.out]
      have := sizeC (some ⟨b, 0, none⟩) m m (readR zs) wx h HOK.out hm HM32.out (Nat.le_refl _)
      rw [e1, f4] at this
      exact this
    have HWR0 : Hid (∀ b wx, RawsV wx (some ⟨b, 0, none⟩) (readR zs) → Calls Try.prog 18 #[.agg #[.int .u32 (nth zs 2), .int .u32 (nth zs 3)], .slice (some ⟨b, 0, none⟩) m m] wx fun e w' => Below wx.heap.size wx w' ∧ ∃ a7 c7, e = .returned (.tuple #[.slice a7 n c7, .agg #[.int .i64 0, .int .i64 0]]) ∧ w'.ownsRow wx.heap.size 24 1 (.slice a7 n c7) n (zs.map (Value.int .u32))) := by
      intro b wx h
      have e1 : writeE (nth zs 3) (readR zs) = (0, 0) := by unfold writeE; rw [if_neg (by omega), f4]
      have e2 : writeL (nth zs 2) (nth zs 3) (readR zs) = zs := by unfold writeL; rw [e1, if_pos rfl, f6]
      have := writeC (nth zs 2) (nth zs 3) (some ⟨b, 0, none⟩) m m (readR zs) wx (HW.out.at (by omega)).1 (HW.out.at (by omega)).2 (HW.out.at (by omega)).1 (HW.out.at (by omega)).2 h HOK.out hm HM32.out (Nat.le_refl _)
      rw [e1, e2] at this
      refine this.mono ?_
      rintro e w' ⟨h1, a7, c7, m7, rfl, h2, h3⟩
      obtain rfl : m7 = n := by rw [← h2]; exact HL.out
      exact ⟨h1, a7, c7, rfl, h3⟩
    clear e2 e3 eL f1 f2 f3 f4 f5 f6 hE
    generalize (readE zs).2 = x29
    gi_wp2_with fail
    rename_i K4 hK4
    generalize hg2 : nth zs 2 = gen
    generalize hg3 : nth zs 3 = bound
    obtain ⟨w4, hw4⟩ : ∃ X, X = (((w3.alloc (.cells #[.int .u32 gen, .int .u32 bound] 49)).alloc (.cells #[.slice ax m cx] 50)).alloc (.cells #[.int .i64 0, .int .i64 x29] 53)) := ⟨_, rfl⟩
    have hb34 : Below w3.heap.size w3 w4 := by rw [hw4]; exact (((Below.refl _ w3).alloc (Nat.le_refl _) _).alloc (by simp) _).alloc (by simp; omega) _
    have s4 : w3.heap.size + 3 ≤ w4.heap.size := by rw [hw4]; simp
    have kH : w4.heap[w3.heap.size]? = some (.cells #[.int .u32 gen, .int .u32 bound] 49 (0, 0)) := by rw [hw4]; exact (Below.heap_alloc _ _ _ (by simp; omega)).trans ((Below.heap_alloc _ _ _ (by simp)).trans (heap_alloc_new w3 _))
    have kL : w4.heap[w3.heap.size + 1]? = some (.cells #[.slice ax m cx] 50 (0, 0)) := by rw [hw4]; exact (Below.heap_alloc _ _ _ (by simp)).trans (by simpa using heap_alloc_new (w3.alloc (.cells #[.int .u32 gen, .int .u32 bound] 49)) (.cells #[.slice ax m cx] 50))
    rw [← hw4]
    clear hw4
    have hO4 := hO.below hb34
    have k04 := (hb34.block _ (by omega)).trans k03
    have k14 := (hb34.block _ (by omega)).trans k13
    have hbw4 : Below w.heap.size w w4 := hbw3.trans (hb34.mono (by omega))
    have hv4 := HV.out.below hbw4
    obtain ⟨ba, offa, rfl, hbs, cg⟩ := hv4 2 (by rw [HL.out]; omega)
    obtain ⟨ba', offa', hab, _, cb⟩ := hv4 3 (by rw [HL.out]; omega)
    obtain ⟨rfl, rfl⟩ : ba = ba' ∧ offa = offa' := by cases hab; exact ⟨rfl, rfl⟩
    rw [hg2] at cg HWR0
    rw [hg3] at cb HWR0
    obtain ⟨c0, _⟩ := one_cell k04
    obtain ⟨cH0, cH1, _⟩ := cell_of_two kH
    clear hO k03 k13 hbw3 hb34 hab
    have b1 : decide ((n : Int) < 5) = false := decide_eq_false (by omega)
    have hn2 : (2 : Int) < (n : Int) := by omega
    have hn3 : (3 : Int) < (n : Int) := by omega
    have HKL : Hid (w4.heap[w3.heap.size + 1]? = some (.cells #[.slice ax m cx] 50 (0, 0))) := kL
    have HKH : Hid (w4.heap[w3.heap.size]? = some (.cells #[.int .u32 gen, .int .u32 bound] 49 (0, 0))) := kH
    have HK0 : Hid (w4.heap[w.heap.size]? = some (.cells #[.slice (some ⟨ba, offa, none⟩) n cap] 47 (0, 0))) := k04
    have HK1 : Hid (w4.heap[w.heap.size + 1]? = some (.cells #[.bool false] 4 (0, 0))) := k14
    have HO : Hid (OwnR w4 w2.heap.size ax 0 (readR zs)) := hO4
    clear kL hO4 k04 k14 kH hv4
    gi_region_o
    show K4 _ _
    apply hK4
    clear hK4 K4 cg cb c0 cH0 cH1 hn2 hn3 b1
    gi_wp2_with fail
    rename_i K6 hK6
    have hb45 : Below w4.heap.size w4 w4.drew := (Below.refl _ w4).drew
    have s5 : w3.heap.size + 3 ≤ w4.drew.heap.size := s4
    have kL := (hb45.block _ (by omega)).trans HKL.out
    have kH := (hb45.block _ (by omega)).trans HKH.out
    have k05 := (hb45.block _ (by omega)).trans HK0.out
    have k15 := (hb45.block _ (by omega)).trans HK1.out
    have hO5 := HO.out.below hb45
    have hbw5 : Below w.heap.size w w4.drew := hbw4.trans (hb45.mono hbw4.size)
    clear HKL HKH HK0 HK1 HO hb45 hbw4 s4 hbs
    generalize w4.drew = w5 at *
    have HCP : Hid (∀ wx, Below w5.heap.size w5 wx → Calls Try.prog 19 #[.slice ax m cx] wx fun e w' => ∃ g, e = .returned (.slice (some ⟨g, 0, none⟩) m m) ∧ RawsV w' (some ⟨g, 0, none⟩) (readR zs) ∧ Below wx.heap.size wx w') := fun wx hb => (copied_any ax m cx (readR zs) wx (hO5.below hb).view HOK.out hm HM32.out).mono fun e w' h => ⟨_, h.1, h.2.1.view hm, h.2.2⟩
    have KEY6 : Hid (∀ (B7 g6 c7 : Nat) (a7 : Option Addr) (W : World), Below w5.heap.size w5 W → W.heap[B7]? = some (.cells #[.int .i64 0, .int .i64 0] 53 (0, 0)) → View .u32 W a7 zs → K6 { tmps := #[.slice (some ⟨ba, offa, none⟩) n cap, .pointer (some ⟨w.heap.size, 0, none⟩), .pointer (some ⟨w.heap.size + 1, 0, none⟩), .pointer (some ⟨w3.heap.size, 0, none⟩), .pointer (some ⟨w3.heap.size + 1, 0, none⟩), .pointer (some ⟨w3.heap.size + 1 + 1, 0, none⟩), .slice a7 n c7, .pointer (some ⟨B7, 0, none⟩), undef, undef, undef, undef, undef, undef, undef, undef, undef, .tuple #[.agg #[.int .u32 gen, .int .u32 bound], .slice ax m cx, .agg #[.int .i64 0, .int .i64 x29]], .slice (some ⟨ba, offa, none⟩) n cap, .slice (some ⟨w1.heap.size, 0, none⟩) n n, .tuple #[.agg #[.int .u32 gen, .int .u32 bound], .slice ax m cx, .agg #[.int .i64 0, .int .i64 x29]], .agg #[.int .u32 gen, .int .u32 bound], .slice ax m cx, .agg #[.int .i64 0, .int .i64 x29], .pointer (some ⟨w3.heap.size + 1 + 1, 0, none⟩), .int .i64 0, .bool false, undef, undef, undef, undef, undef, undef, undef, undef, undef, undef, undef, .slice (some ⟨ba, offa, none⟩) n cap, .int .i64 n, .bool false, .bool false, .pointer (some ⟨w3.heap.size, 0, none⟩), .int .u32 gen, .slice (some ⟨ba, offa, none⟩) n cap, .pointer (some ⟨ba, offa + 2, none⟩), .int .u32 gen, .bool false, .bool false, .bool false, .pointer (some ⟨w3.heap.size, 1, none⟩), .int .u32 bound, .slice (some ⟨ba, offa, none⟩) n cap, .pointer (some ⟨ba, offa + 3, none⟩), .int .u32 bound, .bool false, .bool false, .tuple #[.slice a7 n c7, .agg #[.int .i64 0, .int .i64 0]], .agg #[.int .u32 gen, .int .u32 bound], .slice ax m cx, .slice (some ⟨g6, 0, none⟩) m m, .tuple #[.slice a7 n c7, .agg #[.int .i64 0, .int .i64 0]], .slice a7 n c7, .agg #[.int .i64 0, .int .i64 0], undef, undef, undef, undef, undef, undef, undef, undef, undef, undef, undef, undef, undef, undef, undef, undef, undef, undef, undef, undef, undef, undef, undef, undef, undef, undef, undef, undef, undef, undef, undef, undef, undef, undef, undef, undef, undef, undef, undef, undef, undef, undef, undef, undef, undef, undef, undef, undef, undef, undef, undef, undef, undef, undef, undef, undef, undef, undef, undef, undef, undef, undef, undef, undef, undef, undef, undef, undef, undef, undef, undef, undef, undef, undef, undef, undef, undef, undef, undef, undef, undef, undef, undef, undef, undef, undef, undef, undef, undef, undef, undef, undef, undef, undef, undef, undef, undef, undef, undef, undef, undef, undef, undef], defers := [] } W) := by
      intro B7 g6 c7 a7 W hbW kS hv7
      apply hK6
      clear hK6 K6
      have sW := hbW.size
      have lB7 := (Array.getElem?_eq_some_iff.1 kS).1
      obtain ⟨cL, _⟩ := one_cell ((hbW.block _ (by omega)).trans kL)
      have lL : w3.heap.size + 1 < W.heap.size := by omega
      have HSW : Hid (w5.heap.size ≤ W.heap.size) := sW
      have HL3 : Hid (w.heap.size + 2 ≤ w3.heap.size) := l3
      have HS5 : Hid (w3.heap.size + 3 ≤ w5.heap.size) := s5
      clear l3 hn5
      gi_wp2_with fail
      refine ⟨trivial, rfl, (callsIn_wide.2 (HCP.out W hbW)).mono ?_⟩
      rintro e w7 ⟨g7, rfl, hP7, hbW7⟩
      clear cL
      gi_wp2_with fail
      refine ⟨trivial, rfl, (callsIn_wide.2 (HSZ.out _ w7 hP7)).mono ?_⟩
      rintro e w8 ⟨rfl, hb78⟩
      have hbW8 : Below W.heap.size W w8 := hbW7.trans (hb78.mono hbW7.size)
      have hb58 : Below w5.heap.size w5 w8 := hbW.trans (hbW8.mono sW)
      have hv78 := hv7.below hbW8
      have s8 := hb58.size
      obtain ⟨cS, _⟩ := cell_of_two ((hbW8.block _ lB7).trans kS)
      have l3 := HL3.out
      obtain ⟨c0, _⟩ := one_cell ((hb58.block _ (by omega)).trans k05)
      have hbw8 : Below w.heap.size w w8 := hbw5.trans (hb58.mono hbw5.size)
      have HWT : Hid (Calls Try.prog 21 #[.slice a7 n c7, .slice (some ⟨ba, offa, none⟩) n cap] w8 fun e w' => e = .returned (.bool true) ∧ ∃ q, w' = w8.drewN q) := words_true a7 (some ⟨ba, offa, none⟩) n c7 cap zs w8 hv78 (HV.out.below hbw8) HL.out (by omega)
      clear hP7 hbW7 hb78 hbW8 kS hv7 lB7 lL sW hv78 l3
      gi_wp2_with fail
      refine ⟨trivial, rfl, (callsIn_wide.2 HWT.out).mono ?_⟩
      rintro e w9 ⟨rfl, qd, rfl⟩
      have hb89 : Below w8.heap.size w8 (w8.drewN qd) := bel_drewN (Below.refl _ _) qd
      have hb59 : Below w5.heap.size w5 (w8.drewN qd) := hb58.trans (hb89.mono hb58.size)
      clear hb58 hb89 c0 cS HWT s8 hbw8
      generalize w8.drewN qd = w9 at *
      have s9 := hb59.size
      have l3 := HL3.out
      obtain ⟨c0, _⟩ := one_cell ((hb59.block _ (by omega)).trans k05)
      have l0 : w.heap.size < w9.heap.size := by omega
      clear l3
      gi_wp2_with fail
      obtain ⟨w10, hw10⟩ : ∃ X, X = (w9.alloc (.cells #[.int .i64 0] 3)).alloc (.cells #[.int .i64 5] 3) := ⟨_, rfl⟩
      have hb910 : Below w9.heap.size w9 w10 := by rw [hw10]; exact ((Below.refl _ w9).alloc (Nat.le_refl _) _).alloc (by simp) _
      have s10 : w9.heap.size + 2 ≤ w10.heap.size := by rw [hw10]; simp
      have kk : w10.heap[w9.heap.size]? = some (.cells #[.int .i64 0] 3 (0, 0)) := by rw [hw10]; exact (Below.heap_alloc _ _ _ (by simp)).trans (heap_alloc_new w9 _)
      have kp : w10.heap[w9.heap.size + 1]? = some (.cells #[.int .i64 5] 3 (0, 0)) := by rw [hw10]; simpa using heap_alloc_new (w9.alloc (.cells #[.int .i64 0] 3)) (.cells #[.int .i64 5] 3)
      rw [← hw10]
      clear hw10 c0
      have hbw10 : Below w.heap.size w w10 := (hbw5.trans (hb59.mono hbw5.size)).trans (hb910.mono (by omega))
      refine ⟨trivial, rfl, (callsIn_wide.2 (HC.out w10 hbw10)).mono ?_⟩
      rintro e w11 ⟨rfl, hown11, hb1011⟩
      have hv11 := View.ofRow hown11 HL.out
      have s11 := hb1011.size
      clear hown11
      gi_wp2_with fail
      refine ⟨trivial, rfl, (callsIn_wide.2 (HE.out _ w11 hv11)).mono ?_⟩
      rintro e w12 ⟨B, g, cx2, rfl, kB, hvg, hcx, hb1112, hB12, csg, frg, kg⟩
      have hb1012 : Below w10.heap.size w10 w12 := hb1011.trans (hb1112.mono s11)
      have s12 := hb1012.size
      have kk12 := (hb1012.block _ (by omega)).trans kk
      have kp12 := (hb1012.block _ (by omega)).trans kp
      have hb912 : Below w9.heap.size w9 w12 := hb910.trans (hb1012.mono (by omega))
      clear hb1011 hb1112 hv11 kk kp hb910 hb1012 hbw10 l0
      gi_wp2_with fail
      have s9w : w9.heap.size + 2 ≤ w12.heap.size := by omega
      refine wp_tells rfl (enters_of Try.func41 (by kernel_rfl) rfl) (each_tellsK g n cx2 zs w12 w9.heap.size (fun t => t = 47 ∨ t = 91 ∨ t = 24) (fun X hX => view_kept hvg kg (.inr (.inr rfl)) hX.2) HL.out HW.out hr hcx (.inl rfl) (.inr (.inl rfl)) w12 B (Kept.refl _ _ _) (by omega) kB) (by omega) (fun _ => rfl)
        (fun pre W2 => BackI zs w9 w12.heap.size pre W2) (fun _ _ _ => False) ?hI (fun _ _ _ _ _ hs _ _ => hs)
        ⟨⟨hb912, Nat.le_refl _⟩, by simpa using kk12, by simpa [sizeTo_zero] using kp12, by simp⟩
        (fun pre x a' W2 => ∃ Bx, w12.heap.size ≤ Bx ∧ W2.heap[Bx]? = some (.cells #[.int .u16 (opI zs x.1), .slice (some ⟨x.2.1, 0, none⟩) (cntN zs x.1 - 1) x.2.2] 68 (0, 0)) ∧ ToldOk zs w12.heap.size pre x W2 ∧ a' = { tmps := #[Value.slice (some { block := ba, off := offa }) n cap, Value.pointer (some { block := w.heap.size, off := 0 }), Value.pointer (some { block := w.heap.size + 1, off := 0 }), Value.pointer (some { block := w3.heap.size, off := 0 }), Value.pointer (some { block := w3.heap.size + 1, off := 0 }), Value.pointer (some { block := w3.heap.size + 1 + 1, off := 0 }), Value.slice a7 n c7, Value.pointer (some { block := B7, off := 0 }), Value.int IntKind.i64 ↑n, Value.int IntKind.i64 0, Value.pointer (some { block := w9.heap.size, off := 0 }), Value.pointer (some { block := w9.heap.size + 1, off := 0 }), Value.func (Fn.func 41) #[] #[Value.pointer (some { block := B, off := 0 })], .int .i64 x.1, .pointer (some ⟨Bx, 0, none⟩), undef, undef, Value.tuple #[Value.agg #[Value.int IntKind.u32 gen, Value.int IntKind.u32 bound], Value.slice ax m cx, Value.agg #[Value.int IntKind.i64 0, Value.int IntKind.i64 ↑x29]], Value.slice (some { block := ba, off := offa }) n cap, Value.slice (some { block := w1.heap.size, off := 0 }) n n, Value.tuple #[Value.agg #[Value.int IntKind.u32 gen, Value.int IntKind.u32 bound], Value.slice ax m cx, Value.agg #[Value.int IntKind.i64 0, Value.int IntKind.i64 ↑x29]], Value.agg #[Value.int IntKind.u32 gen, Value.int IntKind.u32 bound], Value.slice ax m cx, Value.agg #[Value.int IntKind.i64 0, Value.int IntKind.i64 ↑x29], Value.pointer (some { block := w3.heap.size + 1 + 1, off := 0 }), Value.int IntKind.i64 0, Value.bool false, undef, undef, undef, undef, undef, undef, undef, undef, undef, undef, undef, Value.slice (some { block := ba, off := offa }) n cap, Value.int IntKind.i64 ↑n, Value.bool false, Value.bool false, Value.pointer (some { block := w3.heap.size, off := 0 }), Value.int IntKind.u32 gen, Value.slice (some { block := ba, off := offa }) n cap, Value.pointer (some { block := ba, off := offa + 2 }), Value.int IntKind.u32 gen, Value.bool false, Value.bool false, Value.bool false, Value.pointer (some { block := w3.heap.size, off := 1 }), Value.int IntKind.u32 bound, Value.slice (some { block := ba, off := offa }) n cap, Value.pointer (some { block := ba, off := offa + 3 }), Value.int IntKind.u32 bound, Value.bool false, Value.bool false, Value.tuple #[Value.slice a7 n c7, Value.agg #[Value.int IntKind.i64 0, Value.int IntKind.i64 0]], Value.agg #[Value.int IntKind.u32 gen, Value.int IntKind.u32 bound], Value.slice ax m cx, Value.slice (some { block := g6, off := 0 }) m m, Value.tuple #[Value.slice a7 n c7, Value.agg #[Value.int IntKind.i64 0, Value.int IntKind.i64 0]], Value.slice a7 n c7, Value.agg #[Value.int IntKind.i64 0, Value.int IntKind.i64 0], Value.tuple #[Value.int IntKind.i64 ↑n, Value.int IntKind.i64 0], Value.slice ax m cx, Value.slice (some { block := g7, off := 0 }) m m, Value.tuple #[Value.int IntKind.i64 ↑n, Value.int IntKind.i64 0], Value.int IntKind.i64 ↑n, Value.int IntKind.i64 0, Value.pointer (some { block := B7, off := 0 }), Value.int IntKind.i64 0, Value.bool false, Value.bool false, Value.slice a7 n c7, Value.slice (some { block := ba, off := offa }) n cap, Value.bool true, Value.bool false, Value.bool false, Value.bool false, Value.int IntKind.i64 ↑n, Value.slice (some { block := ba, off := offa }) n cap, Value.int IntKind.i64 ↑n, Value.bool false, Value.bool false, Value.bool false, Value.int IntKind.i64 0, Value.bool false, Value.bool false, Value.slice (some { block := ba, off := offa }) n cap, Value.slice (some { block := w10.heap.size, off := 0 }) n n, Value.func (Fn.func 41) #[] #[Value.pointer (some { block := B, off := 0 })], Value.func (Fn.func 41) #[] #[Value.pointer (some { block := B, off := 0 })], Value.bool false, Value.func (Fn.func 41) #[] #[Value.pointer (some { block := B, off := 0 })], .int .i64 x.1, .agg #[.int .u16 (opI zs x.1), .slice (some ⟨x.2.1, 0, none⟩) (cntN zs x.1 - 1) x.2.2], undef, undef, undef, undef, undef, undef, undef, undef, undef, undef, undef, undef, undef, undef, undef, undef, undef, undef, undef, undef, undef, undef, undef, undef, undef, undef, undef, undef, undef, undef, undef, undef, undef, undef, undef, undef, undef, undef, undef, undef, undef, undef, undef, undef, undef, undef, undef, undef, undef, undef, undef, undef, undef, undef, undef, undef, undef, undef, undef, undef, undef, undef, undef, undef, undef, undef, undef, undef, undef, undef], defers := [] })
        ?hAx ?assign ?body ?done ?stop
      case hI => exact backI_own zs w9 _ (by omega)
      case hAx =>
        rintro pre x a' s W2 W' row ⟨Bx, h1, h2, h3, h4⟩ hg hr
        exact ⟨Bx, h1, cells_stay h2 hg hr, told_stay h3 hg hr, h4⟩
      case assign =>
        rintro l pre x W2 K hI hV hK
        have hbel : ∀ o, Below W2.heap.size W2 (W2.alloc o) := fun o => (Below.refl _ W2).alloc (Nat.le_refl _) o
        have hlt2 := hI.1.2
        simp only [toldV]
        gi_wp2
        exact hK _ _ (KeepsFrom.of_below (hbel _)) (Kept.of_below (hbel _) (by omega)) (OwnFrom.below (backI_own zs w9 _ (by omega)) hI (hbel _)) ⟨W2.heap.size, hlt2, heap_alloc_new W2 _, told_below hV (hbel _), rfl⟩
      case stop =>
        rintro D2 c pre W2 _ _ h _
        exact h.elim
      case done =>
        rintro D xs W2 hD hS ⟨⟨h1, hlt⟩, h2, h3, h4⟩ hK
        have hkm : xs.length = m := by
          have h5 : xs.map (·.1) = rest zs 5 := hS
          rw [← hm, readR_len, ← h5]; simp
        have hsz : sizeTo (readR zs) m = n := by rw [← hm, HMAT.out.2.2.2.1, HL.out]
        rw [hkm] at h2 h3
        rw [hsz] at h3
        have l3 := HL3.out
        obtain ⟨ck, _⟩ := one_cell h2
        obtain ⟨cp, _⟩ := one_cell h3
        obtain ⟨cL, _⟩ := one_cell ((h1.block _ (by omega)).trans ((hb59.block _ (by omega)).trans kL))
        obtain ⟨c0, _⟩ := one_cell ((h1.block _ (by omega)).trans ((hb59.block _ (by omega)).trans k05))
        have kr := (h1.block _ (by omega)).trans ((hb59.block _ (by omega)).trans k15)
        have hbw2 : Below w.heap.size w W2 := (hbw5.trans (hb59.mono hbw5.size)).trans (h1.mono (by omega))
        have HD : Hid (w12.heap.size ≤ D) := by show _ ≤ _; omega
        have HWW : Hid (w.heap.size ≤ w12.heap.size) := by show _ ≤ _; omega
        clear hS h4 hkm hsz h1 h2 h3 hvg kB kg hcx hb912 kk12 kp12 hO5 HC HE HCP HSZ HR hnf hb59 kL kH k05 k15 hbw5 l3 hD hlt
        gi_wp2_with fail
        refine ⟨trivial, rfl, (callsIn_wide.2 (HA.out _)).mono ?_⟩
        rintro e W4 ⟨rfl, hb24⟩
        have kr4 := (hb24.block _ (Array.getElem?_eq_some_iff.1 kr).1).trans kr
        obtain ⟨cr4, fr4⟩ := one_cell kr4
        have hD4 := (hb24.block _ (Array.getElem?_eq_some_iff.1 hK).1).trans hK
        have hbw4 : Below w.heap.size w W4 := hbw2.trans (hb24.mono hbw2.size)
        clear hb24 kr ck cp cL c0 hK hbw2
        obtain ⟨Y, hY⟩ : ∃ Y, Y = W4.setCell ⟨w.heap.size + 1, 0, none⟩ (.bool true) := ⟨_, rfl⟩
        have hDY : Y.heap[D]? = some (.deferred (some [])) := by rw [hY]; exact (KeepsOthers.setCell _ _ _).same D _ hD4 rfl
        have hrY : Y.heap[w.heap.size + 1]? = some (.cells #[.bool true] 4 (0, 0)) := by rw [hY]; exact one_set kr4 _
        have hbY : Below w.heap.size w Y := by rw [hY]; exact hbw4.setCell (by simp) _
        gi_wp2_with fail
        rw [← hY]
        clear hY cr4 fr4 kr4 hD4
        refine ⟨by simp, .inl ⟨_, _, rfl, run_takeDeferred hDY, ?_⟩⟩
        have r0 := cell_kept (W := Y) (one_cell hrY).1 (grownBy_putObj' Y D (.deferred none)) (fun r e => by cases e; exact ⟨_, hDY, rfl⟩)
        exact ⟨.bool true, by simp [results, Try.results6, go_sem, r0], rfl, hbY.trans (belowK_b (w := w) (Nat.le_refl _) Y D _ _ (by have := HD.out; have := HWW.out; omega) hDY rfl rfl)⟩
      case body =>
        rintro l pre ⟨q, g3, cx3⟩ a' W2 hl' ⟨r, hr'⟩ ⟨⟨h1, hlt2⟩, h2, h3, h4⟩ ⟨Bx, hBx, hx, hV, rfl⟩
        obtain ⟨hkm, hkq⟩ := told_next hV
        have hkr : pre.length < (readR zs).length := by rw [readR_len]; exact hkm
        obtain ⟨t1, t2, t3, t4, t5⟩ := told_at zs HW.out HE0.out pre.length hkr
        obtain ⟨fd1, fd2⟩ := find_told zs HW.out HE0.out pre.length hkr
        dsimp only at hx hkq ⊢
        have hq : sizeTo (readR zs) pre.length = q := by rw [← hkq]; exact t1.symm
        have HSX : Hid (sizeTo (readR zs) (pre.length + 1) = q + 1 + (nthR (readR zs) pre.length).2.length) := by show _ = _; rw [sizeTo_succ _ _ hkr, hq]
        have hVo := hV.2
        dsimp only at hVo
        rw [hq] at t2 t3 t4 t5 fd1 fd2 h3
        rw [t3, t4, Nat.add_sub_cancel] at hVo
        rw [t2, t4, Nat.add_sub_cancel] at hx ⊢
        obtain ⟨br, offr, aj, cj, nj, hax, hbr, p1, p2, p3, p4, p5⟩ := (hO5.below (hb59.trans (h1.mono hb59.size))).view pre.length hkr
        subst hax
        rw [p3] at hVo hx HSX ⊢
        have hv3 := View.ofOwn hVo p3
        have ho0 := (HOK.out pre.length hkr).1
        have ho1 := (HOK.out pre.length hkr).2.1
        rw [hm] at hkr
        have l3 := HL3.out
        obtain ⟨c0, _⟩ := one_cell ((h1.block _ (by omega)).trans ((hb59.block _ (by omega)).trans k05))
        obtain ⟨cL, _⟩ := one_cell ((h1.block _ (by omega)).trans ((hb59.block _ (by omega)).trans kL))
        obtain ⟨ck, fk⟩ := one_cell h2
        obtain ⟨cp, fp⟩ := one_cell h3
        obtain ⟨x0, x1, _⟩ := cell_of_two hx
        have HPRE : Hid (pre.map (·.1) ++ [q] <+: rest zs 5) := hV.1
        have HBW : Hid (Below w.heap.size w W2) := (hbw5.trans (hb59.mono hbw5.size)).trans (h1.mono (by omega))
        obtain ⟨_, hqm, hqb⟩ := rest_mem zs 5 q (hV.1.subset (by simp))
        have hqf := cnt_fits hqb
        rw [t4, p3, HL.out] at hqf
        refine back_round _ W2 l _ w.heap.size (w3.heap.size + 1) w9.heap.size (w9.heap.size + 1) Bx g3 nj cx3 br offr m cx q pre.length ba offa n cap cj aj (nthR (readR zs) pre.length).1 rfl rfl rfl rfl rfl rfl rfl c0 cL h2 h3 x0 x1 p1 p2 hkr (by omega) (by have := HMN.out; omega) (by omega) ?hWD ?hCW ?hQ _ (by kernel_rfl)
        case hWD => exact fun w' hb => words_true _ _ nj cx3 cj _ w' (hv3.below hb) (p4.below hb) p3 (by omega)
        case hCW =>
          intro w' hb
          refine (HC.out w' (HBW.out.trans (hb.mono HBW.out.size))).mono ?_
          rintro e w2' ⟨rfl, hown', hb'⟩
          refine ⟨_, rfl, hb', fun w3' hb3 => ?_⟩
          have := findC _ n n zs (nthR (readR zs) pre.length).1 q w3' ((View.ofRow hown' HL.out).below hb3) HL.out HW.out hr (Nat.le_refl _) ho0 ho1 (by omega) (by omega)
          rw [fd1, fd2] at this
          exact this
        case hQ =>
          intro a' W6 hb
          have hbs := hb.size
          have q2 : W6.drew.heap[w9.heap.size]? = some (.cells #[.int .i64 pre.length] 3 (0, 0)) := (hb.block _ (by omega)).trans h2
          have q3 : W6.drew.heap[w9.heap.size + 1]? = some (.cells #[.int .i64 q] 3 (0, 0)) := (hb.block _ (by omega)).trans h3
          have q2' : (W6.drew.setCell ⟨w9.heap.size + 1, 0, none⟩ (.int .i64 ((q : Int) + 1 + nj))).heap[w9.heap.size]? = some (.cells #[.int .i64 pre.length] 3 (0, 0)) := setFar q2 (by omega) _ _
          refine ⟨?_, ⟨?_, ?_⟩, ⟨?_, ?_⟩, ?_, ?_, ?_⟩
          · exact (KeepsFrom.of_below hb.drew).trans (((KeepsOthers.setCell _ _ _).trans (KeepsOthers.setCell _ _ _)).from _)
          · exact ((hb.drew.mono (by omega)).setCell (by simp) _).setCell (by simp) _
          · exact ((KeptT.of_below hb.drew).trans (KeptT.setCell q3 (by rintro (h | h | h) <;> cases h) 0 _)).trans (KeptT.setCell q2' (by rintro (h | h | h) <;> cases h) 0 _)
          · exact ((h1.trans (hb.drew.mono h1.size)).setCell (by simp) _).setCell (by simp) _
          · simpa [World.setCell] using Nat.le_trans hlt2 hbs
          · rw [List.length_append, List.length_singleton]; exact oneSet q2' _
          · rw [List.length_append, List.length_singleton, HSX.out]
            have e : ((q + 1 + nj : Nat) : Int) = (q : Int) + 1 + nj := by omega
            rw [e]
            exact setFar (oneSet q3 _) (by omega) _ _
          · rw [List.map_append]; exact HPRE.out
    clear hK6
    have HWR : Hid (∀ b wx, RawsV wx (some ⟨b, 0, none⟩) (readR zs) → Calls Try.prog 18 #[.agg #[.int .u32 gen, .int .u32 bound], .slice (some ⟨b, 0, none⟩) m m] wx fun e w' => Below wx.heap.size wx w' ∧ ∃ a7 c7, e = .returned (.tuple #[.slice a7 n c7, .agg #[.int .i64 0, .int .i64 0]]) ∧ w'.ownsRow wx.heap.size 24 1 (.slice a7 n c7) n (zs.map (Value.int .u32))) := HWR0
    have LH : Hid (∀ w', Below w5.heap.size w5 w' → w'.cell? ⟨w3.heap.size, 0, none⟩ = some (.int .u32 gen) ∧ w'.cell? ⟨w3.heap.size, 1, none⟩ = some (.int .u32 bound)) := fun w' hC => by
      obtain ⟨x0, x1, _⟩ := cell_of_two ((hC.block _ (by omega)).trans kH)
      exact ⟨x0, x1⟩
    have LL : Hid (∀ w', Below w5.heap.size w5 w' → w'.cell? ⟨w3.heap.size + 1, 0, none⟩ = some (.slice ax m cx)) := fun w' hC => (one_cell ((hC.block _ (by omega)).trans kL)).1
    have hC0 : Below w5.heap.size w5 w5.drew := (Below.refl _ w5).drew
    have HS5 : Hid (w3.heap.size + 3 ≤ w5.heap.size) := s5
    clear kL kH k05 k15 hO5 hbw5 s5 l3
    refine Code.wpIn_mono (Q := Exit.then K6 (fun _ _ _ => False)) (fun e a w h => by cases e <;> first | exact h | exact h.elim) ?_
    refine wpIn_region_any hmix (wpAnyC_sound (C := fun w' => Below w5.heap.size w5 w') _ _ _ _ ?_)
    change wpAnyC _ _ _ _ _ _ _ _ _ _ (World.drew _)
    refine wpAnyC_takeD (i := 0) (some 58) (v := .agg #[.int .u32 gen, .int .u32 bound]) (fun _ => trivial) (by kernel_rfl) rfl rfl (by kernel_rfl) (by kernel_rfl) (by kernel_rfl) (fun _ _ _ h => h) hC0 (Or.inl ⟨by kernel_rfl, fun w' hC => by obtain ⟨e, e'⟩ := LH.out w' hC ; clear hC; go_simp⟩) ?_
    simp only [Act.put, List.setIfInBounds_toArray, List.set_cons_succ, List.set_cons_zero]
    refine wpAnyC_takeD (i := 1) (some 59) (v := .slice ax m cx) (fun _ => trivial) (by kernel_rfl) rfl rfl (by kernel_rfl) (by kernel_rfl) (by kernel_rfl) (fun _ _ _ h => h) hC0 (Or.inl ⟨by kernel_rfl, fun w' hC => by obtain e := LL.out w' hC ; clear hC; go_simp⟩) ?_
    simp only [Act.put, List.setIfInBounds_toArray, List.set_cons_succ, List.set_cons_zero]
    refine wpAnyC_ready (rs := [2, 7]) (by kernel_rfl) (by simp) ?_
    refine AllC.cons rfl (fun K hK => ?_) ?_
    · go_simp
      refine ⟨trivial, rfl, (callsIn_wide.2 (HCP.out _ hC0)).mono ?_⟩
      rintro e wc ⟨g6, rfl, hP, hbc⟩
      dsimp only
      have hCc : Below w5.heap.size w5 wc := Below.trans hC0 (hbc.mono (Below.size hC0))
      refine hK _ _ hCc ?_
      clear hK K
      refine wpAnyC_ready (rs := [3, 7]) (by kernel_rfl) (by simp) ?_
      refine AllC.cons rfl (fun K hK => ?_) ?_
      · go_simp
        refine ⟨trivial, rfl, (callsIn_wide.2 (HWR.out _ _ hP)).mono ?_⟩
        rintro e wd ⟨hbd, a7, c7, rfl, hown⟩
        dsimp only
        have hCd : Below w5.heap.size w5 wd := Below.trans hCc (hbd.mono (Below.size hCc))
        refine hK _ _ hCd ?_
        clear hK K
        refine wpAnyC_takeD (i := 4) (some 57) (v := .tuple #[.slice a7 n c7, .agg #[.int .i64 0, .int .i64 0]]) (fun _ => trivial) (by kernel_rfl) rfl rfl (by kernel_rfl) (by kernel_rfl) (by kernel_rfl) (fun _ _ _ h => h) hCd (Or.inl ⟨by kernel_rfl, fun w' _ => by go_simp⟩) ?_
        simp only [Act.put, List.setIfInBounds_toArray, List.set_cons_succ, List.set_cons_zero]
        refine wpAnyC_takeD (i := 5) (some 62) (v := .slice a7 n c7) (fun _ => trivial) (by kernel_rfl) rfl rfl (by kernel_rfl) (by kernel_rfl) (by kernel_rfl) (fun _ _ _ h => h) hCd (Or.inl ⟨by kernel_rfl, fun w' _ => by go_simp⟩) ?_
        simp only [Act.put, List.setIfInBounds_toArray, List.set_cons_succ, List.set_cons_zero]
        refine wpAnyC_takeD (i := 6) (some 63) (v := .agg #[.int .i64 0, .int .i64 0]) (fun _ => trivial) (by kernel_rfl) rfl rfl (by kernel_rfl) (by kernel_rfl) (by kernel_rfl) (fun _ _ _ h => h) hCd (Or.inl ⟨by kernel_rfl, fun w' _ => by go_simp⟩) ?_
        simp only [Act.put, List.setIfInBounds_toArray, List.set_cons_succ, List.set_cons_zero]
        refine wpAnyC_ready (rs := [7]) (by kernel_rfl) (by simp) ?_
        refine AllC.cons rfl (fun K hK => ?_) ?_
        · go_simp
          refine hK _ _ (Below.alloc hCd hCd.size _) ?_
          clear hK K
          refine wpAnyC_takeD (i := 8) (some 6) (v := .slice a7 n c7) (fun _ => trivial) (by kernel_rfl) rfl rfl (by kernel_rfl) (by kernel_rfl) (by kernel_rfl) (fun _ _ _ h => h) (Below.alloc hCd hCd.size _) (Or.inl ⟨by kernel_rfl, fun w' _ => by go_simp⟩) ?_
          simp only [Act.put, List.setIfInBounds_toArray, List.set_cons_succ, List.set_cons_zero]
          refine wpAnyC_ready (rs := [9]) (by kernel_rfl) (by simp) ?_
          refine AllC.cons rfl (fun K hK => ?_) ?_
          · go_simp
            refine hK _ _ (Below.alloc hCd hCd.size _) ?_
            clear hK K
            refine wpAnyC_done (by kernel_rfl) ?_ _
            exact KEY6.out wd.heap.size g6 c7 a7 _ (Below.alloc hCd hCd.size _) (heap_alloc_new wd _) ((View.ofOwn hown HL.out).below ((Below.refl _ wd).alloc (Nat.le_refl _) _))
          exact AllC.nil
        exact AllC.nil
      refine AllC.cons rfl (fun K hK => ?_) ?_
      · go_simp
        refine hK _ _ (Below.alloc hCc hCc.size _) ?_
        clear hK K
        refine wpAnyC_ready (rs := [3]) (by kernel_rfl) (by simp) ?_
        refine AllC.cons rfl (fun K hK => ?_) ?_
        · go_simp
          refine ⟨trivial, rfl, (callsIn_wide.2 (HWR.out _ _ (hP.below ((Below.refl _ wc).alloc (Nat.le_refl _) _)))).mono ?_⟩
          rintro e wd ⟨hbd, a7, c7, rfl, hown⟩
          dsimp only
          have hCd : Below w5.heap.size w5 wd := Below.trans (Below.alloc hCc hCc.size _) (hbd.mono (Below.size (Below.alloc hCc hCc.size _)))
          refine hK _ _ hCd ?_
          clear hK K
          have s1 : wd.heap[wc.heap.size]? = some (.cells #[.int .i64 0, .int .i64 0] 53 (0, 0)) := (hbd.block _ (by simp)).trans (heap_alloc_new wc _)
          refine wpAnyC_takeD (i := 4) (some 57) (v := .tuple #[.slice a7 n c7, .agg #[.int .i64 0, .int .i64 0]]) (fun _ => trivial) (by kernel_rfl) rfl rfl (by kernel_rfl) (by kernel_rfl) (by kernel_rfl) (fun _ _ _ h => h) hCd (Or.inl ⟨by kernel_rfl, fun w' _ => by go_simp⟩) ?_
          simp only [Act.put, List.setIfInBounds_toArray, List.set_cons_succ, List.set_cons_zero]
          refine wpAnyC_takeD (i := 5) (some 62) (v := .slice a7 n c7) (fun _ => trivial) (by kernel_rfl) rfl rfl (by kernel_rfl) (by kernel_rfl) (by kernel_rfl) (fun _ _ _ h => h) hCd (Or.inl ⟨by kernel_rfl, fun w' _ => by go_simp⟩) ?_
          simp only [Act.put, List.setIfInBounds_toArray, List.set_cons_succ, List.set_cons_zero]
          refine wpAnyC_takeD (i := 6) (some 63) (v := .agg #[.int .i64 0, .int .i64 0]) (fun _ => trivial) (by kernel_rfl) rfl rfl (by kernel_rfl) (by kernel_rfl) (by kernel_rfl) (fun _ _ _ h => h) hCd (Or.inl ⟨by kernel_rfl, fun w' _ => by go_simp⟩) ?_
          simp only [Act.put, List.setIfInBounds_toArray, List.set_cons_succ, List.set_cons_zero]
          refine wpAnyC_takeD (i := 8) (some 6) (v := .slice a7 n c7) (fun _ => trivial) (by kernel_rfl) rfl rfl (by kernel_rfl) (by kernel_rfl) (by kernel_rfl) (fun _ _ _ h => h) hCd (Or.inl ⟨by kernel_rfl, fun w' _ => by go_simp⟩) ?_
          simp only [Act.put, List.setIfInBounds_toArray, List.set_cons_succ, List.set_cons_zero]
          obtain ⟨t0, t1, t2⟩ := cell_of_two s1
          have t3 : wd.frozen? ⟨wc.heap.size, 0, none⟩ = false := by simp [World.frozen?, s1]
          have hlo : wc.heap.size < (wc.alloc (.cells #[.int .i64 0, .int .i64 0] 53)).heap.size := by simp
          have hge : w5.heap.size ≤ wc.heap.size := hCc.size
          refine wpAnyC_ready (rs := [9]) (by kernel_rfl) (by simp) ?_
          refine AllC.cons rfl (fun K hK => ?_) ?_
          · go_simp
            refine hK _ _ ((hCd.setCell hge _).setCell hge _) ?_
            clear hK K
            refine wpAnyC_done (by kernel_rfl) ?_ _
            exact KEY6.out wc.heap.size g6 c7 a7 _ ((hCd.setCell hge _).setCell hge _) (two_set s1 _ _) (View.ofOwn (ownsRow_setCell_below (ownsRow_setCell_below hown hlo _) hlo _) HL.out)
          exact AllC.nil
        exact AllC.nil
      exact AllC.nil
    refine AllC.cons rfl (fun K hK => ?_) ?_
    · go_simp
      have hC1 : Below w5.heap.size w5 (w5.drew.alloc (.cells #[.int .i64 0, .int .i64 0] 53)) := Below.alloc hC0 hC0.size _
      refine hK _ _ hC1 ?_
      clear hK K
      refine wpAnyC_ready (rs := [2]) (by kernel_rfl) (by simp) ?_
      refine AllC.cons rfl (fun K hK => ?_) ?_
      · go_simp
        refine ⟨trivial, rfl, (callsIn_wide.2 (HCP.out _ hC1)).mono ?_⟩
        rintro e wc ⟨g6, rfl, hP, hbc⟩
        dsimp only
        have hCc : Below w5.heap.size w5 wc := Below.trans hC1 (hbc.mono (Below.size hC1))
        refine hK _ _ hCc ?_
        clear hK K
        have s0 : wc.heap[w5.heap.size]? = some (.cells #[.int .i64 0, .int .i64 0] 53 (0, 0)) := (hbc.block w5.heap.size (by simp)).trans (heap_alloc_new w5.drew _)
        refine wpAnyC_ready (rs := [3]) (by kernel_rfl) (by simp) ?_
        refine AllC.cons rfl (fun K hK => ?_) ?_
        · go_simp
          refine ⟨trivial, rfl, (callsIn_wide.2 (HWR.out _ _ (hP))).mono ?_⟩
          rintro e wd ⟨hbd, a7, c7, rfl, hown⟩
          dsimp only
          have hCd : Below w5.heap.size w5 wd := Below.trans hCc (hbd.mono (Below.size hCc))
          refine hK _ _ hCd ?_
          clear hK K
          have s1 : wd.heap[w5.heap.size]? = some (.cells #[.int .i64 0, .int .i64 0] 53 (0, 0)) := (hbd.block _ (Array.getElem?_eq_some_iff.1 s0).1).trans s0
          refine wpAnyC_takeD (i := 4) (some 57) (v := .tuple #[.slice a7 n c7, .agg #[.int .i64 0, .int .i64 0]]) (fun _ => trivial) (by kernel_rfl) rfl rfl (by kernel_rfl) (by kernel_rfl) (by kernel_rfl) (fun _ _ _ h => h) hCd (Or.inl ⟨by kernel_rfl, fun w' _ => by go_simp⟩) ?_
          simp only [Act.put, List.setIfInBounds_toArray, List.set_cons_succ, List.set_cons_zero]
          refine wpAnyC_takeD (i := 5) (some 62) (v := .slice a7 n c7) (fun _ => trivial) (by kernel_rfl) rfl rfl (by kernel_rfl) (by kernel_rfl) (by kernel_rfl) (fun _ _ _ h => h) hCd (Or.inl ⟨by kernel_rfl, fun w' _ => by go_simp⟩) ?_
          simp only [Act.put, List.setIfInBounds_toArray, List.set_cons_succ, List.set_cons_zero]
          refine wpAnyC_takeD (i := 6) (some 63) (v := .agg #[.int .i64 0, .int .i64 0]) (fun _ => trivial) (by kernel_rfl) rfl rfl (by kernel_rfl) (by kernel_rfl) (by kernel_rfl) (fun _ _ _ h => h) hCd (Or.inl ⟨by kernel_rfl, fun w' _ => by go_simp⟩) ?_
          simp only [Act.put, List.setIfInBounds_toArray, List.set_cons_succ, List.set_cons_zero]
          refine wpAnyC_takeD (i := 8) (some 6) (v := .slice a7 n c7) (fun _ => trivial) (by kernel_rfl) rfl rfl (by kernel_rfl) (by kernel_rfl) (by kernel_rfl) (fun _ _ _ h => h) hCd (Or.inl ⟨by kernel_rfl, fun w' _ => by go_simp⟩) ?_
          simp only [Act.put, List.setIfInBounds_toArray, List.set_cons_succ, List.set_cons_zero]
          obtain ⟨t0, t1, t2⟩ := cell_of_two s1
          have t3 : wd.frozen? ⟨w5.heap.size, 0, none⟩ = false := by simp [World.frozen?, s1]
          have hlo : w5.heap.size < wc.heap.size := (Array.getElem?_eq_some_iff.1 s0).1
          have hge : w5.heap.size ≤ w5.heap.size := Nat.le_refl _
          refine wpAnyC_ready (rs := [9]) (by kernel_rfl) (by simp) ?_
          refine AllC.cons rfl (fun K hK => ?_) ?_
          · go_simp
            refine hK _ _ ((hCd.setCell hge _).setCell hge _) ?_
            clear hK K
            refine wpAnyC_done (by kernel_rfl) ?_ _
            exact KEY6.out w5.heap.size g6 c7 a7 _ ((hCd.setCell hge _).setCell hge _) (two_set s1 _ _) (View.ofOwn (ownsRow_setCell_below (ownsRow_setCell_below hown hlo _) hlo _) HL.out)
          exact AllC.nil
        exact AllC.nil
      exact AllC.nil
    exact AllC.nil
  · have r2 : readAt zs 2 = 0 := by unfold readAt; rw [if_neg hE]
    have r3 : readAt zs 3 = 0 := by unfold readAt; rw [if_neg hE]
    have r4 : readL zs = [] := by unfold readL; rw [if_neg hE]
    obtain rfl : m = 0 := by rw [← hm, r4]; rfl
    rw [r2, r3]
    have hEb : ((readE zs).1 == 0) = false := by simpa using hE
    clear r2 r3 r4 hm hO hE
    generalize (readE zs).1 = x28 at *
    generalize (readE zs).2 = x29 at *
    gi_wp2_with fail
    generalize hw4 : (((w3.alloc _).alloc _).alloc _) = w4
    have hb34 : Below w3.heap.size w3 w4 := by rw [← hw4]; exact (((Below.refl _ w3).alloc (Nat.le_refl _) _).alloc (by simp) _).alloc (by simp; omega) _
    clear hw4
    refine ⟨trivial, rfl, (callsIn_wide.2 (HA.out w4)).mono ?_⟩
    rintro e w5 ⟨rfl, hb45⟩
    have k05 := (((hb34.trans (hb45.mono hb34.size)).block _ (by omega)).trans k13)
    obtain ⟨c1, c2⟩ := one_cell k05
    have n1 := one_set k05 (.bool true)
    have r0 := (one_cell n1).1
    have hbY : Below w.heap.size w (w5.setCell ⟨w.heap.size + 1, 0, none⟩ (.bool true)) := (hbw3.trans ((hb34.trans (hb45.mono hb34.size)).mono (by omega))).setCell (by simp) _
    gi_wp2_with fail
    exact ⟨.bool true, by simp [results, Try.results6, go_sem, r0], rfl, hbY⟩
end Go.Proofs.Ytjpbiakbjpiceab
