/-
  told of the laws of layer 14: both graphs say the same.
-/
import Derived.WalkSpells
import Derived.WalkMore
import Derived.OwnWalk
import Derived.Test.YtpdjmapmpicgjaaProg
import Derived.Test.YtpdjmapmpicgjaaBoxes
import Derived.Test.YtpdjmapmpicgjaaGraphAsks
import Derived.Test.YtpdjmapmpicgjaaRef14All
import Derived.Test.YtpdjmapmpicgjaaLaw14Both
import Derived.Test.YtpdjmapmpicgjaaKitInts
import Derived.Test.YtpdjmapmpicgjaaKitSpoilInts
namespace Go.Proofs.Ytpdjmapmpicgjaa
open Go.RowKit
set_option linter.unusedVariables false
set_option linter.unusedSimpArgs false
set_option maxRecDepth 10000

/-- Both graphs answer the same, from the world w on. -/
structure Both (w : World) (gp wp : Option Addr) (L : Nat) (nx ah : Int → List Int) (re : Int → Bool) (od : List Int) : Prop where
  nils : (gp = none ∧ wp = none) ∨ ((∃ p, gp = some p) ∧ ∃ q, wp = some q)
  few : L ≤ 4096
  nxl : ∀ i, (nx i).length ≤ 4096
  ahl : ∀ i, (ah i).length ≤ 4096
  odl : od.length ≤ 4096
  len : ∀ wx, Below w.heap.size w wx → Calls Try.prog 23 #[.pointer gp] wx fun e w' => e = .returned (.int .i64 L) ∧ wx = w'
  rlen : ∀ wx, Below w.heap.size w wx → Calls Try.prog 32 #[.pointer wp] wx fun e w' => e = .returned (.int .i64 L) ∧ wx = w'
  next : ∀ i wx, Below w.heap.size w wx → Calls Try.prog 24 #[.pointer gp, .int .i64 i] wx fun e w' => AnsI wx w' e (nx i)
  rnext : ∀ i wx, Below w.heap.size w wx → Calls Try.prog 33 #[.pointer wp, .int .i64 i] wx fun e w' => AnsI wx w' e (nx i)
  ahead : ∀ i wx, Below w.heap.size w wx → Calls Try.prog 25 #[.pointer gp, .int .i64 i] wx fun e w' => AnsI wx w' e (ah i)
  rahead : ∀ i wx, Below w.heap.size w wx → Calls Try.prog 34 #[.pointer wp, .int .i64 i] wx fun e w' => AnsI wx w' e (ah i)
  reached : ∀ i wx, Below w.heap.size w wx → Calls Try.prog 26 #[.pointer gp, .int .i64 i] wx fun e w' => e = .returned (.bool (re i)) ∧ wx = w'
  rreached : ∀ i wx, Below w.heap.size w wx → Calls Try.prog 35 #[.pointer wp, .int .i64 i] wx fun e w' => e = .returned (.bool (re i)) ∧ Below wx.heap.size wx w'
  order : ∀ wx, Below w.heap.size w wx → Calls Try.prog 27 #[.pointer gp] wx fun e w' => AnsI wx w' e od
  rorder : ∀ wx, Below w.heap.size w wx → Calls Try.prog 36 #[.pointer wp] wx fun e w' => AnsI wx w' e od

theorem refNext14_nil (i : Int) (w : World) (hi : Lit.wf (.int .i64 i) = true ∨ True) : Calls Try.prog 33 #[.pointer none, .int .i64 i] w fun e w' => AnsI w w' e [] := by
  have hL := refLen14_nil w
  have hcase : decide (i < 0) = true ∨ (decide (i < 0) = false ∧ decide ((0 : Int) ≤ i) = true) := by
    by_cases h : i < 0
    · exact .inl (decide_eq_true h)
    · exact .inr ⟨decide_eq_false h, decide_eq_true (by omega)⟩
  rcases hcase with hc1 | ⟨hc1, hc2⟩
  · clear hL
    go_enter Try.func33, Try.ntmps33
    go_wp2_with fail
    go_ret
    exact ansI_nil w
  · go_enter Try.func33, Try.ntmps33
    go_wp2_with fail
    refine hL.mono ?_
    rintro e w1 ⟨rfl, rfl⟩
    go_wp2_with fail
    go_ret
    exact ansI_nil w
theorem refReached14_nil (i : Int) (w : World) : Calls Try.prog 35 #[.pointer none, .int .i64 i] w fun e w' => e = .returned (.bool false) ∧ Below w.heap.size w w' := by
  have hL := refLen14_nil w
  have hcase : decide (i < 0) = true ∨ (decide (i < 0) = false ∧ decide ((0 : Int) ≤ i) = true) := by
    by_cases h : i < 0
    · exact .inl (decide_eq_true h)
    · exact .inr ⟨decide_eq_false h, decide_eq_true (by omega)⟩
  rcases hcase with hc1 | ⟨hc1, hc2⟩
  · clear hL
    go_enter Try.func35, Try.ntmps35
    go_wp2_with fail
    go_ret
    exact ⟨rfl, Below.refl _ _⟩
  · go_enter Try.func35, Try.ntmps35
    go_wp2_with fail
    refine hL.mono ?_
    rintro e w1 ⟨rfl, rfl⟩
    go_wp2_with fail
    go_ret
    exact ⟨rfl, Below.refl _ _⟩
theorem refAhead14_nil (i : Int) (w : World) : Calls Try.prog 34 #[.pointer none, .int .i64 i] w fun e w' => AnsI w w' e [] := by
  have hL := refLen14_nil w
  go_enter Try.func34, Try.ntmps34
  go_wp2_with fail
  go_loopw [5, 6] (fun v k wr => v = .slice none 0 0 ∧ k = .int .i64 0 ∧ wr = w) (fun _ _ _ => 0)
  case atStart => exact ⟨rfl, rfl, rfl⟩
  case round =>
    obtain ⟨rfl, rfl, rfl⟩ := hrel
    go_wp2_with fail
    refine hL.mono ?_
    rintro e w1 ⟨rfl, rfl⟩
    go_wp2_with fail
    go_ret
    exact ansI_nil _
theorem refOrder14_nil (w : World) : Calls Try.prog 36 #[.pointer none] w fun e w' => AnsI w w' e [] := by
  have hL := refLen14_nil (w.alloc (.cells #[.slice none 0 0, .slice none 0 0] 64))
  have hb : Below w.heap.size w (w.alloc (.cells #[.slice none 0 0, .slice none 0 0] 64)) := (Below.refl _ _).alloc (Nat.le_refl _) _
  have HB := hide hb
  obtain ⟨_, c0, _⟩ := twoCells (allocNew w (.cells #[.slice none 0 0, .slice none 0 0] 64) rfl)
  clear hb
  go_enter Try.func36, Try.ntmps36
  go_wp2_with fail
  refine hL.mono ?_
  rintro e w1 ⟨rfl, rfl⟩
  clear hL
  go_wp2_with fail
  go_loopw [4, 5] (fun v k wr => v = .slice none 0 0 ∧ k = .int .i64 (-1) ∧ wr = (w.alloc (.cells #[.slice none 0 0, .slice none 0 0] 64))) (fun _ _ _ => 0)
  case atStart => exact ⟨rfl, rfl, rfl⟩
  case round =>
    obtain ⟨rfl, rfl, rfl⟩ := hrel
    go_wp2_with fail
    go_ret
    exact ⟨_, rfl, World.ownsRow_nil _ _ _ _, HB.out⟩

theorem both_of (w : World) (lo lo2 : Nat) (N : List (List Int)) (gp wp : Option Addr) (er : Int) (hE : OfE N er) (hg : er = 0 → ∃ p, gp = some ⟨p, 0, none⟩ ∧ GrV w lo p (N.map onceF)) (hn : er ≠ 0 → gp = none) (hg2 : er = 0 → ∃ p, wp = some ⟨p, 0, none⟩ ∧ RfG w p lo2 (N.map onceF)) (hn2 : er ≠ 0 → wp = none) :
    ∃ L nx ah re od, Both w gp wp L nx ah re od := by
  by_cases e : er = 0
  · obtain ⟨p, rfl, hG⟩ := hg e
    obtain ⟨q, rfl, hR⟩ := hg2 e
    generalize N.map onceF = M at *
    have hQ := walkF_all M hG.edges hG.some_
    refine ⟨M.length, nextL M, aheadL M, reachB M, (walkF M).2.reverse, .inr ⟨⟨_, rfl⟩, _, rfl⟩, hG.few, fun i => ?_, fun i => ?_, ?_, fun wx hb => graphLen_any wx _ p M (hG.below hb), fun wx hb => refLen14_any wx q lo2 M (hR.below hb), fun i wx hb => graphNext_any i wx _ p M (hG.below hb), fun i wx hb => refNext14_any i wx q lo2 M (hR.below hb), fun i wx hb => graphAhead_any i wx _ p M (hG.below hb), fun i wx hb => refAhead14_any i wx q lo2 M (hR.below hb), fun i wx hb => graphReached_any i wx _ p M (hG.below hb), fun i wx hb => refReached14_any i wx q lo2 M (hR.below hb), fun wx hb => graphOrder_any wx _ p M (hG.below hb), fun wx hb => refOrder14_any wx q lo2 M (hR.below hb)⟩
    · unfold nextL; split
      · exact hG.rows _
      · simp
    · unfold aheadL; split
      · exact Nat.le_trans (aheadT_len _ _ _) hG.few
      · simp
    · rw [List.length_reverse, hQ.perm.length_eq]; exact Nat.le_trans hQ.good.len hG.few
  · rw [hn e, hn2 e]
    refine ⟨0, fun _ => [], fun _ => [], fun _ => false, [], .inl ⟨rfl, rfl⟩, by omega, fun i => by simp, fun i => by simp, by simp, fun wx hb => graphLen_nil wx, fun wx hb => refLen14_nil wx, fun i wx hb => ?_, fun i wx hb => refNext14_nil i wx (.inr trivial), fun i wx hb => ?_, fun i wx hb => refAhead14_nil i wx, fun i wx hb => graphReached_nil i wx, fun i wx hb => refReached14_nil i wx, fun wx hb => ?_, fun wx hb => refOrder14_nil wx⟩
    · refine (graphNext_nil i wx).mono ?_
      rintro e w' ⟨rfl, rfl⟩
      exact ansI_nil _
    · refine (graphAhead_nil i wx).mono ?_
      rintro e w' ⟨rfl, rfl⟩
      exact ansI_nil _
    · refine (graphOrder_nil wx).mono ?_
      rintro e w' ⟨rfl, rfl⟩
      exact ansI_nil _

/-- told: both say the same. -/
theorem growT {w wx w' : World} (h : Below w.heap.size w wx) (hb : Below wx.heap.size wx w') : Below w.heap.size w w' := h.trans (hb.mono h.size)
theorem drewT {w wx : World} (h : Below w.heap.size w wx) (q : Nat) : Below w.heap.size w (wx.drewN q) := by
  induction q generalizing wx with
  | zero => exact h
  | succ q ih => exact (ih h).drew

set_option maxHeartbeats 16000000 in
theorem told14_any (w : World) (gp wp : Option Addr) (L : Nat) (nx ah : Int → List Int) (re : Int → Bool) (od : List Int) (h : Both w gp wp L nx ah re od) : Calls Try.prog 13 #[.pointer gp, .pointer wp] w fun e w' => e = .returned (.bool true) ∧ Below w.heap.size w w' := by
  have HH := hide h
  have hli : (L : Int) ≤ 4096 := by have := h.few; omega
  have hnil := h.nils
  clear h
  have key : ((∃ p, gp = some p) ∧ ∃ q, wp = some q) ∨ (gp = none ∧ wp = none) := hnil.symm
  clear hnil
  have hl0 := HH.out.len w (Below.refl _ _)
  have hr0 := HH.out.rlen w (Below.refl _ _)
  rcases key with ⟨⟨p, rfl⟩, q, rfl⟩ | ⟨rfl, rfl⟩
  all_goals
    go_enter Try.func13, Try.ntmps13
    go_wp2_with fail
    refine hl0.mono ?_
    rintro e w1 ⟨rfl, rfl⟩
    clear hl0
    go_wp2_with fail
    refine hr0.mono ?_
    rintro e w1 ⟨rfl, rfl⟩
    clear hr0
    go_wp2_with fail
    go_loopw [5] (fun i wr => ∃ k : Nat, k ≤ L + 2 ∧ i = .int .i64 ((k : Int) - 1) ∧ Below w.heap.size w wr) (fun i _ => L + 2 - ((intOf i) + 1).toNat)
    case atStart => exact ⟨0, by omega, rfl, Below.refl _ _⟩
    case round =>
      obtain ⟨k, hk, rfl, hB⟩ := hrel
      rename World => u0
      have HB0 := hide hB
      have hr0 := HH.out.rlen u0 hB
      clear hB
      by_cases hlt : k < L + 2
      · have hle : ((k : Int) - 1) ≤ (L : Int) := by omega
        have HLT := hide hlt
        have hkb : (k : Int) ≤ 5000 := by omega
        clear hlt hk
        have hld : decide (((k : Int) - 1) ≤ (L : Int)) = true := decide_eq_true hle
        have hkk : IntKind.i64.wrap ((k : Int) - 1 + 1) = (k : Int) := by rw [IntKind.wrap_i64] <;> omega
        generalize hii : ((k : Int) - 1) = i at *
        have HII := hide hii
        have hxl := HH.out.nxl i
        have hyl := HH.out.ahl i
        clear hii
        go_wp2_with fail
        refine hr0.mono ?_
        rintro e w1 ⟨rfl, rfl⟩
        clear hr0
        go_wp2_with fail
        refine (HH.out.next i u0 HB0.out).mono ?_
        rintro e u1 ⟨vx, rfl, hox, hb1⟩
        obtain ⟨xa, xc, rfl, hvx, _⟩ := View.ofOwned hox
        have HB1 := hide (HB0.out.trans (hb1.mono HB0.out.size))
        go_wp2_with fail
        refine (HH.out.ahead i u1 HB1.out).mono ?_
        rintro e u2 ⟨vy, rfl, hoy, hb2⟩
        obtain ⟨ya, yc, rfl, hvy, _⟩ := View.ofOwned hoy
        have HB2 := hide (HB1.out.trans (hb2.mono HB1.out.size))
        go_wp2_with fail
        refine (HH.out.rnext i u2 HB2.out).mono ?_
        rintro e u3 ⟨vz, rfl, hoz, hb3⟩
        obtain ⟨za, zc, rfl, hvz, _⟩ := View.ofOwned hoz
        have HB3 := hide (HB2.out.trans (hb3.mono HB2.out.size))
        have HOX1 := hide hox
        have HVX := hide (hvx.below (hb2.trans (hb3.mono hb2.size)))
        have HOX := hide (own_below (own_below hox hb2) hb3)
        have HVY := hide (hvy.below hb3)
        have HOY := hide (own_below hoy hb3)
        have HVZ := hide hvz
        have HS1 := hide hb1.size
        have HS2 := hide hb2.size
        have HS3 := hide hb3.size
        clear hox hoy hoz hvx hvy hvz hb1 hb2 hb3
        go_wp2_with fail
        refine (ints_true xa za _ xc zc (nx i) u3 HVX.out HVZ.out rfl (by have := HH.out.nxl i; omega)).mono ?_
        rintro e w4 ⟨rfl, q1, rfl⟩
        have HQ1 := hide (drewT (Below.refl u3.heap.size u3) q1)
        have HB4 := hide (growT HB3.out HQ1.out)
        generalize u3.drewN q1 = u4 at *
        go_wp2_with fail
        refine (HH.out.rahead i u4 HB4.out).mono ?_
        rintro e u5 ⟨vt, rfl, hot, hb5⟩
        obtain ⟨ta, tc, rfl, hvt, _⟩ := View.ofOwned hot
        have HB5 := hide (HB4.out.trans (hb5.mono HB4.out.size))
        have hw35 := growT HQ1.out hb5
        have HVY5 := hide (HVY.out.below hw35)
        have HVT := hide hvt
        have HW35 := hide hw35
        clear hot hvt hb5 hw35
        go_wp2_with fail
        refine (ints_true ya ta _ yc tc (ah i) u5 HVY5.out HVT.out rfl (by have := HH.out.ahl i; omega)).mono ?_
        rintro e w6 ⟨rfl, q2, rfl⟩
        have HQ2 := hide (growT HW35.out (drewT (Below.refl u5.heap.size u5) q2))
        have HB6 := hide (growT HB5.out (drewT (Below.refl u5.heap.size u5) q2))
        generalize u5.drewN q2 = u6 at *
        go_wp2_with fail
        refine (HH.out.reached i u6 HB6.out).mono ?_
        rintro e w7 ⟨rfl, rfl⟩
        go_wp2_with fail
        refine (HH.out.rreached i u6 HB6.out).mono ?_
        rintro e u7 ⟨rfl, hb7⟩
        have HQ3 := hide (growT HQ2.out hb7)
        have HB7 := hide (growT HB6.out hb7)
        clear hb7
        generalize re i = rb at *
        go_wp2_with fail
        have HOX7 := hide (own_below HOX.out HQ3.out)
        have HOY7 := hide (own_below HOY.out HQ3.out)
        refine (spoilI_own _ _ _ (nx i) u7 HOX7.out rfl (by have := HH.out.nxl i; omega)).mono ?_
        rintro e u8 ⟨rfl, hg8, _⟩
        have HB8 := hide (HB7.out.grown hg8 HB7.out.size (fun j e => by have := (World.ownsRow.lt HOX7.out j e).1; have := HB0.out.size; omega))
        have hap : ∀ g, (Value.slice xa (nx i).length xc).ownBlock = some g → (Value.slice ya (ah i).length yc).ownBlock ≠ some g := fun g e e2 => by
          have h1 := (World.ownsRow.lt HOX1.out g e).2
          have h2 := (World.ownsRow.lt HOY7.out g e2).1
          omega
        have HOY8 := hide (own_grown HOY7.out hg8 hap)
        clear hg8 hap
        go_wp2_with fail
        refine (spoilI_own _ _ _ (ah i) u8 HOY8.out rfl (by have := HH.out.ahl i; omega)).mono ?_
        rintro e u9 ⟨rfl, hg9, _⟩
        have HB9 := hide (HB8.out.grown hg9 HB8.out.size (fun j e => by have := (World.ownsRow.lt HOY8.out j e).1; have := HB1.out.size; omega))
        clear hg9
        go_wp2_with fail
        refine (HH.out.next i u9 HB9.out).mono ?_
        rintro e u10 ⟨vm, rfl, hom, hb10⟩
        obtain ⟨ma, mc, rfl, hvm, _⟩ := View.ofOwned hom
        have HB10 := hide (HB9.out.trans (hb10.mono HB9.out.size))
        go_wp2_with fail
        refine (HH.out.rnext i u10 HB10.out).mono ?_
        rintro e u11 ⟨vn, rfl, hon, hb11⟩
        obtain ⟨na, nc, rfl, hvn, _⟩ := View.ofOwned hon
        have HB11 := hide (HB10.out.trans (hb11.mono HB10.out.size))
        have HVM := hide (hvm.below hb11)
        have HVN := hide hvn
        clear hom hon hvm hvn hb10 hb11
        go_wp2_with fail
        refine (ints_true ma na _ mc nc (nx i) u11 HVM.out HVN.out rfl (by have := HH.out.nxl i; omega)).mono ?_
        rintro e w12 ⟨rfl, q3, rfl⟩
        have HB12 := hide (growT HB11.out (drewT (Below.refl u11.heap.size u11) q3))
        generalize u11.drewN q3 = u12 at *
        go_wp2_with fail
        refine (HH.out.ahead i u12 HB12.out).mono ?_
        rintro e u13 ⟨vr, rfl, hor, hb13⟩
        obtain ⟨ra, rc, rfl, hvr, _⟩ := View.ofOwned hor
        have HB13 := hide (HB12.out.trans (hb13.mono HB12.out.size))
        go_wp2_with fail
        refine (HH.out.rahead i u13 HB13.out).mono ?_
        rintro e u14 ⟨vs, rfl, hos, hb14⟩
        obtain ⟨sa, sc, rfl, hvs, _⟩ := View.ofOwned hos
        have HB14 := hide (HB13.out.trans (hb14.mono HB13.out.size))
        have HVR := hide (hvr.below hb14)
        have HVS := hide hvs
        clear hor hos hvr hvs hb13 hb14
        go_wp2_with fail
        refine (ints_true ra sa _ rc sc (ah i) u14 HVR.out HVS.out rfl (by have := HH.out.ahl i; omega)).mono ?_
        rintro e w15 ⟨rfl, q4, rfl⟩
        have HB15 := hide (growT HB14.out (drewT (Below.refl u14.heap.size u14) q4))
        generalize u14.drewN q4 = u15 at *
        go_wp2_with fail
        exact ⟨⟨k + 1, HLT.out, by have := HII.out; congr 1; push_cast; omega, HB15.out⟩, by have := HII.out; have := HLT.out; simp [intOf]; omega⟩
      · have hle : ¬ ((k : Int) - 1) ≤ (L : Int) := by omega
        have hld : decide (((k : Int) - 1) ≤ (L : Int)) = false := decide_eq_false hle
        generalize ((k : Int) - 1) = i at *
        clear hlt hk hle
        go_wp2_with fail
        refine hr0.mono ?_
        rintro e w1 ⟨rfl, rfl⟩
        clear hr0
        go_wp2_with fail
        refine (HH.out.order u0 HB0.out).mono ?_
        rintro e u1 ⟨vx, rfl, hox, hb1⟩
        obtain ⟨xa, xc, rfl, hvx, _⟩ := View.ofOwned hox
        have HB1 := hide (HB0.out.trans (hb1.mono HB0.out.size))
        go_wp2_with fail
        refine (HH.out.rorder u1 HB1.out).mono ?_
        rintro e u2 ⟨vz, rfl, hoz, hb2⟩
        obtain ⟨za, zc, rfl, hvz, _⟩ := View.ofOwned hoz
        have HB2 := hide (HB1.out.trans (hb2.mono HB1.out.size))
        have HVX := hide (hvx.below hb2)
        have HOX := hide (own_below hox hb2)
        have HVZ := hide hvz
        have hodl := HH.out.odl
        clear hox hoz hvx hvz hb1 hb2
        go_wp2_with fail
        refine (ints_true xa za _ xc zc od u2 HVX.out HVZ.out rfl (by omega)).mono ?_
        rintro e w3 ⟨rfl, q1, rfl⟩
        have HQ1 := hide (drewT (Below.refl u2.heap.size u2) q1)
        have HB3 := hide (growT HB2.out HQ1.out)
        generalize u2.drewN q1 = u3 at *
        go_wp2_with fail
        have HOX3 := hide (own_below HOX.out HQ1.out)
        refine (spoilI_own _ _ _ od u3 HOX3.out rfl (by omega)).mono ?_
        rintro e u4 ⟨rfl, hg4, _⟩
        have HB4 := hide (HB3.out.grown hg4 HB3.out.size (fun j e => by have := (World.ownsRow.lt HOX3.out j e).1; have := HB0.out.size; omega))
        clear hg4
        go_wp2_with fail
        refine (HH.out.order u4 HB4.out).mono ?_
        rintro e u5 ⟨vm, rfl, hom, hb5⟩
        obtain ⟨ma, mc, rfl, hvm, _⟩ := View.ofOwned hom
        have HB5 := hide (HB4.out.trans (hb5.mono HB4.out.size))
        go_wp2_with fail
        refine (HH.out.rorder u5 HB5.out).mono ?_
        rintro e u6 ⟨vn, rfl, hon, hb6⟩
        obtain ⟨na, nc, rfl, hvn, _⟩ := View.ofOwned hon
        have HB6 := hide (HB5.out.trans (hb6.mono HB5.out.size))
        have HVM := hide (hvm.below hb6)
        have HVN := hide hvn
        clear hom hon hvm hvn hb5 hb6
        go_wp2_with fail
        refine (ints_true ma na _ mc nc od u6 HVM.out HVN.out rfl (by omega)).mono ?_
        rintro e w7 ⟨rfl, q2, rfl⟩
        have HB7 := hide (growT HB6.out (drewT (Below.refl u6.heap.size u6) q2))
        generalize u6.drewN q2 = u7 at *
        go_wp2_with fail
        go_ret
        exact ⟨rfl, HB7.out⟩

end Go.Proofs.Ytpdjmapmpicgjaa
