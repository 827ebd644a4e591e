/-
  The law FrameReads answers true, for every list of words.
-/
import Derived.WalkSpells
import Derived.Test.YtckpijgnkkjfkaaMathRL
import Derived.Test.YtckpijgnkkjfkaaLaw02Awake
import Derived.Test.YtckpijgnkkjfkaaFrameRead
import Derived.Test.YtckpijgnkkjfkaaFrameWrite
import Derived.Test.YtckpijgnkkjfkaaKitCopyWords
namespace Go.Proofs.Ytckpijgnkkjfkaa
open Go.RowKit

set_option maxRecDepth 100000 in
set_option maxHeartbeats 4000000 in
theorem frameReads_true (w : World) (a : Option Addr) (n cap : Nat) (zs : List Int) (hl : zs.length = n) (hv : View .u32 w a zs) (hw : Within 4294967296 zs) (hr : 4 * n ≤ 140737488351232) :
    Calls Try.prog 3 #[.slice a n cap] w fun e w' => e = .returned (.bool true) ∧ Below w.heap.size w w' := by
  have HOK : Hid (RawsOk (readL zs)) := readL_ok zs hw (by omega)
  have HSM : Hid (∀ j, j < (readL zs).length → (nthR (readL zs) j).2.length ≤ 1048576) := readL_sm zs hw
  have HRL : Hid ((readL zs).length ≤ zs.length) := readL_len zs
  have HL : Hid (zs.length = n) := hl
  have hR0 := refRead_any a n cap zs w hv hl hw
  have hC := fun wx (hb : Below w.heap.size w wx) => copyWords_any a n cap zs wx (hv.below hb) hl hr
  have hR1 := fun b wx (h : View .u32 wx b zs) => readC b n n zs wx h hl hw hr (Nat.le_refl _)
  have hA := fun wx => awake_true readC writeC wx
  generalize readAt zs 2 = h2 at *
  generalize readAt zs 3 = h3 at *
  generalize (readE zs).1 = er at *
  generalize (readE zs).2 = at_ at *
  generalize readL zs = rs at *
  have HV : Hid (View .u32 w a zs) := hv
  have HC : Hid (∀ wx, Below w.heap.size w wx → _) := hC
  have HR1 : Hid (∀ b wx, View .u32 wx b zs → _) := hR1
  have HA : Hid (∀ wx, _) := hA
  clear hC hR1 hA hv hl hw
  go_enter Try.func3, Try.ntmps3
  go_wp2_with fail
  refine hR0.mono ?_
  rintro e w1 ⟨hb1, ax, cx, m, rfl, hm, hV1⟩
  subst hm
  have s1 := hb1.size
  clear hR0
  go_wp2_with fail
  -- the copy
  obtain ⟨w2, hw2⟩ : ∃ X, X = (w1.alloc (.cells #[.int .u32 h2, .int .u32 h3] 25)).alloc (.cells #[.int .i64 er, .int .i64 at_] 29) := ⟨_, rfl⟩
  have hb2 : Below w1.heap.size w1 w2 := by rw [hw2]; exact ((Below.refl _ w1).alloc (Nat.le_refl _) _).alloc (by simp) _
  have k0 : w2.heap[w1.heap.size]? = some (.cells #[.int .u32 h2, .int .u32 h3] 25 (0, 0)) := by rw [hw2]; exact (Below.heap_alloc _ _ _ (by simp)).trans (heap_alloc_new w1 _)
  have k1 : w2.heap[w1.heap.size + 1]? = some (.cells #[.int .i64 er, .int .i64 at_] 29 (0, 0)) := by rw [hw2]; simpa using heap_alloc_new (w1.alloc (.cells #[.int .u32 h2, .int .u32 h3] 25)) (.cells #[.int .i64 er, .int .i64 at_] 29)
  have s2 : w1.heap.size + 2 ≤ w2.heap.size := by rw [hw2]; simp
  rw [← hw2]
  clear hw2
  refine (HC.out w2 (hb1.trans (hb2.mono s1))).mono ?_
  rintro e w3 ⟨rfl, hown3, hb3⟩
  have s3 := hb3.size
  go_wp2_with fail
  refine (HR1.out _ w3 (View.ofRow hown3 HL.out)).mono ?_
  rintro e w4 ⟨hb4, ay, cy, m, rfl, hm, hO4⟩
  subst hm
  have s4 := hb4.size
  have k0' := (hb4.block _ (by omega)).trans ((hb3.block _ (by omega)).trans k0)
  have k1' := (hb4.block _ (by omega)).trans ((hb3.block _ (by omega)).trans k1)
  obtain ⟨c0, c1, _⟩ := cell_of_two k0'
  obtain ⟨d0, d1, _⟩ := cell_of_two k1'
  have l0 : w1.heap.size < w4.heap.size := by omega
  have l1 : w1.heap.size + 1 < w4.heap.size := by omega
  clear k0 k1 k0' k1'
  have hown4 := own_below hown3 hb4
  have hb14 : Below w1.heap.size w1 w4 := (hb2.trans (hb3.mono (by omega))).trans (hb4.mono (by omega))
  have HOWN : Hid _ := hown4
  have HB14 : Hid _ := hb14
  have HV1 : Hid (RawsV w1 ax rs) := hV1
  have HO4 : Hid (OwnR w4 w3.heap.size ay 0 rs) := hO4
  have l3 : w2.heap.size < w3.heap.size := (hown3.lt _ rfl).2
  clear hown3 hown4 hb14 hV1 hO4 hb2 hb3 hb4
  go_wp2_with fail
  obtain ⟨w5, hw5⟩ : ∃ X, X = (w4.alloc (.cells #[.int .u32 h2, .int .u32 h3] 25)).alloc (.cells #[.int .i64 er, .int .i64 at_] 29) := ⟨_, rfl⟩
  rw [← hw5]
  have hb5 : Below w4.heap.size w4 w5 := by rw [hw5]; exact ((Below.refl _ w4).alloc (Nat.le_refl _) _).alloc (by simp) _
  clear hw5 c0 c1 d0 d1
  have hb15 : Below w1.heap.size w1 w5 := HB14.out.trans (hb5.mono (by omega))
  have hO5 := HO4.out.below hb5
  refine (raws_true ay ax rs.length cy cx rs w5 hO5.view (HV1.out.below hb15) HOK.out rfl (by have := HRL.out; have := HL.out; omega)).mono ?_
  rintro e w6 ⟨rfl, q6, rfl⟩
  have hb15w : Below w.heap.size w (w5.drewN q6) := bel_drewN (hb1.trans (hb15.mono s1)) q6
  have hown5 := own_below (own_below HOWN.out hb5) (bel_drewN (Below.refl _ w5) q6)
  go_wp2_with fail
  refine (words_true _ _ n n cap zs _ (View.ofRow hown5 HL.out) (HV.out.below hb15w) HL.out (by omega)).mono ?_
  rintro e w7 ⟨rfl, q7, rfl⟩
  have hown7 := own_below hown5 (bel_drewN (Below.refl _ _) q7)
  have hb17 := bel_drewN (bel_drewN hb15 q6) q7
  have hO7 := (hO5.below (bel_drewN (Below.refl _ w5) q6)).below (bel_drewN (Below.refl _ _) q7)
  clear hown5 hb15w hb15 hO5 hb5
  generalize (w5.drewN q6).drewN q7 = w7 at *
  go_wp2_with fail
  refine (spoil_own _ n _ zs w7 hown7 HL.out (by omega)).mono ?_
  rintro e w8 ⟨rfl, hg8, _⟩
  have hO8 : OwnR w8 w1.heap.size ay 0 rs := hO7.kept hg8 (fun g e => by simp [Value.ownBlock] at e; omega) (by omega)
  have hb18 : Below w1.heap.size w1 w8 := hb17.grown hg8 hb17.size (fun k e => by simp [Value.ownBlock] at e; omega)
  clear hown7 hb17 hO7 hg8
  go_wp2_with fail
  refine (apart_true ay ax rs.length cy cx rs w1 w8 hO8 HV1.out hb18 HOK.out rfl (by have := HRL.out; have := HL.out; omega) HSM.out).mono ?_
  rintro e w9 ⟨rfl, hb19⟩
  clear hO8 hb18
  go_wp2_with fail
  refine (HA.out w9).mono ?_
  rintro e w10 ⟨rfl, hb10⟩
  have hfin : Below w.heap.size w w10 := (hb1.trans (hb19.mono s1)).trans (hb10.mono (by have := hb19.size; omega))
  clear hb1 hb19 hb10
  go_wp2
  go_ret
  exact ⟨rfl, hfin⟩

end Go.Proofs.Ytckpijgnkkjfkaa
