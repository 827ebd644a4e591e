/-
  The law FrameWrites answers true, for every head and every list of instructions.
-/
import Derived.WalkSpells
import Derived.Test.YtckpijgnkkjfkaaArgRaws
import Derived.Test.YtckpijgnkkjfkaaLaw02Awake
import Derived.Test.YtckpijgnkkjfkaaFrameRead
import Derived.Test.YtckpijgnkkjfkaaFrameWrite
import Derived.Test.YtckpijgnkkjfkaaLaw02Copied
namespace Go.Proofs.Ytckpijgnkkjfkaa
open Go.RowKit

set_option maxRecDepth 100000 in
set_option maxHeartbeats 4000000 in
theorem frameWrites_true (w : World) (gen bound : Int) (hg0 : 0 ≤ gen) (hg1 : gen < 4294967296) (hb0 : 0 ≤ bound) (hb1 : bound < 4294967296) (a : Option Addr) (n cap : Nat) (rs : List (Int × List Int)) (hl : rs.length = n) (hv : RawsV w a rs) (hok : RawsOk rs) (hr : 32 * n ≤ 140737488351232) :
    Calls Try.prog 4 #[.agg #[.int .u32 gen, .int .u32 bound], .slice a n cap] w fun e w' => e = .returned (.bool true) ∧ Below w.heap.size w w' := by
  have HL : Hid (rs.length = n) := hl
  have HOK : Hid (RawsOk rs) := hok
  have HV : Hid (RawsV w a rs) := hv
  have hW0 := fun wx (h : RawsV wx a rs) => refWrite_any gen bound a n cap rs wx hb0 h hok hl hr
  have hS0 := fun wx (h : RawsV wx a rs) => refSize_any a n cap rs wx h hl hr
  have hC := fun wx (h : RawsV wx a rs) => copied_any a n cap rs wx h hok hl hr
  have hW1 := fun b wx (h : RawsV wx b rs) => writeC gen bound b n n rs wx hg0 hg1 hb0 hb1 h hok hl hr (Nat.le_refl _)
  have hS1 := fun b wx (h : RawsV wx b rs) => sizeC b n n rs wx h hok hl hr (Nat.le_refl _)
  have hA := fun wx => awake_true readC writeC wx
  have HLW : Hid ((writeL gen bound rs).length ≤ 1048576) := by
    show _ ≤ _
    unfold writeL
    by_cases h : (writeE bound rs).1 = 0
    · rw [if_pos h]
      by_cases h1 : bound = 0 ∨ 65536 < bound
      · unfold writeE at h; rw [if_pos h1] at h; simp at h
      · unfold writeE at h; rw [if_neg h1] at h
        rw [writeTo_len _ _ _ _ (Nat.le_refl _)]
        exact (fault_none rs h _ (Nat.le_refl _)).1
    · rw [if_neg h]; simp
  generalize (writeE bound rs).1 = er at *
  generalize (writeE bound rs).2 = at_ at *
  generalize writeL gen bound rs = ws at *
  generalize sizeOut rs = so at *
  generalize (fault rs 0).1 = fe at *
  have HW0 : Hid (∀ wx, RawsV wx a rs → _) := hW0
  have HS0 : Hid (∀ wx, RawsV wx a rs → _) := hS0
  have HC : Hid (∀ wx, RawsV wx a rs → _) := hC
  have HW1 : Hid (∀ b wx, RawsV wx b rs → _) := hW1
  have HS1 : Hid (∀ b wx, RawsV wx b rs → _) := hS1
  have HA : Hid (∀ wx, _) := hA
  clear hW0 hS0 hC hW1 hS1 hA hv hok hl
  go_enter Try.func4, Try.ntmps4
  go_wp2_with fail
  have hbA : Below w.heap.size w (w.alloc (.cells #[.int .u32 gen, .int .u32 bound] 25)) := (Below.refl _ w).alloc (Nat.le_refl _) _
  have kA := heap_alloc_new w (.cells #[.int .u32 gen, .int .u32 bound] 25)
  have lA : w.heap.size < (w.alloc (.cells #[.int .u32 gen, .int .u32 bound] 25)).heap.size := by simp
  generalize w.alloc (.cells #[.int .u32 gen, .int .u32 bound] 25) = w0 at *
  refine (HW0.out w0 (HV.out.below hbA)).mono ?_
  rintro e w1 ⟨hb01, ax, cx, m, rfl, hm, hown1⟩
  have s1 := hb01.size
  subst hm
  go_wp2_with fail
  have hb12 : Below w1.heap.size w1 (w1.alloc (.cells #[.int .i64 er, .int .i64 at_] 29)) := (Below.refl _ w1).alloc (Nat.le_refl _) _
  have k1 := heap_alloc_new w1 (.cells #[.int .i64 er, .int .i64 at_] 29)
  have l1 : w1.heap.size < (w1.alloc (.cells #[.int .i64 er, .int .i64 at_] 29)).heap.size := by simp
  generalize w1.alloc (.cells #[.int .i64 er, .int .i64 at_] 29) = w2 at *
  have hbw2 : Below w.heap.size w w2 := (hbA.trans (hb01.mono (by omega))).trans (hb12.mono (by omega))
  refine (HS0.out w2 (HV.out.below hbw2)).mono ?_
  rintro e w3 ⟨rfl, hb23⟩
  have s3 := hb23.size
  go_wp2_with fail
  refine (HC.out w3 (HV.out.below (hbw2.trans (hb23.mono (by omega))))).mono ?_
  rintro e w4 ⟨rfl, hP4, hb34⟩
  have s4 := hb34.size
  have hVc4 := hP4.view HL.out
  have hb04 : Below w0.heap.size w0 w4 := (((hb01.trans (hb12.mono (by omega))).trans (hb23.mono (by omega))).trans (hb34.mono (by omega)))
  have kA4 := (hb04.block _ lA).trans kA
  have k14 := (hb34.block _ (by omega)).trans ((hb23.block _ l1).trans k1)
  obtain ⟨c0, c1, _⟩ := cell_of_two kA4
  have hV1 := (View.ofOwn hown1 rfl).below (((hb12.trans (hb23.mono (by omega))).trans (hb34.mono (by omega))))
  have HV1 : Hid (View .u32 w4 ax ws) := hV1
  have HVC : Hid (RawsV w4 (some ⟨w3.heap.size, 0, none⟩) rs) := hVc4
  have HBW4 : Hid (Below w.heap.size w w4) := hbA.trans (hb04.mono (by omega))
  clear hP4 hVc4 hV1 hown1 hb12 hb23 hb34 hb01 kA k1 hb04 kA4 hbw2 hbA
  go_wp2_with fail
  refine (HW1.out _ w4 HVC.out).mono ?_
  rintro e w5 ⟨hb45, ay, cy, m5, rfl, hm5, hown5⟩
  subst hm5
  have s5 := hb45.size
  go_wp2_with fail
  have hb56 : Below w5.heap.size w5 (w5.alloc (.cells #[.int .i64 er, .int .i64 at_] 29)) := (Below.refl _ w5).alloc (Nat.le_refl _) _
  have k5 := heap_alloc_new w5 (.cells #[.int .i64 er, .int .i64 at_] 29)
  have l5 : w5.heap.size < (w5.alloc (.cells #[.int .i64 er, .int .i64 at_] 29)).heap.size := by simp
  generalize w5.alloc (.cells #[.int .i64 er, .int .i64 at_] 29) = w6 at *
  have hb46 : Below w4.heap.size w4 w6 := hb45.trans (hb56.mono (by omega))
  refine (HS1.out _ w6 (HVC.out.below hb46)).mono ?_
  rintro e w7 ⟨rfl, hb67⟩
  have s7 := hb67.size
  have hb47 : Below w4.heap.size w4 w7 := hb46.trans (hb67.mono (by omega))
  have k57 := (hb67.block _ l5).trans k5
  have k17 := (hb47.block _ (by omega)).trans k14
  obtain ⟨d0, d1, _⟩ := cell_of_two k57
  obtain ⟨e0, e1, _⟩ := cell_of_two k17
  have hown7 := own_below hown5 (hb56.trans (hb67.mono (by omega)))
  have HOWN : Hid _ := hown7
  have HB47 : Hid (Below w4.heap.size w4 w7) := hb47
  clear hown5 hown7 hb45 hb56 hb46 hb67 k5 k57 k17 k14 c0 c1 hb47
  go_wp2_with fail
  refine (words_true _ _ ws.length cy cx ws w7 (View.ofOwn HOWN.out rfl) (HV1.out.below HB47.out) rfl (by have := HLW.out; omega)).mono ?_
  rintro e w8 ⟨rfl, q8, rfl⟩
  go_wp2_with fail
  have hb48 : Below w4.heap.size w4 (w7.drewN q8) := bel_drewN HB47.out q8
  have hbw8 : Below w.heap.size w (w7.drewN q8) := HBW4.out.trans (hb48.mono (by have := HBW4.out.size; omega))
  refine (raws_true _ a n n cap rs _ (HVC.out.below hb48) (HV.out.below hbw8) HOK.out HL.out (by omega)).mono ?_
  rintro e w9 ⟨rfl, q9, rfl⟩
  have hown9 := own_below (own_below HOWN.out (bel_drewN (Below.refl _ w7) q8)) (bel_drewN (Below.refl _ _) q9)
  have hb49 : Below w4.heap.size w4 ((w7.drewN q8).drewN q9) := bel_drewN hb48 q9
  clear hb48 hbw8 d0 d1 e0 e1
  generalize (w7.drewN q8).drewN q9 = w9 at *
  go_wp2_with fail
  refine (spoil_own _ ws.length _ ws w9 hown9 rfl (by have := HLW.out; omega)).mono ?_
  rintro e w10 ⟨rfl, hg10, _⟩
  have hb410 : Below w4.heap.size w4 w10 := hb49.grown hg10 hb49.size (fun k e => (hown9.lt k e).1)
  have hbw10 : Below w.heap.size w w10 := HBW4.out.trans (hb410.mono (by have := HBW4.out.size; omega))
  clear hown9 hb49 hg10
  go_wp2_with fail
  refine (raws_true _ a n n cap rs w10 (HVC.out.below hb410) (HV.out.below hbw10) HOK.out HL.out (by omega)).mono ?_
  rintro e w11 ⟨rfl, q11, rfl⟩
  have hbw11 := bel_drewN hbw10 q11
  clear hb410 hbw10
  generalize w10.drewN q11 = w11 at *
  go_wp2_with fail
  refine (HA.out w11).mono ?_
  rintro e w12 ⟨rfl, hb12⟩
  have hfin : Below w.heap.size w w12 := hbw11.trans (hb12.mono hbw11.size)
  clear hbw11 hb12
  go_wp2
  go_ret
  exact ⟨rfl, hfin⟩

end Go.Proofs.Ytckpijgnkkjfkaa
