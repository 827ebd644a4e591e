/-
  The law FrameForth answers true, for every head and every list of instructions.
-/
import Derived.WalkSpells
import Derived.BigRegion
import Derived.Test.YtckpijgnkkjfkaaArgRaws
import Derived.Test.YtckpijgnkkjfkaaMathRW
import Derived.Test.YtckpijgnkkjfkaaLaw02Awake
import Derived.Test.YtckpijgnkkjfkaaFrameRead
import Derived.Test.YtckpijgnkkjfkaaFrameWrite
import Derived.Test.YtckpijgnkkjfkaaKitCopyWords
import Derived.Test.YtckpijgnkkjfkaaLaw02Copied
namespace Go.Proofs.Ytckpijgnkkjfkaa
open Go.RowKit

theorem two_set {w : World} {g T : Nat} {a b : Value} (h : w.heap[g]? = some (.cells #[a, b] T (0, 0))) (u0 u1 : Value) : ((w.setCell ⟨g, 0, none⟩ u0).setCell ⟨g, 1, none⟩ u1).heap[g]? = some (.cells #[u0, u1] T (0, 0)) := by
  simp only [World.setCell, Array.getElem?_modify, h]; simp

set_option maxRecDepth 100000 in
set_option maxHeartbeats 4000000 in
theorem frameForth_true (w : World) (gen bound : Int) (hg0 : 0 ≤ gen) (hg1 : gen < 4294967296) (hb0 : 0 ≤ bound) (hb1 : bound < 4294967296) (a : Option Addr) (n cap : Nat) (rs : List (Int × List Int)) (hl : rs.length = n) (hv : RawsV w a rs) (hok : RawsOk rs) (hr : 32 * n ≤ 140737488351232) :
    Calls Try.prog 8 #[.agg #[.int .u32 gen, .int .u32 bound], .slice a n cap] w fun e w' => e = .returned (.bool true) ∧ Below w.heap.size w w' := by
  have HL : Hid (rs.length = n) := hl
  have HOK : Hid (RawsOk rs) := hok
  have HV : Hid (RawsV w a rs) := hv
  have HC : Hid (∀ wx, RawsV wx a rs → Calls Try.prog 19 #[.slice a n cap] wx fun e w' => ∃ g, e = .returned (.slice (some ⟨g, 0, none⟩) n n) ∧ RawsV w' (some ⟨g, 0, none⟩) rs ∧ Below wx.heap.size wx w') := fun wx (h : RawsV wx a rs) => (copied_any a n cap rs wx h hok hl hr).mono fun e w' h => ⟨_, h.1, h.2.1.view hl, h.2.2⟩
  have HW1 : Hid (∀ b wx, RawsV wx b rs → _) := fun b wx (h : RawsV wx b rs) => writeC gen bound b n n rs wx hg0 hg1 hb0 hb1 h hok hl hr (Nat.le_refl _)
  have HA : Hid (∀ wx, _) := fun wx => awake_true readC writeC wx
  clear hv hok hl
  go_enter Try.func8, Try.ntmps8
  go_wp2_with fail
  rename_i KO hKO
  have key : ∀ (B6 x15 cx : Nat) (ax : Option Addr) (W : World), Below w.heap.size w W → W.heap[w.heap.size]? = some (.cells #[.int .u32 gen, .int .u32 bound] 25 (0, 0)) → W.heap[B6]? = some (.cells #[.int .i64 (writeE bound rs).1, .int .i64 (writeE bound rs).2] 29 (0, 0)) → View .u32 W ax (writeL gen bound rs) →
      KO { tmps := #[.agg #[.int .u32 gen, .int .u32 bound], .slice a n cap, .pointer (some ⟨w.heap.size, 0, none⟩), undef, .bool false, .slice ax (writeL gen bound rs).length cx, .pointer (some ⟨B6, 0, none⟩), undef, undef, undef, undef, undef, .tuple #[.slice ax (writeL gen bound rs).length cx, .agg #[.int .i64 (writeE bound rs).1, .int .i64 (writeE bound rs).2]], .agg #[.int .u32 gen, .int .u32 bound], .slice a n cap, .slice (some ⟨x15, 0, none⟩) n n, .tuple #[.slice ax (writeL gen bound rs).length cx, .agg #[.int .i64 (writeE bound rs).1, .int .i64 (writeE bound rs).2]], .slice ax (writeL gen bound rs).length cx, .agg #[.int .i64 (writeE bound rs).1, .int .i64 (writeE bound rs).2], undef, undef, undef, undef, undef, undef, undef, undef, undef, undef, undef, undef, undef, undef, undef, undef, undef, undef, undef, undef, undef, undef, undef, undef, undef, undef, undef, undef, undef, undef, undef, undef, undef, undef, undef, undef, undef, undef, undef, undef, undef, undef, undef, undef, undef, undef, undef, undef, undef, undef, undef, undef, undef, undef, undef, undef, undef, undef, undef, undef, undef, undef, undef, undef, undef, undef, undef, undef, undef, undef, undef, undef, undef, undef, undef, undef, undef, undef, undef, undef, undef, undef, undef, undef, undef, undef, undef, undef, undef, undef, undef, undef, undef, undef, undef, undef, undef, undef, undef, undef, undef, undef], defers := [] } W := by
    intro B6 x15 cx ax W hBW hH hS hVw
    obtain ⟨c0, c1, _⟩ := cell_of_two hH
    obtain ⟨s0, s1, _⟩ := cell_of_two hS
    have hRC := fun wx (h : View .u32 wx ax (writeL gen bound rs)) (h4 : 4 * (writeL gen bound rs).length ≤ 140737488351232) => copyWords_any ax _ cx (writeL gen bound rs) wx h rfl h4
    apply hKO
    by_cases hbd : bound = 0 ∨ 65536 < bound
    · have e1 : writeE bound rs = (24, 0) := by unfold writeE; rw [if_pos hbd]
      have e2 : writeL gen bound rs = [] := by unfold writeL; rw [e1]; rfl
      rw [e1] at s0 s1 ⊢
      rw [e2] at ⊢
      clear hRC hVw hS hH e1 e2
      simp only [List.length_nil]
      by_cases hb : bound = 0
      · subst hb
        go_wp2_with (go_at_call 16; refine (HA.out _).mono ?_; rintro e w' ⟨rfl, hba⟩)
        go_ret
        exact ⟨rfl, hBW.trans (hba.mono hBW.size)⟩
      · have b0 : (bound == 0) = false := by simpa using hb
        have b2 : decide (65536 < bound) = true := decide_eq_true (by omega)
        clear hb hbd
        go_wp2_with (go_at_call 16; refine (HA.out _).mono ?_; rintro e w' ⟨rfl, hba⟩)
        go_ret
        exact ⟨rfl, hBW.trans (hba.mono hBW.size)⟩
    · have e1 : writeE bound rs = fault rs 0 := by unfold writeE; rw [if_neg hbd]
      have hbz : ¬ bound = 0 := fun h => hbd (.inl h)
      have hbh : ¬ 65536 < bound := fun h => hbd (.inr h)
      have b0 : (bound == 0) = false := by simpa using hbz
      have b2 : decide (65536 < bound) = false := decide_eq_false hbh
      have HBZ : Hid (¬ bound = 0 ∧ ¬ 65536 < bound) := ⟨hbz, hbh⟩
      have HW : Hid (writeL gen bound rs = if (fault rs 0).1 = 0 then writeTo gen bound rs rs.length else []) := by show _ = _; unfold writeL; rw [e1]
      rw [e1] at s0 s1 ⊢
      have HS0 : Hid (W.cell? ⟨B6, 0, none⟩ = some (.int .i64 (fault rs 0).1)) := s0
      have HS1 : Hid (W.cell? ⟨B6, 1, none⟩ = some (.int .i64 (fault rs 0).2)) := s1
      have HVW : Hid (View .u32 W ax (writeL gen bound rs)) := hVw
      have HRC : Hid (∀ wx, View .u32 wx ax (writeL gen bound rs) → _) := hRC
      have HAV : Hid (RawsV W a rs) := HV.out.below hBW
      clear hbz hbh hbd s0 s1 hVw hRC hS hH e1
      go_wp2_with fail
      go_loop [7, 8] (fun s i => ∃ k : Nat, k ≤ n ∧ i = .int .i64 k ∧ s = .int .i64 (sizeTo rs k) ∧ sizeTo rs k ≤ 1048576 ∧ fault rs 0 = fault rs k) (fun _ i => n - (intOf i).toNat)
      case atStart => exact ⟨0, Nat.zero_le _, rfl, rfl, by rw [sizeTo_zero]; omega, rfl⟩
      case round =>
        obtain ⟨k, hk, rfl, rfl, hsz, hfe⟩ := hrel
        have HF : Hid (fault rs 0 = fault rs k) := hfe
        clear hfe
        by_cases hlt : k < n
        · obtain ⟨b, off, aj, cj, nj, rfl, hbs, p1, p2, p3, _, _⟩ := HAV.out k (by rw [HL.out]; exact hlt)
          have h4 := (HOK.out k (by rw [HL.out]; exact hlt)).2.2.2
          rw [p3] at h4
          have HS : Hid (sizeTo rs (k + 1) = sizeTo rs k + 1 + (nthR rs k).2.length) := sizeTo_succ rs k (by rw [HL.out]; exact hlt)
          have HT := fault_step rs k (by rw [HL.out]; exact hlt)
          rw [p3] at HT HS
          have HT' : Hid (fault rs k = if 65535 ≤ nj then (25, k) else if 1048576 < sizeTo rs (k + 1) then (4, k) else fault rs (k + 1)) := HT
          have hki : (k : Int) < (n : Int) := by omega
          have hk0 : (0 : Int) ≤ (k : Int) := by omega
          clear HT p1 p3
          generalize sizeTo rs k = s at hsz HS ⊢
          by_cases h1 : 65535 ≤ nj
          · have b1 : decide ((65535 : Int) < (nj : Int) + 1) = true := decide_eq_true (by omega)
            have hE : fault rs 0 = (25, k) := by rw [HF.out, HT'.out, if_pos h1]
            have hw : writeL gen bound rs = [] := by rw [HW.out, hE]; rfl
            have s0 := HS0.out
            have s1 := HS1.out
            rw [hE] at s0 s1 ⊢
            rw [hw]
            simp only [List.length_nil]
            clear hE hw
            go_wp2_with (go_at_call 16; refine (HA.out _).mono ?_; rintro e w' ⟨rfl, hba⟩)
            go_ret
            exact ⟨rfl, hBW.trans (hba.mono hBW.size)⟩
          · have b1 : decide ((65535 : Int) < (nj : Int) + 1) = false := decide_eq_false (by omega)
            by_cases h2 : 1048576 < s + 1 + nj
            · have b2' : decide ((1048576 : Int) < (s : Int) + 1 + (nj : Int)) = true := decide_eq_true (by omega)
              have hE : fault rs 0 = (4, k) := by rw [HF.out, HT'.out, if_neg h1, if_pos (by rw [HS.out]; exact h2)]
              have hw : writeL gen bound rs = [] := by rw [HW.out, hE]; rfl
              have s0 := HS0.out
              have s1 := HS1.out
              rw [hE] at s0 s1 ⊢
              rw [hw]
              simp only [List.length_nil]
              clear hE hw
              go_wp2_with (go_at_call 16; refine (HA.out _).mono ?_; rintro e w' ⟨rfl, hba⟩)
              go_ret
              exact ⟨rfl, hBW.trans (hba.mono hBW.size)⟩
            · have b2' : decide ((1048576 : Int) < (s : Int) + 1 + (nj : Int)) = false := decide_eq_false (by omega)
              have HE : Hid (fault rs 0 = fault rs (k + 1)) := by show _ = _; rw [HF.out, HT'.out, if_neg h1, if_neg (by rw [HS.out]; exact h2)]
              go_wp2
              go_round
              case rel => exact ⟨k + 1, by omega, by go_num, by rw [HS.out]; go_num, by rw [HS.out]; omega, HE.out⟩
              case measure => simp [intOf]; omega
        · obtain rfl : k = n := by omega
          have hE : fault rs 0 = (0, 0) := by rw [HF.out]; exact fault_end rs k (by rw [HL.out]; omega)
          obtain ⟨r1, r2, r3, r4⟩ := read_write gen bound rs HOK.out hE HBZ.out.1 (by have := HBZ.out.2; omega)
          have hw : writeL gen bound rs = writeTo gen bound rs rs.length := by rw [HW.out, hE]; rfl
          have hwl : (writeL gen bound rs).length = sizeTo rs k := by rw [hw, writeTo_len _ _ _ _ (Nat.le_refl _), HL.out]
          have s0 := HS0.out
          have s1 := HS1.out
          have hC5 := HRC.out W HVW.out (by rw [hwl]; omega)
          have hR5 := fun b wx (h : View .u32 wx b (writeL gen bound rs)) (h2 : Within 4294967296 (writeL gen bound rs)) => readC b _ _ (writeL gen bound rs) wx h rfl h2 (by rw [hwl]; omega) (Nat.le_refl _)
          rw [← hw] at r1 r2 r3 r4
          rw [r1, r2, r3, r4] at hR5
          rw [hE] at s0 s1 ⊢
          rw [hwl] at hC5 hR5 ⊢
          have HWI : Hid (Within 4294967296 (writeL gen bound rs)) := by
            show Within _ _
            rw [hw]
            exact writeTo_within gen bound hg0 hg1 hb0 hb1 rs HOK.out (fun j hj => (fault_none rs (by rw [HF.out]; rw [fault_end rs k (by rw [HL.out]; omega)]) rs.length (Nat.le_refl _)).2 j hj)
          have HWL : Hid ((writeL gen bound rs).length = sizeTo rs k) := hwl
          have HR5 : Hid (∀ b wx, View .u32 wx b (writeL gen bound rs) → _) := hR5
          generalize writeL gen bound rs = ws at *
          generalize sizeTo rs k = sn at *
          clear hR5 r1 r2 r3 r4 hw hwl hE HF HW
          go_wp2_with fail
          refine hC5.mono ?_
          rintro e w5 ⟨rfl, hown5, hb5⟩
          clear hC5
          have hv5 := View.ofRow hown5 HWL.out
          go_wp2_with fail
          refine (HR5.out _ w5 hv5 HWI.out).mono ?_
          rintro e w6 ⟨hb6, ay, cy, m6, rfl, hm6, hO6⟩
          obtain rfl : m6 = k := by rw [← hm6]; exact HL.out
          have s6 := hb6.size
          have s5 := hb5.size
          have hB56 : Below W.heap.size W w6 := hb5.trans (hb6.mono s5)
          have t0 := (hB56.cell (p := ⟨B6, 0, none⟩) (World.block_lt_of_cell? _ _ s0)).trans s0
          have t1 := (hB56.cell (p := ⟨w.heap.size, 0, none⟩) (World.block_lt_of_cell? _ _ c0)).trans c0
          have t2 := (hB56.cell (p := ⟨w.heap.size, 1, none⟩) (World.block_lt_of_cell? _ _ c1)).trans c1
          have l0 : w.heap.size < w6.heap.size := World.block_lt_of_cell? _ _ t1
          have l1 : B6 < w6.heap.size := World.block_lt_of_cell? _ _ t0
          have HB6 : Hid (Below w.heap.size w w6) := hBW.trans (hB56.mono hBW.size)
          have HO6 : Hid (OwnR w6 w5.heap.size ay 0 rs) := hO6
          clear hown5 hb5 hv5 hb6 hO6 hB56 s0 s1 c0 c1 hm6
          go_wp2_with fail
          obtain ⟨w7, hw7⟩ : ∃ X, X = (w6.alloc (.cells #[.int .u32 gen, .int .u32 bound] 25)).alloc (.cells #[.int .i64 0, .int .i64 0] 29) := ⟨_, rfl⟩
          rw [← hw7]
          have hb7 : Below w6.heap.size w6 w7 := by rw [hw7]; exact ((Below.refl _ w6).alloc (Nat.le_refl _) _).alloc (by simp) _
          clear hw7 t0 t1 t2
          have hbw7 : Below w.heap.size w w7 := HB6.out.trans (hb7.mono HB6.out.size)
          refine (raws_true ay a m6 cy cap rs w7 (HO6.out.below hb7).view (HV.out.below hbw7) HOK.out HL.out (by omega)).mono ?_
          rintro e w8 ⟨rfl, q8, rfl⟩
          have hbw8 := bel_drewN hbw7 q8
          clear hbw7 hb7
          generalize w7.drewN q8 = w8 at *
          go_wp2_with fail
          refine (HA.out w8).mono ?_
          rintro e w9 ⟨rfl, hb9⟩
          have hfin : Below w.heap.size w w9 := hbw8.trans (hb9.mono hbw8.size)
          clear hbw8 hb9
          go_wp2
          go_ret
          exact ⟨rfl, hfin⟩
  clear hKO
  obtain ⟨c0, c1, _⟩ := cell_of_two (heap_alloc_new w (.cells #[.int .u32 gen, .int .u32 bound] 25))
  have kH := heap_alloc_new w (.cells #[.int .u32 gen, .int .u32 bound] 25)
  have hb0w : Below w.heap.size w (w.alloc (.cells #[.int .u32 gen, .int .u32 bound] 25)) := (Below.refl _ w).alloc (Nat.le_refl _) _
  have KEY : Hid _ := key
  clear key
  refine wp_region_any (by kernel_rfl) ?_
  change wpAny _ _ _ _ _ _ _ (World.drew _)
  refine wpAny_take (i := 1) (v := .slice a n cap) rfl (by kernel_rfl) (by kernel_rfl) (by kernel_rfl) (fun _ _ _ h => h) (Or.inl ⟨by rfl, fun w => by go_simp⟩) ?_
  refine wpAny_ready (rs := [0, 2, 7]) (by kernel_rfl) (by simp) ?_
  refine AllReady.cons rfl (fun K hK => ?_) ?_
  · go_simp
    refine hK _ _ ?_
    clear hK K
    refine wpAny_ready (rs := [2, 7]) (by kernel_rfl) (by simp) ?_
    refine AllReady.cons rfl (fun K hK => ?_) ?_
    · go_simp
      refine (HC.out _ (HV.out.below hb0w.drew)).mono ?_
      rintro e wc ⟨g15, rfl, hP, hbc⟩
      dsimp only
      refine hK _ _ ?_
      clear hK K
      have hbwc : Below w.heap.size w wc := (hb0w.drew : Below w.heap.size w _).trans (hbc.mono (by first | omega | (simp; omega) | simp))
      have e0 := (hbc.block w.heap.size (by first | omega | (simp; omega) | simp)).trans kH
      obtain ⟨m0, m1, _⟩ := cell_of_two e0
      have lc : w.heap.size < wc.heap.size := (Array.getElem?_eq_some_iff.1 e0).1
      refine wpAny_ready (rs := [3, 7]) (by kernel_rfl) (by simp) ?_
      refine AllReady.cons rfl (fun K hK => ?_) ?_
      · go_simp
        refine (HW1.out _ _ (hP.below (Below.refl _ _))).mono ?_
        rintro e wd ⟨hbd, ax, cx, m, rfl, hm, hown⟩
        subst hm
        dsimp only
        refine hK _ _ ?_
        clear hK K
        have hbwd : Below w.heap.size w wd := hbwc.trans (hbd.mono (by first | omega | (simp; omega) | simp))
        have sd := hbd.size
        try simp only [World.size_alloc] at sd
        have e1 := (hbd.block w.heap.size (by first | omega | (simp; omega) | simp)).trans e0
        refine wpAny_take (i := 4) (v := .tuple #[.slice ax (writeL gen bound rs).length cx, .agg #[.int .i64 (writeE bound rs).1, .int .i64 (writeE bound rs).2]]) rfl (by kernel_rfl) (by kernel_rfl) (by kernel_rfl) (fun _ _ _ h => h) (Or.inl ⟨by rfl, fun w => by go_simp⟩) ?_
        refine wpAny_take (i := 5) (v := .slice ax (writeL gen bound rs).length cx) rfl (by kernel_rfl) (by kernel_rfl) (by kernel_rfl) (fun _ _ _ h => h) (Or.inl ⟨by rfl, fun w => by go_simp⟩) ?_
        refine wpAny_take (i := 6) (v := .agg #[.int .i64 (writeE bound rs).1, .int .i64 (writeE bound rs).2]) rfl (by kernel_rfl) (by kernel_rfl) (by kernel_rfl) (fun _ _ _ h => h) (Or.inl ⟨by rfl, fun w => by go_simp⟩) ?_
        refine wpAny_ready (rs := [7]) (by kernel_rfl) (by simp) ?_
        refine AllReady.cons rfl (fun K hK => ?_) ?_
        · go_simp
          refine hK _ _ ?_
          clear hK K
          refine wpAny_take (i := 8) (v := .slice ax (writeL gen bound rs).length cx) rfl (by kernel_rfl) (by kernel_rfl) (by kernel_rfl) (fun _ _ _ h => h) (Or.inl ⟨by rfl, fun w => by go_simp⟩) ?_
          refine wpAny_ready (rs := [9]) (by kernel_rfl) (by simp) ?_
          refine AllReady.cons rfl (fun K hK => ?_) ?_
          · go_simp
            refine hK _ _ ?_
            clear hK K
            refine wpAny_done (by kernel_rfl) ?_ _
            refine KEY.out wd.heap.size g15 cx ax _ ((hbwd).alloc (by omega) _) ((Below.heap_alloc wd _ _ (by omega)).trans e1) (heap_alloc_new wd _) ((View.ofOwn hown rfl).below ((Below.refl _ wd).alloc (Nat.le_refl _) _))
          exact AllReady.nil
        exact AllReady.nil
      refine AllReady.cons rfl (fun K hK => ?_) ?_
      · go_simp
        refine hK _ _ ?_
        clear hK K
        refine wpAny_ready (rs := [3]) (by kernel_rfl) (by simp) ?_
        refine AllReady.cons rfl (fun K hK => ?_) ?_
        · go_simp
          refine (HW1.out _ _ (hP.below ((Below.refl _ _).alloc (Nat.le_refl _) _))).mono ?_
          rintro e wd ⟨hbd, ax, cx, m, rfl, hm, hown⟩
          subst hm
          dsimp only
          refine hK _ _ ?_
          clear hK K
          have hbwd : Below w.heap.size w wd := (hbwc.alloc (by omega) _).trans (hbd.mono (by first | omega | (simp; omega) | simp))
          have sd := hbd.size
          try simp only [World.size_alloc] at sd
          have e1 := (hbd.block w.heap.size (by first | omega | (simp; omega) | simp)).trans ((Below.heap_alloc _ _ _ lc).trans e0)
          have s1 : wd.heap[wc.heap.size]? = some (.cells #[.int .i64 0, .int .i64 0] 29 (0, 0)) := (hbd.block _ (by simp)).trans (heap_alloc_new wc _)
          obtain ⟨t0, t1, t2⟩ := cell_of_two s1
          have t3 : wd.frozen? ⟨wc.heap.size, 0, none⟩ = false := by simp [World.frozen?, s1]
          refine wpAny_take (i := 4) (v := .tuple #[.slice ax (writeL gen bound rs).length cx, .agg #[.int .i64 (writeE bound rs).1, .int .i64 (writeE bound rs).2]]) rfl (by kernel_rfl) (by kernel_rfl) (by kernel_rfl) (fun _ _ _ h => h) (Or.inl ⟨by rfl, fun w => by go_simp⟩) ?_
          refine wpAny_take (i := 5) (v := .slice ax (writeL gen bound rs).length cx) rfl (by kernel_rfl) (by kernel_rfl) (by kernel_rfl) (fun _ _ _ h => h) (Or.inl ⟨by rfl, fun w => by go_simp⟩) ?_
          refine wpAny_take (i := 6) (v := .agg #[.int .i64 (writeE bound rs).1, .int .i64 (writeE bound rs).2]) rfl (by kernel_rfl) (by kernel_rfl) (by kernel_rfl) (fun _ _ _ h => h) (Or.inl ⟨by rfl, fun w => by go_simp⟩) ?_
          refine wpAny_take (i := 8) (v := .slice ax (writeL gen bound rs).length cx) rfl (by kernel_rfl) (by kernel_rfl) (by kernel_rfl) (fun _ _ _ h => h) (Or.inl ⟨by rfl, fun w => by go_simp⟩) ?_
          refine wpAny_ready (rs := [9]) (by kernel_rfl) (by simp) ?_
          refine AllReady.cons rfl (fun K hK => ?_) ?_
          · go_simp
            refine hK _ _ ?_
            clear hK K
            refine wpAny_done (by kernel_rfl) ?_ _
            have hS := two_set s1 (.int .i64 (writeE bound rs).1) (.int .i64 (writeE bound rs).2)
            refine KEY.out wc.heap.size g15 cx ax _ ((hbwd.setCell (by first | omega | (simp; omega) | simp) _).setCell (by first | omega | (simp; omega) | simp) _) ((Below.heap_setCell _ _ _ _ (by first | omega | (simp; omega) | simp)).trans ((Below.heap_setCell _ _ _ _ (by first | omega | (simp; omega) | simp)).trans e1)) hS (View.ofOwn (ownsRow_setCell_below (ownsRow_setCell_below hown (by first | omega | (simp; omega) | simp) _) (by first | omega | (simp; omega) | simp) _) rfl)
          exact AllReady.nil
        exact AllReady.nil
      exact AllReady.nil
    refine AllReady.cons rfl (fun K hK => ?_) ?_
    · go_simp
      refine hK _ _ ?_
      clear hK K
      refine wpAny_ready (rs := [2]) (by kernel_rfl) (by simp) ?_
      refine AllReady.cons rfl (fun K hK => ?_) ?_
      · go_simp
        refine (HC.out _ (HV.out.below (hb0w.drew.alloc (by simp) _))).mono ?_
        rintro e wc ⟨g15, rfl, hP, hbc⟩
        dsimp only
        refine hK _ _ ?_
        clear hK K
        have hbwc : Below w.heap.size w wc := ((hb0w.drew.alloc (by simp) _) : Below w.heap.size w _).trans (hbc.mono (by first | omega | (simp; omega) | simp))
        have e0 := (hbc.block w.heap.size (by first | omega | (simp; omega) | simp)).trans ((Below.heap_alloc _ _ _ (by simp)).trans kH)
        obtain ⟨m0, m1, _⟩ := cell_of_two e0
        have lc : w.heap.size < wc.heap.size := (Array.getElem?_eq_some_iff.1 e0).1
        have s0 : wc.heap[w.heap.size + 1]? = some (.cells #[.int .i64 0, .int .i64 0] 29 (0, 0)) := (hbc.block (w.heap.size + 1) (by simp)).trans (by simpa using heap_alloc_new (w.alloc (.cells #[.int .u32 gen, .int .u32 bound] 25)).drew (.cells #[.int .i64 0, .int .i64 0] 29))
        refine wpAny_ready (rs := [3]) (by kernel_rfl) (by simp) ?_
        refine AllReady.cons rfl (fun K hK => ?_) ?_
        · go_simp
          refine (HW1.out _ _ (hP.below (Below.refl _ _))).mono ?_
          rintro e wd ⟨hbd, ax, cx, m, rfl, hm, hown⟩
          subst hm
          dsimp only
          refine hK _ _ ?_
          clear hK K
          have hbwd : Below w.heap.size w wd := hbwc.trans (hbd.mono (by first | omega | (simp; omega) | simp))
          have sd := hbd.size
          try simp only [World.size_alloc] at sd
          have e1 := (hbd.block w.heap.size (by first | omega | (simp; omega) | simp)).trans e0
          have s1 : wd.heap[w.heap.size + 1]? = some (.cells #[.int .i64 0, .int .i64 0] 29 (0, 0)) := (hbd.block (w.heap.size + 1) ((Array.getElem?_eq_some_iff.1 s0).1)).trans s0
          have lB : w.heap.size + 1 < wc.heap.size := (Array.getElem?_eq_some_iff.1 s0).1
          obtain ⟨t0, t1, t2⟩ := cell_of_two s1
          have t3 : wd.frozen? ⟨w.heap.size + 1, 0, none⟩ = false := by simp [World.frozen?, s1]
          refine wpAny_take (i := 4) (v := .tuple #[.slice ax (writeL gen bound rs).length cx, .agg #[.int .i64 (writeE bound rs).1, .int .i64 (writeE bound rs).2]]) rfl (by kernel_rfl) (by kernel_rfl) (by kernel_rfl) (fun _ _ _ h => h) (Or.inl ⟨by rfl, fun w => by go_simp⟩) ?_
          refine wpAny_take (i := 5) (v := .slice ax (writeL gen bound rs).length cx) rfl (by kernel_rfl) (by kernel_rfl) (by kernel_rfl) (fun _ _ _ h => h) (Or.inl ⟨by rfl, fun w => by go_simp⟩) ?_
          refine wpAny_take (i := 6) (v := .agg #[.int .i64 (writeE bound rs).1, .int .i64 (writeE bound rs).2]) rfl (by kernel_rfl) (by kernel_rfl) (by kernel_rfl) (fun _ _ _ h => h) (Or.inl ⟨by rfl, fun w => by go_simp⟩) ?_
          refine wpAny_take (i := 8) (v := .slice ax (writeL gen bound rs).length cx) rfl (by kernel_rfl) (by kernel_rfl) (by kernel_rfl) (fun _ _ _ h => h) (Or.inl ⟨by rfl, fun w => by go_simp⟩) ?_
          refine wpAny_ready (rs := [9]) (by kernel_rfl) (by simp) ?_
          refine AllReady.cons rfl (fun K hK => ?_) ?_
          · go_simp
            refine hK _ _ ?_
            clear hK K
            refine wpAny_done (by kernel_rfl) ?_ _
            have hS := two_set s1 (.int .i64 (writeE bound rs).1) (.int .i64 (writeE bound rs).2)
            refine KEY.out (w.heap.size + 1) g15 cx ax _ ((hbwd.setCell (by first | omega | (simp; omega) | simp) _).setCell (by first | omega | (simp; omega) | simp) _) ((Below.heap_setCell _ _ _ _ (by first | omega | (simp; omega) | simp)).trans ((Below.heap_setCell _ _ _ _ (by first | omega | (simp; omega) | simp)).trans e1)) hS (View.ofOwn (ownsRow_setCell_below (ownsRow_setCell_below hown (by first | omega | (simp; omega) | simp) _) (by first | omega | (simp; omega) | simp) _) rfl)
          exact AllReady.nil
        exact AllReady.nil
      exact AllReady.nil
    exact AllReady.nil
  refine AllReady.cons rfl (fun K hK => ?_) ?_
  · go_simp
    refine (HC.out _ (HV.out.below hb0w.drew)).mono ?_
    rintro e wc ⟨g15, rfl, hP, hbc⟩
    dsimp only
    refine hK _ _ ?_
    clear hK K
    have hbwc : Below w.heap.size w wc := (hb0w.drew : Below w.heap.size w _).trans (hbc.mono (by first | omega | (simp; omega) | simp))
    have e0 := (hbc.block w.heap.size (by first | omega | (simp; omega) | simp)).trans kH
    obtain ⟨m0, m1, _⟩ := cell_of_two e0
    have lc : w.heap.size < wc.heap.size := (Array.getElem?_eq_some_iff.1 e0).1
    refine wpAny_ready (rs := [0, 7]) (by kernel_rfl) (by simp) ?_
    refine AllReady.cons rfl (fun K hK => ?_) ?_
    · go_simp
      refine hK _ _ ?_
      clear hK K
      refine wpAny_ready (rs := [3, 7]) (by kernel_rfl) (by simp) ?_
      refine AllReady.cons rfl (fun K hK => ?_) ?_
      · go_simp
        refine (HW1.out _ _ (hP.below (Below.refl _ _))).mono ?_
        rintro e wd ⟨hbd, ax, cx, m, rfl, hm, hown⟩
        subst hm
        dsimp only
        refine hK _ _ ?_
        clear hK K
        have hbwd : Below w.heap.size w wd := hbwc.trans (hbd.mono (by first | omega | (simp; omega) | simp))
        have sd := hbd.size
        try simp only [World.size_alloc] at sd
        have e1 := (hbd.block w.heap.size (by first | omega | (simp; omega) | simp)).trans e0
        refine wpAny_take (i := 4) (v := .tuple #[.slice ax (writeL gen bound rs).length cx, .agg #[.int .i64 (writeE bound rs).1, .int .i64 (writeE bound rs).2]]) rfl (by kernel_rfl) (by kernel_rfl) (by kernel_rfl) (fun _ _ _ h => h) (Or.inl ⟨by rfl, fun w => by go_simp⟩) ?_
        refine wpAny_take (i := 5) (v := .slice ax (writeL gen bound rs).length cx) rfl (by kernel_rfl) (by kernel_rfl) (by kernel_rfl) (fun _ _ _ h => h) (Or.inl ⟨by rfl, fun w => by go_simp⟩) ?_
        refine wpAny_take (i := 6) (v := .agg #[.int .i64 (writeE bound rs).1, .int .i64 (writeE bound rs).2]) rfl (by kernel_rfl) (by kernel_rfl) (by kernel_rfl) (fun _ _ _ h => h) (Or.inl ⟨by rfl, fun w => by go_simp⟩) ?_
        refine wpAny_ready (rs := [7]) (by kernel_rfl) (by simp) ?_
        refine AllReady.cons rfl (fun K hK => ?_) ?_
        · go_simp
          refine hK _ _ ?_
          clear hK K
          refine wpAny_take (i := 8) (v := .slice ax (writeL gen bound rs).length cx) rfl (by kernel_rfl) (by kernel_rfl) (by kernel_rfl) (fun _ _ _ h => h) (Or.inl ⟨by rfl, fun w => by go_simp⟩) ?_
          refine wpAny_ready (rs := [9]) (by kernel_rfl) (by simp) ?_
          refine AllReady.cons rfl (fun K hK => ?_) ?_
          · go_simp
            refine hK _ _ ?_
            clear hK K
            refine wpAny_done (by kernel_rfl) ?_ _
            refine KEY.out wd.heap.size g15 cx ax _ ((hbwd).alloc (by omega) _) ((Below.heap_alloc wd _ _ (by omega)).trans e1) (heap_alloc_new wd _) ((View.ofOwn hown rfl).below ((Below.refl _ wd).alloc (Nat.le_refl _) _))
          exact AllReady.nil
        exact AllReady.nil
      refine AllReady.cons rfl (fun K hK => ?_) ?_
      · go_simp
        refine hK _ _ ?_
        clear hK K
        refine wpAny_ready (rs := [3]) (by kernel_rfl) (by simp) ?_
        refine AllReady.cons rfl (fun K hK => ?_) ?_
        · go_simp
          refine (HW1.out _ _ (hP.below ((Below.refl _ _).alloc (Nat.le_refl _) _))).mono ?_
          rintro e wd ⟨hbd, ax, cx, m, rfl, hm, hown⟩
          subst hm
          dsimp only
          refine hK _ _ ?_
          clear hK K
          have hbwd : Below w.heap.size w wd := (hbwc.alloc (by omega) _).trans (hbd.mono (by first | omega | (simp; omega) | simp))
          have sd := hbd.size
          try simp only [World.size_alloc] at sd
          have e1 := (hbd.block w.heap.size (by first | omega | (simp; omega) | simp)).trans ((Below.heap_alloc _ _ _ lc).trans e0)
          have s1 : wd.heap[wc.heap.size]? = some (.cells #[.int .i64 0, .int .i64 0] 29 (0, 0)) := (hbd.block _ (by simp)).trans (heap_alloc_new wc _)
          obtain ⟨t0, t1, t2⟩ := cell_of_two s1
          have t3 : wd.frozen? ⟨wc.heap.size, 0, none⟩ = false := by simp [World.frozen?, s1]
          refine wpAny_take (i := 4) (v := .tuple #[.slice ax (writeL gen bound rs).length cx, .agg #[.int .i64 (writeE bound rs).1, .int .i64 (writeE bound rs).2]]) rfl (by kernel_rfl) (by kernel_rfl) (by kernel_rfl) (fun _ _ _ h => h) (Or.inl ⟨by rfl, fun w => by go_simp⟩) ?_
          refine wpAny_take (i := 5) (v := .slice ax (writeL gen bound rs).length cx) rfl (by kernel_rfl) (by kernel_rfl) (by kernel_rfl) (fun _ _ _ h => h) (Or.inl ⟨by rfl, fun w => by go_simp⟩) ?_
          refine wpAny_take (i := 6) (v := .agg #[.int .i64 (writeE bound rs).1, .int .i64 (writeE bound rs).2]) rfl (by kernel_rfl) (by kernel_rfl) (by kernel_rfl) (fun _ _ _ h => h) (Or.inl ⟨by rfl, fun w => by go_simp⟩) ?_
          refine wpAny_take (i := 8) (v := .slice ax (writeL gen bound rs).length cx) rfl (by kernel_rfl) (by kernel_rfl) (by kernel_rfl) (fun _ _ _ h => h) (Or.inl ⟨by rfl, fun w => by go_simp⟩) ?_
          refine wpAny_ready (rs := [9]) (by kernel_rfl) (by simp) ?_
          refine AllReady.cons rfl (fun K hK => ?_) ?_
          · go_simp
            refine hK _ _ ?_
            clear hK K
            refine wpAny_done (by kernel_rfl) ?_ _
            have hS := two_set s1 (.int .i64 (writeE bound rs).1) (.int .i64 (writeE bound rs).2)
            refine KEY.out wc.heap.size g15 cx ax _ ((hbwd.setCell (by first | omega | (simp; omega) | simp) _).setCell (by first | omega | (simp; omega) | simp) _) ((Below.heap_setCell _ _ _ _ (by first | omega | (simp; omega) | simp)).trans ((Below.heap_setCell _ _ _ _ (by first | omega | (simp; omega) | simp)).trans e1)) hS (View.ofOwn (ownsRow_setCell_below (ownsRow_setCell_below hown (by first | omega | (simp; omega) | simp) _) (by first | omega | (simp; omega) | simp) _) rfl)
          exact AllReady.nil
        exact AllReady.nil
      exact AllReady.nil
    refine AllReady.cons rfl (fun K hK => ?_) ?_
    · go_simp
      refine hK _ _ ?_
      clear hK K
      refine wpAny_ready (rs := [0]) (by kernel_rfl) (by simp) ?_
      refine AllReady.cons rfl (fun K hK => ?_) ?_
      · go_simp
        refine hK _ _ ?_
        clear hK K
        refine wpAny_ready (rs := [3]) (by kernel_rfl) (by simp) ?_
        refine AllReady.cons rfl (fun K hK => ?_) ?_
        · go_simp
          refine (HW1.out _ _ (hP.below ((Below.refl _ _).alloc (Nat.le_refl _) _))).mono ?_
          rintro e wd ⟨hbd, ax, cx, m, rfl, hm, hown⟩
          subst hm
          dsimp only
          refine hK _ _ ?_
          clear hK K
          have hbwd : Below w.heap.size w wd := (hbwc.alloc (by omega) _).trans (hbd.mono (by first | omega | (simp; omega) | simp))
          have sd := hbd.size
          try simp only [World.size_alloc] at sd
          have e1 := (hbd.block w.heap.size (by first | omega | (simp; omega) | simp)).trans ((Below.heap_alloc _ _ _ lc).trans e0)
          have s1 : wd.heap[wc.heap.size]? = some (.cells #[.int .i64 0, .int .i64 0] 29 (0, 0)) := (hbd.block _ (by simp)).trans (heap_alloc_new wc _)
          obtain ⟨t0, t1, t2⟩ := cell_of_two s1
          have t3 : wd.frozen? ⟨wc.heap.size, 0, none⟩ = false := by simp [World.frozen?, s1]
          refine wpAny_take (i := 4) (v := .tuple #[.slice ax (writeL gen bound rs).length cx, .agg #[.int .i64 (writeE bound rs).1, .int .i64 (writeE bound rs).2]]) rfl (by kernel_rfl) (by kernel_rfl) (by kernel_rfl) (fun _ _ _ h => h) (Or.inl ⟨by rfl, fun w => by go_simp⟩) ?_
          refine wpAny_take (i := 5) (v := .slice ax (writeL gen bound rs).length cx) rfl (by kernel_rfl) (by kernel_rfl) (by kernel_rfl) (fun _ _ _ h => h) (Or.inl ⟨by rfl, fun w => by go_simp⟩) ?_
          refine wpAny_take (i := 6) (v := .agg #[.int .i64 (writeE bound rs).1, .int .i64 (writeE bound rs).2]) rfl (by kernel_rfl) (by kernel_rfl) (by kernel_rfl) (fun _ _ _ h => h) (Or.inl ⟨by rfl, fun w => by go_simp⟩) ?_
          refine wpAny_take (i := 8) (v := .slice ax (writeL gen bound rs).length cx) rfl (by kernel_rfl) (by kernel_rfl) (by kernel_rfl) (fun _ _ _ h => h) (Or.inl ⟨by rfl, fun w => by go_simp⟩) ?_
          refine wpAny_ready (rs := [9]) (by kernel_rfl) (by simp) ?_
          refine AllReady.cons rfl (fun K hK => ?_) ?_
          · go_simp
            refine hK _ _ ?_
            clear hK K
            refine wpAny_done (by kernel_rfl) ?_ _
            have hS := two_set s1 (.int .i64 (writeE bound rs).1) (.int .i64 (writeE bound rs).2)
            refine KEY.out wc.heap.size g15 cx ax _ ((hbwd.setCell (by first | omega | (simp; omega) | simp) _).setCell (by first | omega | (simp; omega) | simp) _) ((Below.heap_setCell _ _ _ _ (by first | omega | (simp; omega) | simp)).trans ((Below.heap_setCell _ _ _ _ (by first | omega | (simp; omega) | simp)).trans e1)) hS (View.ofOwn (ownsRow_setCell_below (ownsRow_setCell_below hown (by first | omega | (simp; omega) | simp) _) (by first | omega | (simp; omega) | simp) _) rfl)
          exact AllReady.nil
        exact AllReady.nil
      exact AllReady.nil
    exact AllReady.nil
  refine AllReady.cons rfl (fun K hK => ?_) ?_
  · go_simp
    refine hK _ _ ?_
    clear hK K
    refine wpAny_ready (rs := [0, 2]) (by kernel_rfl) (by simp) ?_
    refine AllReady.cons rfl (fun K hK => ?_) ?_
    · go_simp
      refine hK _ _ ?_
      clear hK K
      refine wpAny_ready (rs := [2]) (by kernel_rfl) (by simp) ?_
      refine AllReady.cons rfl (fun K hK => ?_) ?_
      · go_simp
        refine (HC.out _ (HV.out.below (hb0w.drew.alloc (by simp) _))).mono ?_
        rintro e wc ⟨g15, rfl, hP, hbc⟩
        dsimp only
        refine hK _ _ ?_
        clear hK K
        have hbwc : Below w.heap.size w wc := ((hb0w.drew.alloc (by simp) _) : Below w.heap.size w _).trans (hbc.mono (by first | omega | (simp; omega) | simp))
        have e0 := (hbc.block w.heap.size (by first | omega | (simp; omega) | simp)).trans ((Below.heap_alloc _ _ _ (by simp)).trans kH)
        obtain ⟨m0, m1, _⟩ := cell_of_two e0
        have lc : w.heap.size < wc.heap.size := (Array.getElem?_eq_some_iff.1 e0).1
        have s0 : wc.heap[w.heap.size + 1]? = some (.cells #[.int .i64 0, .int .i64 0] 29 (0, 0)) := (hbc.block (w.heap.size + 1) (by simp)).trans (by simpa using heap_alloc_new (w.alloc (.cells #[.int .u32 gen, .int .u32 bound] 25)).drew (.cells #[.int .i64 0, .int .i64 0] 29))
        refine wpAny_ready (rs := [3]) (by kernel_rfl) (by simp) ?_
        refine AllReady.cons rfl (fun K hK => ?_) ?_
        · go_simp
          refine (HW1.out _ _ (hP.below (Below.refl _ _))).mono ?_
          rintro e wd ⟨hbd, ax, cx, m, rfl, hm, hown⟩
          subst hm
          dsimp only
          refine hK _ _ ?_
          clear hK K
          have hbwd : Below w.heap.size w wd := hbwc.trans (hbd.mono (by first | omega | (simp; omega) | simp))
          have sd := hbd.size
          try simp only [World.size_alloc] at sd
          have e1 := (hbd.block w.heap.size (by first | omega | (simp; omega) | simp)).trans e0
          have s1 : wd.heap[w.heap.size + 1]? = some (.cells #[.int .i64 0, .int .i64 0] 29 (0, 0)) := (hbd.block (w.heap.size + 1) ((Array.getElem?_eq_some_iff.1 s0).1)).trans s0
          have lB : w.heap.size + 1 < wc.heap.size := (Array.getElem?_eq_some_iff.1 s0).1
          obtain ⟨t0, t1, t2⟩ := cell_of_two s1
          have t3 : wd.frozen? ⟨w.heap.size + 1, 0, none⟩ = false := by simp [World.frozen?, s1]
          refine wpAny_take (i := 4) (v := .tuple #[.slice ax (writeL gen bound rs).length cx, .agg #[.int .i64 (writeE bound rs).1, .int .i64 (writeE bound rs).2]]) rfl (by kernel_rfl) (by kernel_rfl) (by kernel_rfl) (fun _ _ _ h => h) (Or.inl ⟨by rfl, fun w => by go_simp⟩) ?_
          refine wpAny_take (i := 5) (v := .slice ax (writeL gen bound rs).length cx) rfl (by kernel_rfl) (by kernel_rfl) (by kernel_rfl) (fun _ _ _ h => h) (Or.inl ⟨by rfl, fun w => by go_simp⟩) ?_
          refine wpAny_take (i := 6) (v := .agg #[.int .i64 (writeE bound rs).1, .int .i64 (writeE bound rs).2]) rfl (by kernel_rfl) (by kernel_rfl) (by kernel_rfl) (fun _ _ _ h => h) (Or.inl ⟨by rfl, fun w => by go_simp⟩) ?_
          refine wpAny_take (i := 8) (v := .slice ax (writeL gen bound rs).length cx) rfl (by kernel_rfl) (by kernel_rfl) (by kernel_rfl) (fun _ _ _ h => h) (Or.inl ⟨by rfl, fun w => by go_simp⟩) ?_
          refine wpAny_ready (rs := [9]) (by kernel_rfl) (by simp) ?_
          refine AllReady.cons rfl (fun K hK => ?_) ?_
          · go_simp
            refine hK _ _ ?_
            clear hK K
            refine wpAny_done (by kernel_rfl) ?_ _
            have hS := two_set s1 (.int .i64 (writeE bound rs).1) (.int .i64 (writeE bound rs).2)
            refine KEY.out (w.heap.size + 1) g15 cx ax _ ((hbwd.setCell (by first | omega | (simp; omega) | simp) _).setCell (by first | omega | (simp; omega) | simp) _) ((Below.heap_setCell _ _ _ _ (by first | omega | (simp; omega) | simp)).trans ((Below.heap_setCell _ _ _ _ (by first | omega | (simp; omega) | simp)).trans e1)) hS (View.ofOwn (ownsRow_setCell_below (ownsRow_setCell_below hown (by first | omega | (simp; omega) | simp) _) (by first | omega | (simp; omega) | simp) _) rfl)
          exact AllReady.nil
        exact AllReady.nil
      exact AllReady.nil
    refine AllReady.cons rfl (fun K hK => ?_) ?_
    · go_simp
      refine (HC.out _ (HV.out.below (hb0w.drew.alloc (by simp) _))).mono ?_
      rintro e wc ⟨g15, rfl, hP, hbc⟩
      dsimp only
      refine hK _ _ ?_
      clear hK K
      have hbwc : Below w.heap.size w wc := ((hb0w.drew.alloc (by simp) _) : Below w.heap.size w _).trans (hbc.mono (by first | omega | (simp; omega) | simp))
      have e0 := (hbc.block w.heap.size (by first | omega | (simp; omega) | simp)).trans ((Below.heap_alloc _ _ _ (by simp)).trans kH)
      obtain ⟨m0, m1, _⟩ := cell_of_two e0
      have lc : w.heap.size < wc.heap.size := (Array.getElem?_eq_some_iff.1 e0).1
      have s0 : wc.heap[w.heap.size + 1]? = some (.cells #[.int .i64 0, .int .i64 0] 29 (0, 0)) := (hbc.block (w.heap.size + 1) (by simp)).trans (by simpa using heap_alloc_new (w.alloc (.cells #[.int .u32 gen, .int .u32 bound] 25)).drew (.cells #[.int .i64 0, .int .i64 0] 29))
      refine wpAny_ready (rs := [0]) (by kernel_rfl) (by simp) ?_
      refine AllReady.cons rfl (fun K hK => ?_) ?_
      · go_simp
        refine hK _ _ ?_
        clear hK K
        refine wpAny_ready (rs := [3]) (by kernel_rfl) (by simp) ?_
        refine AllReady.cons rfl (fun K hK => ?_) ?_
        · go_simp
          refine (HW1.out _ _ (hP.below (Below.refl _ _))).mono ?_
          rintro e wd ⟨hbd, ax, cx, m, rfl, hm, hown⟩
          subst hm
          dsimp only
          refine hK _ _ ?_
          clear hK K
          have hbwd : Below w.heap.size w wd := hbwc.trans (hbd.mono (by first | omega | (simp; omega) | simp))
          have sd := hbd.size
          try simp only [World.size_alloc] at sd
          have e1 := (hbd.block w.heap.size (by first | omega | (simp; omega) | simp)).trans e0
          have s1 : wd.heap[w.heap.size + 1]? = some (.cells #[.int .i64 0, .int .i64 0] 29 (0, 0)) := (hbd.block (w.heap.size + 1) ((Array.getElem?_eq_some_iff.1 s0).1)).trans s0
          have lB : w.heap.size + 1 < wc.heap.size := (Array.getElem?_eq_some_iff.1 s0).1
          obtain ⟨t0, t1, t2⟩ := cell_of_two s1
          have t3 : wd.frozen? ⟨w.heap.size + 1, 0, none⟩ = false := by simp [World.frozen?, s1]
          refine wpAny_take (i := 4) (v := .tuple #[.slice ax (writeL gen bound rs).length cx, .agg #[.int .i64 (writeE bound rs).1, .int .i64 (writeE bound rs).2]]) rfl (by kernel_rfl) (by kernel_rfl) (by kernel_rfl) (fun _ _ _ h => h) (Or.inl ⟨by rfl, fun w => by go_simp⟩) ?_
          refine wpAny_take (i := 5) (v := .slice ax (writeL gen bound rs).length cx) rfl (by kernel_rfl) (by kernel_rfl) (by kernel_rfl) (fun _ _ _ h => h) (Or.inl ⟨by rfl, fun w => by go_simp⟩) ?_
          refine wpAny_take (i := 6) (v := .agg #[.int .i64 (writeE bound rs).1, .int .i64 (writeE bound rs).2]) rfl (by kernel_rfl) (by kernel_rfl) (by kernel_rfl) (fun _ _ _ h => h) (Or.inl ⟨by rfl, fun w => by go_simp⟩) ?_
          refine wpAny_take (i := 8) (v := .slice ax (writeL gen bound rs).length cx) rfl (by kernel_rfl) (by kernel_rfl) (by kernel_rfl) (fun _ _ _ h => h) (Or.inl ⟨by rfl, fun w => by go_simp⟩) ?_
          refine wpAny_ready (rs := [9]) (by kernel_rfl) (by simp) ?_
          refine AllReady.cons rfl (fun K hK => ?_) ?_
          · go_simp
            refine hK _ _ ?_
            clear hK K
            refine wpAny_done (by kernel_rfl) ?_ _
            have hS := two_set s1 (.int .i64 (writeE bound rs).1) (.int .i64 (writeE bound rs).2)
            refine KEY.out (w.heap.size + 1) g15 cx ax _ ((hbwd.setCell (by first | omega | (simp; omega) | simp) _).setCell (by first | omega | (simp; omega) | simp) _) ((Below.heap_setCell _ _ _ _ (by first | omega | (simp; omega) | simp)).trans ((Below.heap_setCell _ _ _ _ (by first | omega | (simp; omega) | simp)).trans e1)) hS (View.ofOwn (ownsRow_setCell_below (ownsRow_setCell_below hown (by first | omega | (simp; omega) | simp) _) (by first | omega | (simp; omega) | simp) _) rfl)
          exact AllReady.nil
        exact AllReady.nil
      exact AllReady.nil
    exact AllReady.nil
  exact AllReady.nil

end Go.Proofs.Ytckpijgnkkjfkaa
