/-
  The law FrameCut answers true, for every head, every list of instructions, every length and every first word.
-/
import Derived.WalkSpells
import Derived.BigRegion
import Derived.Test.YtckpijgnkkjfkabArgRaws
import Derived.Test.YtckpijgnkkjfkabMathCut
import Derived.Test.YtckpijgnkkjfkabLaw02Awake
import Derived.Test.YtckpijgnkkjfkabFrameRead
import Derived.Test.YtckpijgnkkjfkabFrameWrite
import Derived.Test.YtckpijgnkkjfkabKitCopyWords
import Derived.Test.YtckpijgnkkjfkabLaw02Copied
namespace Go.Proofs.Ytckpijgnkkjfkab
open Go.RowKit

theorem two_set {w : World} {g T : Nat} {a b : Value} (h : w.heap[g]? = some (.cells #[a, b] T (0, 0))) (u0 u1 : Value) : ((w.setCell ⟨g, 0, none⟩ u0).setCell ⟨g, 1, none⟩ u1).heap[g]? = some (.cells #[u0, u1] T (0, 0)) := by
  simp only [World.setCell, Array.getElem?_modify, h]; simp

theorem own_cap {w : World} {B e size n c : Nat} {a : Option Addr} {xs : List Value} (h : w.ownsRow B e size (.slice a n c) n xs) : n ≤ c := by
  rcases h.2 with ⟨h1, h2⟩ | ⟨g, c', cur, h1, _, _, h4, _⟩
  · omega
  · cases h1; exact h4

set_option maxRecDepth 100000 in
set_option maxHeartbeats 4000000 in
theorem frameCut_true (w : World) (gen bound : Int) (hg0 : 0 ≤ gen) (hg1 : gen < 4294967296) (hb0 : 0 ≤ bound) (hb1 : bound < 4294967296) (a : Option Addr) (n cap : Nat) (rs : List (Int × List Int)) (hl : rs.length = n) (hv : RawsV w a rs) (hok : RawsOk rs) (hr : 32 * n ≤ 140737488351232) (to : Int) (hto : (Lit.int .i64 to).wf = true) (first : Int) (hfi : (Lit.int .u32 first).wf = true) :
    Calls Try.prog 3 #[.agg #[.int .u32 gen, .int .u32 bound], .slice a n cap, .int .i64 to, .int .u32 first] w fun e w' => e = .returned (.bool true) ∧ Below w.heap.size w w' := by
  have hfb := bounds_u32 hfi
  have htb := bounds_i64 hto
  clear hfi hto
  have HL : Hid (rs.length = n) := hl
  have HOK : Hid (RawsOk rs) := hok
  have HV : Hid (RawsV w a rs) := hv
  have HC : Hid (∀ wx, RawsV wx a rs → Calls Try.prog 5 #[.slice a n cap] wx fun e w' => ∃ g, e = .returned (.slice (some ⟨g, 0, none⟩) n n) ∧ RawsV w' (some ⟨g, 0, none⟩) rs ∧ Below wx.heap.size wx w') := fun wx (h : RawsV wx a rs) => (copied_any a n cap rs wx h hok hl hr).mono fun e w' h => ⟨_, h.1, h.2.1.view hl, h.2.2⟩
  have HW1 : Hid (∀ b wx, RawsV wx b rs → _) := fun b wx (h : RawsV wx b rs) => writeC gen bound b n n rs wx hg0 hg1 hb0 hb1 h hok hl hr (Nat.le_refl _)
  have HA : Hid (∀ wx, _) := fun wx => awake_true readC writeC wx
  clear hv hok hl
  go_enter Try.func3, Try.ntmps3
  go_wp2_with fail
  rename_i KO hKO
  have key : ∀ (B6 x15 cx : Nat) (ax : Option Addr) (W : World), Below w.heap.size w W → W.heap[w.heap.size]? = some (.cells #[.int .u32 gen, .int .u32 bound] 24 (0, 0)) → W.heap[B6]? = some (.cells #[.int .i64 (writeE bound rs).1, .int .i64 (writeE bound rs).2] 29 (0, 0)) → View .u32 W ax (writeL gen bound rs) →
      (writeL gen bound rs).length ≤ cx → KO { tmps := #[.agg #[.int .u32 gen, .int .u32 bound], .slice a n cap, .int .i64 to, .int .u32 first, .pointer (some ⟨w.heap.size, 0, none⟩), undef, undef, undef, .bool false, .slice ax (writeL gen bound rs).length cx, .pointer (some ⟨B6, 0, none⟩), undef, undef, undef, undef, undef, undef, undef, .tuple #[.slice ax (writeL gen bound rs).length cx, .agg #[.int .i64 (writeE bound rs).1, .int .i64 (writeE bound rs).2]], .agg #[.int .u32 gen, .int .u32 bound], .slice a n cap, .slice (some ⟨x15, 0, none⟩) n n, .tuple #[.slice ax (writeL gen bound rs).length cx, .agg #[.int .i64 (writeE bound rs).1, .int .i64 (writeE bound rs).2]], .slice ax (writeL gen bound rs).length cx, .agg #[.int .i64 (writeE bound rs).1, .int .i64 (writeE bound rs).2], undef, undef, undef, undef, undef, undef, undef, undef, undef, undef, undef, undef, undef, undef, undef, undef, undef, undef, undef, undef, undef, undef, undef, undef, undef, undef, undef, undef, undef, undef, undef, undef, undef, undef, undef, undef, undef, undef, undef, undef, undef, undef, undef, undef, undef, undef, undef, undef, undef, undef, undef, undef, undef, undef, undef, undef, undef, undef, undef, undef, undef, undef, undef, undef, undef, undef, undef, undef, undef, undef, undef, undef], defers := [] } W := by
    intro B6 x15 cx ax W hBW hH hS hVw hcx
    obtain ⟨s0, s1, _⟩ := cell_of_two hS
    apply hKO
    have HW : Hid (writeL gen bound rs = if (writeE bound rs).1 = 0 then writeTo gen bound rs rs.length else []) := rfl
    by_cases hz : (writeE bound rs).1 = 0
    · have hbd : ¬ (bound = 0 ∨ 65536 < bound) := fun h => by unfold writeE at hz; rw [if_pos h] at hz; simp at hz
      have hbz : ¬ bound = 0 := fun h => hbd (.inl h)
      have hbh : ¬ 65536 < bound := fun h => hbd (.inr h)
      have hE : fault rs 0 = (0, 0) := by
        have h1 : writeE bound rs = fault rs 0 := by unfold writeE; rw [if_neg hbd]
        rw [h1] at hz
        rcases fault_any rs with h | h
        · exact h
        · exact absurd hz h
      have hfn := fault_none rs (by rw [hE])
      obtain ⟨r1, _, _, _⟩ := read_write gen bound rs HOK.out hE hbz hbh
      have hw : writeL gen bound rs = writeTo gen bound rs rs.length := by rw [HW.out, if_pos hz]
      have hwl := writeTo_len gen bound rs rs.length (Nat.le_refl _)
      have hsn := (hfn rs.length (Nat.le_refl _)).1
      have h5 : 5 ≤ (writeTo gen bound rs rs.length).length := by unfold writeTo; simp
      have HWI : Hid (Within 4294967296 (writeTo gen bound rs rs.length)) := writeTo_within gen bound hg0 hg1 hb0 hb1 rs HOK.out (fun j hj => (hfn rs.length (Nat.le_refl _)).2 j hj)
      have HRF : Hid (readE ((writeTo gen bound rs rs.length).set 0 first) = (firstE first, 0)) := readE_first gen bound first _ (by unfold writeTo at hwl; simp at hwl ⊢; omega) r1
      have HRC : Hid (∀ t, t < 5 → readE ((writeTo gen bound rs rs.length).take t) = (14, t)) := fun t ht => readE_cut gen bound _ hbz hbh t ht
      have HM0 : Hid (nth (writeTo gen bound rs rs.length) 0 = 119734787) := rfl
      rw [hw] at hVw hcx ⊢
      have HVW : Hid (View .u32 W ax (writeTo gen bound rs rs.length)) := hVw
      generalize hws : writeTo gen bound rs rs.length = ws at *
      generalize hsn' : ws.length = sn at *
      have HWL : Hid (ws.length = sn) := hsn'
      rw [hz] at s0 ⊢
      generalize (writeE bound rs).2 = at_ at *
      clear hz hbd hE hfn r1 hw hVw hS hH hws hsn' HW s1
      have hsn2 : sn ≤ 1048576 := by omega
      clear hwl hsn
      have n5 : decide ((sn : Int) < 5) = false := decide_eq_false (by omega)
      obtain ⟨b0, off0, rfl, hbsW, hc0W⟩ := HVW.out 0 (by rw [HWL.out]; omega)
      have HC0 : Hid (W.cell? ⟨b0, off0 + 0, none⟩ = some (.int .u32 (nth ws 0))) := hc0W
      clear hc0W
      by_cases hA : 0 ≤ to ∧ to < 5
      · obtain ⟨t, rfl⟩ := Int.eq_ofNat_of_zero_le hA.1
        have ht5 : t < 5 := by omega
        have hti : (t : Int) < 5 := by omega
        have ht0 : (0 : Int) ≤ (t : Int) := by omega
        have hvt : View .u32 W (some ⟨b0, off0, none⟩) (ws.take t) := fun j hj => by
          rw [List.length_take, HWL.out] at hj
          obtain ⟨b, off, e, hb, hc⟩ := HVW.out j (by rw [HWL.out]; omega)
          refine ⟨b, off, e, hb, ?_⟩
          rw [hc]
          simp [nth, List.getD, show j < t by omega]
        have HT : Hid ((ws.take t).length = t) := by show _ = _; rw [List.length_take, HWL.out]; omega
        have HVT : Hid _ := hvt
        have HWT : Hid (Within 4294967296 (ws.take t)) := fun z hz => HWI.out z (List.mem_of_mem_take hz)
        have htc : t ≤ cx := by omega
        have htci : (t : Int) ≤ (cx : Int) := by omega
        clear hA hvt
        go_wp2_with fail
        refine (copyWords_any _ t cx (ws.take t) W HVT.out HT.out (by omega)).mono ?_
        rintro e w5 ⟨rfl, hown5, hb5⟩
        have s5 := hb5.size
        have hR5 := readC (some ⟨W.heap.size, 0, none⟩) t t (ws.take t) w5 (View.ofRow hown5 HT.out) HT.out HWT.out (by omega) (Nat.le_refl _)
        rw [HRC.out t ht5] at hR5
        generalize readAt (ws.take t) 2 = q2 at *
        generalize readAt (ws.take t) 3 = q3 at *
        clear hown5
        go_wp2_with fail
        refine hR5.mono ?_
        rintro e w6 ⟨hb6, az, cz, m6, rfl, _, _⟩
        have hb56 : Below W.heap.size W w6 := hb5.trans (hb6.mono s5)
        clear hR5 hb6 hb5 s0
        go_wp2_with fail
        obtain ⟨W', hW'⟩ : ∃ X, X = (w6.alloc (.cells #[.int .u32 q2, .int .u32 q3] 24)).alloc (.cells #[.int .i64 14, .int .i64 t] 29) := ⟨_, rfl⟩
        rw [← hW']
        have hWW : Below W.heap.size W W' := by rw [hW']; exact (hb56.alloc hb56.size _).alloc (by have := hb56.size; simp; omega) _
        have hBW' : Below w.heap.size w W' := hBW.trans (hWW.mono hBW.size)
        clear hW' hb56 ht0 hti htci
        refine (copyWords_any _ sn cx ws W' (HVW.out.below hWW) HWL.out (by omega)).mono ?_
        rintro e w7 ⟨rfl, hown7, hb7⟩
        have s7 := hb7.size
        have hst := hown7.stored 0 (.int .u32 first)
        rw [← List.map_set] at hst
        obtain ⟨hown8, hg8⟩ := hst
        have d0 : w7.cell? ⟨W'.heap.size, 0, none⟩ = some (.int .u32 (nth ws 0)) := by
          obtain ⟨b', off', e', _, hc'⟩ := View.ofRow hown7 HWL.out 0 (by rw [HWL.out]; omega)
          simp at e'
          obtain ⟨rfl, rfl⟩ := e'
          exact hc'
        have d1 : w7.frozen? ⟨W'.heap.size, 0, none⟩ = false := hown7.frozenAt _
        have hv8 := View.ofRow hown8 (by rw [List.length_set]; exact HWL.out)
        have hb8 : Below W'.heap.size W' (w7.setCell ⟨W'.heap.size, 0, none⟩ (.int .u32 first)) := hb7.setCell (by simp) _
        have hWI8 : Within 4294967296 (ws.set 0 first) := within_set HWI.out hfb.1 (by omega)
        have hR8 := readC (some ⟨W'.heap.size, 0, none⟩) sn sn (ws.set 0 first) _ hv8 (by rw [List.length_set]; exact HWL.out) hWI8 (by omega) (Nat.le_refl _)
        rw [HRF.out] at hR8
        have HV8 : Hid _ := hv8
        have HB8 : Hid (Below W'.heap.size W' _) := hb8
        clear hown7 hown8 hg8 hv8 hb8 hb7 hWI8
        have n0 : (0 : Int) < (sn : Int) := by omega
        go_wp2_with fail
        generalize w7.setCell ⟨W'.heap.size, 0, none⟩ (.int .u32 first) = w8 at *
        generalize readAt (ws.set 0 first) 2 = r2 at *
        generalize readAt (ws.set 0 first) 3 = r3 at *
        refine hR8.mono ?_
        rintro e w9 ⟨hb9, ay, cy, m9, rfl, hm9, _⟩
        have s9 := hb9.size
        have hb89 : Below W'.heap.size W' w9 := HB8.out.trans (hb9.mono HB8.out.size)
        have hc9 := (hb89.cell (p := ⟨b0, off0 + 0, none⟩) (Nat.lt_of_lt_of_le hbsW hWW.size)).trans ((hWW.cell (p := ⟨b0, off0 + 0, none⟩) hbsW).trans HC0.out)
        rw [HM0.out, Nat.add_zero] at hc9
        have hl9 : b0 < w9.heap.size := World.block_lt_of_cell? _ _ hc9
        have HBF : Hid (Below w.heap.size w w9) := hBW'.trans (hb89.mono hBW'.size)
        clear hR8 hb9 hb89 d0 d1 hm9
        have HFE : Hid (firstE first = if first = 119734787 then 0 else if first = 50471687 then 21 else 20) := rfl
        by_cases h1 : first = 119734787
        · have b1 : (first == 119734787) = true := by simpa using h1
          rw [show firstE first = 0 by rw [HFE.out, if_pos h1]]
          clear h1
          go_wp2_with (go_at_call 6; refine (HA.out _).mono ?_; rintro e w' ⟨rfl, hba⟩)
          go_ret
          have hE2 := (HBF.out.alloc HBF.out.size (.cells #[.int .u32 r2, .int .u32 r3] 24)).alloc (by have := HBF.out.size; simp; omega) (.cells #[.int .i64 0, .int .i64 0] 29)
          exact ⟨rfl, hE2.trans (hba.mono hE2.size)⟩
        · have b1 : (first == 119734787) = false := by simpa using h1
          by_cases h2 : first = 50471687
          · have b2 : (first == 50471687) = true := by simpa using h2
            rw [show firstE first = 21 by rw [HFE.out, if_neg h1, if_pos h2]]
            clear h1 h2
            go_wp2_with (go_at_call 6; refine (HA.out _).mono ?_; rintro e w' ⟨rfl, hba⟩)
            go_ret
            have hE2 := (HBF.out.alloc HBF.out.size (.cells #[.int .u32 r2, .int .u32 r3] 24)).alloc (by have := HBF.out.size; simp; omega) (.cells #[.int .i64 21, .int .i64 0] 29)
            exact ⟨rfl, hE2.trans (hba.mono hE2.size)⟩
          · have b2 : (first == 50471687) = false := by simpa using h2
            rw [show firstE first = 20 by rw [HFE.out, if_neg h1, if_neg h2]]
            clear h1 h2
            go_wp2_with (go_at_call 6; refine (HA.out _).mono ?_; rintro e w' ⟨rfl, hba⟩)
            go_ret
            have hE2 := (HBF.out.alloc HBF.out.size (.cells #[.int .u32 r2, .int .u32 r3] 24)).alloc (by have := HBF.out.size; simp; omega) (.cells #[.int .i64 20, .int .i64 0] 29)
            exact ⟨rfl, hE2.trans (hba.mono hE2.size)⟩
      · by_cases hB : 0 ≤ to
        · have c1 : decide (0 ≤ to) = true := decide_eq_true hB
          have c2 : decide (to < 5) = false := decide_eq_false (by omega)
          have hWW : Below W.heap.size W W := Below.refl _ _
          have hBW' := hBW
          have hto5 : 5 ≤ to := by omega
          clear hA
          go_wp2_with fail
          clear c1 c2 s0
          obtain ⟨W', rfl⟩ : ∃ X, X = W := ⟨_, rfl⟩
          refine (copyWords_any _ sn cx ws W' (HVW.out.below hWW) HWL.out (by omega)).mono ?_
          rintro e w7 ⟨rfl, hown7, hb7⟩
          have s7 := hb7.size
          have hst := hown7.stored 0 (.int .u32 first)
          rw [← List.map_set] at hst
          obtain ⟨hown8, hg8⟩ := hst
          have d0 : w7.cell? ⟨W'.heap.size, 0, none⟩ = some (.int .u32 (nth ws 0)) := by
            obtain ⟨b', off', e', _, hc'⟩ := View.ofRow hown7 HWL.out 0 (by rw [HWL.out]; omega)
            simp at e'
            obtain ⟨rfl, rfl⟩ := e'
            exact hc'
          have d1 : w7.frozen? ⟨W'.heap.size, 0, none⟩ = false := hown7.frozenAt _
          have hv8 := View.ofRow hown8 (by rw [List.length_set]; exact HWL.out)
          have hb8 : Below W'.heap.size W' (w7.setCell ⟨W'.heap.size, 0, none⟩ (.int .u32 first)) := hb7.setCell (by simp) _
          have hWI8 : Within 4294967296 (ws.set 0 first) := within_set HWI.out hfb.1 (by omega)
          have hR8 := readC (some ⟨W'.heap.size, 0, none⟩) sn sn (ws.set 0 first) _ hv8 (by rw [List.length_set]; exact HWL.out) hWI8 (by omega) (Nat.le_refl _)
          rw [HRF.out] at hR8
          have HV8 : Hid _ := hv8
          have HB8 : Hid (Below W'.heap.size W' _) := hb8
          clear hown7 hown8 hg8 hv8 hb8 hb7 hWI8
          have n0 : (0 : Int) < (sn : Int) := by omega
          go_wp2_with fail
          generalize w7.setCell ⟨W'.heap.size, 0, none⟩ (.int .u32 first) = w8 at *
          generalize readAt (ws.set 0 first) 2 = r2 at *
          generalize readAt (ws.set 0 first) 3 = r3 at *
          refine hR8.mono ?_
          rintro e w9 ⟨hb9, ay, cy, m9, rfl, hm9, _⟩
          have s9 := hb9.size
          have hb89 : Below W'.heap.size W' w9 := HB8.out.trans (hb9.mono HB8.out.size)
          have hc9 := (hb89.cell (p := ⟨b0, off0 + 0, none⟩) (Nat.lt_of_lt_of_le hbsW hWW.size)).trans ((hWW.cell (p := ⟨b0, off0 + 0, none⟩) hbsW).trans HC0.out)
          rw [HM0.out, Nat.add_zero] at hc9
          have hl9 : b0 < w9.heap.size := World.block_lt_of_cell? _ _ hc9
          have HBF : Hid (Below w.heap.size w w9) := hBW'.trans (hb89.mono hBW'.size)
          clear hR8 hb9 hb89 d0 d1 hm9
          have HFE : Hid (firstE first = if first = 119734787 then 0 else if first = 50471687 then 21 else 20) := rfl
          by_cases h1 : first = 119734787
          · have b1 : (first == 119734787) = true := by simpa using h1
            rw [show firstE first = 0 by rw [HFE.out, if_pos h1]]
            clear h1
            go_wp2_with (go_at_call 6; refine (HA.out _).mono ?_; rintro e w' ⟨rfl, hba⟩)
            go_ret
            have hE2 := (HBF.out.alloc HBF.out.size (.cells #[.int .u32 r2, .int .u32 r3] 24)).alloc (by have := HBF.out.size; simp; omega) (.cells #[.int .i64 0, .int .i64 0] 29)
            exact ⟨rfl, hE2.trans (hba.mono hE2.size)⟩
          · have b1 : (first == 119734787) = false := by simpa using h1
            by_cases h2 : first = 50471687
            · have b2 : (first == 50471687) = true := by simpa using h2
              rw [show firstE first = 21 by rw [HFE.out, if_neg h1, if_pos h2]]
              clear h1 h2
              go_wp2_with (go_at_call 6; refine (HA.out _).mono ?_; rintro e w' ⟨rfl, hba⟩)
              go_ret
              have hE2 := (HBF.out.alloc HBF.out.size (.cells #[.int .u32 r2, .int .u32 r3] 24)).alloc (by have := HBF.out.size; simp; omega) (.cells #[.int .i64 21, .int .i64 0] 29)
              exact ⟨rfl, hE2.trans (hba.mono hE2.size)⟩
            · have b2 : (first == 50471687) = false := by simpa using h2
              rw [show firstE first = 20 by rw [HFE.out, if_neg h1, if_neg h2]]
              clear h1 h2
              go_wp2_with (go_at_call 6; refine (HA.out _).mono ?_; rintro e w' ⟨rfl, hba⟩)
              go_ret
              have hE2 := (HBF.out.alloc HBF.out.size (.cells #[.int .u32 r2, .int .u32 r3] 24)).alloc (by have := HBF.out.size; simp; omega) (.cells #[.int .i64 20, .int .i64 0] 29)
              exact ⟨rfl, hE2.trans (hba.mono hE2.size)⟩
        · have c1 : decide (0 ≤ to) = false := decide_eq_false hB
          have hWW : Below W.heap.size W W := Below.refl _ _
          have hBW' := hBW
          have hto5 : to < 0 := by omega
          clear hA
          go_wp2_with fail
          clear c1 s0
          obtain ⟨W', rfl⟩ : ∃ X, X = W := ⟨_, rfl⟩
          refine (copyWords_any _ sn cx ws W' (HVW.out.below hWW) HWL.out (by omega)).mono ?_
          rintro e w7 ⟨rfl, hown7, hb7⟩
          have s7 := hb7.size
          have hst := hown7.stored 0 (.int .u32 first)
          rw [← List.map_set] at hst
          obtain ⟨hown8, hg8⟩ := hst
          have d0 : w7.cell? ⟨W'.heap.size, 0, none⟩ = some (.int .u32 (nth ws 0)) := by
            obtain ⟨b', off', e', _, hc'⟩ := View.ofRow hown7 HWL.out 0 (by rw [HWL.out]; omega)
            simp at e'
            obtain ⟨rfl, rfl⟩ := e'
            exact hc'
          have d1 : w7.frozen? ⟨W'.heap.size, 0, none⟩ = false := hown7.frozenAt _
          have hv8 := View.ofRow hown8 (by rw [List.length_set]; exact HWL.out)
          have hb8 : Below W'.heap.size W' (w7.setCell ⟨W'.heap.size, 0, none⟩ (.int .u32 first)) := hb7.setCell (by simp) _
          have hWI8 : Within 4294967296 (ws.set 0 first) := within_set HWI.out hfb.1 (by omega)
          have hR8 := readC (some ⟨W'.heap.size, 0, none⟩) sn sn (ws.set 0 first) _ hv8 (by rw [List.length_set]; exact HWL.out) hWI8 (by omega) (Nat.le_refl _)
          rw [HRF.out] at hR8
          have HV8 : Hid _ := hv8
          have HB8 : Hid (Below W'.heap.size W' _) := hb8
          clear hown7 hown8 hg8 hv8 hb8 hb7 hWI8
          have n0 : (0 : Int) < (sn : Int) := by omega
          go_wp2_with fail
          generalize w7.setCell ⟨W'.heap.size, 0, none⟩ (.int .u32 first) = w8 at *
          generalize readAt (ws.set 0 first) 2 = r2 at *
          generalize readAt (ws.set 0 first) 3 = r3 at *
          refine hR8.mono ?_
          rintro e w9 ⟨hb9, ay, cy, m9, rfl, hm9, _⟩
          have s9 := hb9.size
          have hb89 : Below W'.heap.size W' w9 := HB8.out.trans (hb9.mono HB8.out.size)
          have hc9 := (hb89.cell (p := ⟨b0, off0 + 0, none⟩) (Nat.lt_of_lt_of_le hbsW hWW.size)).trans ((hWW.cell (p := ⟨b0, off0 + 0, none⟩) hbsW).trans HC0.out)
          rw [HM0.out, Nat.add_zero] at hc9
          have hl9 : b0 < w9.heap.size := World.block_lt_of_cell? _ _ hc9
          have HBF : Hid (Below w.heap.size w w9) := hBW'.trans (hb89.mono hBW'.size)
          clear hR8 hb9 hb89 d0 d1 hm9
          have HFE : Hid (firstE first = if first = 119734787 then 0 else if first = 50471687 then 21 else 20) := rfl
          by_cases h1 : first = 119734787
          · have b1 : (first == 119734787) = true := by simpa using h1
            rw [show firstE first = 0 by rw [HFE.out, if_pos h1]]
            clear h1
            go_wp2_with (go_at_call 6; refine (HA.out _).mono ?_; rintro e w' ⟨rfl, hba⟩)
            go_ret
            have hE2 := (HBF.out.alloc HBF.out.size (.cells #[.int .u32 r2, .int .u32 r3] 24)).alloc (by have := HBF.out.size; simp; omega) (.cells #[.int .i64 0, .int .i64 0] 29)
            exact ⟨rfl, hE2.trans (hba.mono hE2.size)⟩
          · have b1 : (first == 119734787) = false := by simpa using h1
            by_cases h2 : first = 50471687
            · have b2 : (first == 50471687) = true := by simpa using h2
              rw [show firstE first = 21 by rw [HFE.out, if_neg h1, if_pos h2]]
              clear h1 h2
              go_wp2_with (go_at_call 6; refine (HA.out _).mono ?_; rintro e w' ⟨rfl, hba⟩)
              go_ret
              have hE2 := (HBF.out.alloc HBF.out.size (.cells #[.int .u32 r2, .int .u32 r3] 24)).alloc (by have := HBF.out.size; simp; omega) (.cells #[.int .i64 21, .int .i64 0] 29)
              exact ⟨rfl, hE2.trans (hba.mono hE2.size)⟩
            · have b2 : (first == 50471687) = false := by simpa using h2
              rw [show firstE first = 20 by rw [HFE.out, if_neg h1, if_neg h2]]
              clear h1 h2
              go_wp2_with (go_at_call 6; refine (HA.out _).mono ?_; rintro e w' ⟨rfl, hba⟩)
              go_ret
              have hE2 := (HBF.out.alloc HBF.out.size (.cells #[.int .u32 r2, .int .u32 r3] 24)).alloc (by have := HBF.out.size; simp; omega) (.cells #[.int .i64 20, .int .i64 0] 29)
              exact ⟨rfl, hE2.trans (hba.mono hE2.size)⟩
    · have e2 : writeL gen bound rs = [] := by rw [HW.out, if_neg hz]
      have hzb : ((writeE bound rs).1 == 0) = false := by simpa using hz
      rw [e2]
      simp only [List.length_nil]
      generalize (writeE bound rs).1 = er at *
      generalize (writeE bound rs).2 = at_ at *
      clear hVw hS hH e2 hz HW hcx
      go_wp2_with (go_at_call 6; refine (HA.out _).mono ?_; rintro e w' ⟨rfl, hba⟩)
      go_ret
      exact ⟨rfl, hBW.trans (hba.mono hBW.size)⟩
  clear hKO
  obtain ⟨c0, c1, _⟩ := cell_of_two (heap_alloc_new w (.cells #[.int .u32 gen, .int .u32 bound] 24))
  have kH := heap_alloc_new w (.cells #[.int .u32 gen, .int .u32 bound] 24)
  have hb0w : Below w.heap.size w (w.alloc (.cells #[.int .u32 gen, .int .u32 bound] 24)) := (Below.refl _ w).alloc (Nat.le_refl _) _
  have KEY : Hid _ := key
  clear key
  refine wp_region_any (by kernel_rfl) ?_
  change wpAny _ _ _ _ _ _ _ (World.drew _)
  refine wpAny_take (i := 1) (v := .slice a n cap) rfl (by kernel_rfl) (by kernel_rfl) (by kernel_rfl) (fun _ _ _ h => h) (Or.inl ⟨by rfl, fun w => by go_simp⟩) ?_
  refine wpAny_ready (rs := [0, 2, 7]) (by kernel_rfl) (by simp) ?_
  refine AllReady.cons rfl (fun K hK => ?_) ?_
  · go_simp
    refine hK _ _ ?_
    clear hK K
    refine wpAny_ready (rs := [2, 7]) (by kernel_rfl) (by simp) ?_
    refine AllReady.cons rfl (fun K hK => ?_) ?_
    · go_simp
      refine (HC.out _ (HV.out.below hb0w.drew)).mono ?_
      rintro e wc ⟨g15, rfl, hP, hbc⟩
      dsimp only
      refine hK _ _ ?_
      clear hK K
      have hbwc : Below w.heap.size w wc := (hb0w.drew : Below w.heap.size w _).trans (hbc.mono (by first | omega | (simp; omega) | simp))
      have e0 := (hbc.block w.heap.size (by first | omega | (simp; omega) | simp)).trans kH
      obtain ⟨m0, m1, _⟩ := cell_of_two e0
      have lc : w.heap.size < wc.heap.size := (Array.getElem?_eq_some_iff.1 e0).1
      refine wpAny_ready (rs := [3, 7]) (by kernel_rfl) (by simp) ?_
      refine AllReady.cons rfl (fun K hK => ?_) ?_
      · go_simp
        refine (HW1.out _ _ (hP.below (Below.refl _ _))).mono ?_
        rintro e wd ⟨hbd, ax, cx, m, rfl, hm, hown⟩
        subst hm
        dsimp only
        refine hK _ _ ?_
        clear hK K
        have hbwd : Below w.heap.size w wd := hbwc.trans (hbd.mono (by first | omega | (simp; omega) | simp))
        have sd := hbd.size
        try simp only [World.size_alloc] at sd
        have e1 := (hbd.block w.heap.size (by first | omega | (simp; omega) | simp)).trans e0
        refine wpAny_take (i := 4) (v := .tuple #[.slice ax (writeL gen bound rs).length cx, .agg #[.int .i64 (writeE bound rs).1, .int .i64 (writeE bound rs).2]]) rfl (by kernel_rfl) (by kernel_rfl) (by kernel_rfl) (fun _ _ _ h => h) (Or.inl ⟨by rfl, fun w => by go_simp⟩) ?_
        refine wpAny_take (i := 5) (v := .slice ax (writeL gen bound rs).length cx) rfl (by kernel_rfl) (by kernel_rfl) (by kernel_rfl) (fun _ _ _ h => h) (Or.inl ⟨by rfl, fun w => by go_simp⟩) ?_
        refine wpAny_take (i := 6) (v := .agg #[.int .i64 (writeE bound rs).1, .int .i64 (writeE bound rs).2]) rfl (by kernel_rfl) (by kernel_rfl) (by kernel_rfl) (fun _ _ _ h => h) (Or.inl ⟨by rfl, fun w => by go_simp⟩) ?_
        refine wpAny_ready (rs := [7]) (by kernel_rfl) (by simp) ?_
        refine AllReady.cons rfl (fun K hK => ?_) ?_
        · go_simp
          refine hK _ _ ?_
          clear hK K
          refine wpAny_take (i := 8) (v := .slice ax (writeL gen bound rs).length cx) rfl (by kernel_rfl) (by kernel_rfl) (by kernel_rfl) (fun _ _ _ h => h) (Or.inl ⟨by rfl, fun w => by go_simp⟩) ?_
          refine wpAny_ready (rs := [9]) (by kernel_rfl) (by simp) ?_
          refine AllReady.cons rfl (fun K hK => ?_) ?_
          · go_simp
            refine hK _ _ ?_
            clear hK K
            refine wpAny_done (by kernel_rfl) ?_ _
            refine KEY.out wd.heap.size g15 cx ax _ ((hbwd).alloc (by omega) _) ((Below.heap_alloc wd _ _ (by omega)).trans e1) (heap_alloc_new wd _) ((View.ofOwn hown rfl).below ((Below.refl _ wd).alloc (Nat.le_refl _) _)) (own_cap hown)
          exact AllReady.nil
        exact AllReady.nil
      refine AllReady.cons rfl (fun K hK => ?_) ?_
      · go_simp
        refine hK _ _ ?_
        clear hK K
        refine wpAny_ready (rs := [3]) (by kernel_rfl) (by simp) ?_
        refine AllReady.cons rfl (fun K hK => ?_) ?_
        · go_simp
          refine (HW1.out _ _ (hP.below ((Below.refl _ _).alloc (Nat.le_refl _) _))).mono ?_
          rintro e wd ⟨hbd, ax, cx, m, rfl, hm, hown⟩
          subst hm
          dsimp only
          refine hK _ _ ?_
          clear hK K
          have hbwd : Below w.heap.size w wd := (hbwc.alloc (by omega) _).trans (hbd.mono (by first | omega | (simp; omega) | simp))
          have sd := hbd.size
          try simp only [World.size_alloc] at sd
          have e1 := (hbd.block w.heap.size (by first | omega | (simp; omega) | simp)).trans ((Below.heap_alloc _ _ _ lc).trans e0)
          have s1 : wd.heap[wc.heap.size]? = some (.cells #[.int .i64 0, .int .i64 0] 29 (0, 0)) := (hbd.block _ (by simp)).trans (heap_alloc_new wc _)
          obtain ⟨t0, t1, t2⟩ := cell_of_two s1
          have t3 : wd.frozen? ⟨wc.heap.size, 0, none⟩ = false := by simp [World.frozen?, s1]
          refine wpAny_take (i := 4) (v := .tuple #[.slice ax (writeL gen bound rs).length cx, .agg #[.int .i64 (writeE bound rs).1, .int .i64 (writeE bound rs).2]]) rfl (by kernel_rfl) (by kernel_rfl) (by kernel_rfl) (fun _ _ _ h => h) (Or.inl ⟨by rfl, fun w => by go_simp⟩) ?_
          refine wpAny_take (i := 5) (v := .slice ax (writeL gen bound rs).length cx) rfl (by kernel_rfl) (by kernel_rfl) (by kernel_rfl) (fun _ _ _ h => h) (Or.inl ⟨by rfl, fun w => by go_simp⟩) ?_
          refine wpAny_take (i := 6) (v := .agg #[.int .i64 (writeE bound rs).1, .int .i64 (writeE bound rs).2]) rfl (by kernel_rfl) (by kernel_rfl) (by kernel_rfl) (fun _ _ _ h => h) (Or.inl ⟨by rfl, fun w => by go_simp⟩) ?_
          refine wpAny_take (i := 8) (v := .slice ax (writeL gen bound rs).length cx) rfl (by kernel_rfl) (by kernel_rfl) (by kernel_rfl) (fun _ _ _ h => h) (Or.inl ⟨by rfl, fun w => by go_simp⟩) ?_
          refine wpAny_ready (rs := [9]) (by kernel_rfl) (by simp) ?_
          refine AllReady.cons rfl (fun K hK => ?_) ?_
          · go_simp
            refine hK _ _ ?_
            clear hK K
            refine wpAny_done (by kernel_rfl) ?_ _
            have hS := two_set s1 (.int .i64 (writeE bound rs).1) (.int .i64 (writeE bound rs).2)
            refine KEY.out wc.heap.size g15 cx ax _ ((hbwd.setCell (by first | omega | (simp; omega) | simp) _).setCell (by first | omega | (simp; omega) | simp) _) ((Below.heap_setCell _ _ _ _ (by first | omega | (simp; omega) | simp)).trans ((Below.heap_setCell _ _ _ _ (by first | omega | (simp; omega) | simp)).trans e1)) hS (View.ofOwn (ownsRow_setCell_below (ownsRow_setCell_below hown (by first | omega | (simp; omega) | simp) _) (by first | omega | (simp; omega) | simp) _) rfl) (own_cap hown)
          exact AllReady.nil
        exact AllReady.nil
      exact AllReady.nil
    refine AllReady.cons rfl (fun K hK => ?_) ?_
    · go_simp
      refine hK _ _ ?_
      clear hK K
      refine wpAny_ready (rs := [2]) (by kernel_rfl) (by simp) ?_
      refine AllReady.cons rfl (fun K hK => ?_) ?_
      · go_simp
        refine (HC.out _ (HV.out.below (hb0w.drew.alloc (by simp) _))).mono ?_
        rintro e wc ⟨g15, rfl, hP, hbc⟩
        dsimp only
        refine hK _ _ ?_
        clear hK K
        have hbwc : Below w.heap.size w wc := ((hb0w.drew.alloc (by simp) _) : Below w.heap.size w _).trans (hbc.mono (by first | omega | (simp; omega) | simp))
        have e0 := (hbc.block w.heap.size (by first | omega | (simp; omega) | simp)).trans ((Below.heap_alloc _ _ _ (by simp)).trans kH)
        obtain ⟨m0, m1, _⟩ := cell_of_two e0
        have lc : w.heap.size < wc.heap.size := (Array.getElem?_eq_some_iff.1 e0).1
        have s0 : wc.heap[w.heap.size + 1]? = some (.cells #[.int .i64 0, .int .i64 0] 29 (0, 0)) := (hbc.block (w.heap.size + 1) (by simp)).trans (by simpa using heap_alloc_new (w.alloc (.cells #[.int .u32 gen, .int .u32 bound] 24)).drew (.cells #[.int .i64 0, .int .i64 0] 29))
        refine wpAny_ready (rs := [3]) (by kernel_rfl) (by simp) ?_
        refine AllReady.cons rfl (fun K hK => ?_) ?_
        · go_simp
          refine (HW1.out _ _ (hP.below (Below.refl _ _))).mono ?_
          rintro e wd ⟨hbd, ax, cx, m, rfl, hm, hown⟩
          subst hm
          dsimp only
          refine hK _ _ ?_
          clear hK K
          have hbwd : Below w.heap.size w wd := hbwc.trans (hbd.mono (by first | omega | (simp; omega) | simp))
          have sd := hbd.size
          try simp only [World.size_alloc] at sd
          have e1 := (hbd.block w.heap.size (by first | omega | (simp; omega) | simp)).trans e0
          have s1 : wd.heap[w.heap.size + 1]? = some (.cells #[.int .i64 0, .int .i64 0] 29 (0, 0)) := (hbd.block (w.heap.size + 1) ((Array.getElem?_eq_some_iff.1 s0).1)).trans s0
          have lB : w.heap.size + 1 < wc.heap.size := (Array.getElem?_eq_some_iff.1 s0).1
          obtain ⟨t0, t1, t2⟩ := cell_of_two s1
          have t3 : wd.frozen? ⟨w.heap.size + 1, 0, none⟩ = false := by simp [World.frozen?, s1]
          refine wpAny_take (i := 4) (v := .tuple #[.slice ax (writeL gen bound rs).length cx, .agg #[.int .i64 (writeE bound rs).1, .int .i64 (writeE bound rs).2]]) rfl (by kernel_rfl) (by kernel_rfl) (by kernel_rfl) (fun _ _ _ h => h) (Or.inl ⟨by rfl, fun w => by go_simp⟩) ?_
          refine wpAny_take (i := 5) (v := .slice ax (writeL gen bound rs).length cx) rfl (by kernel_rfl) (by kernel_rfl) (by kernel_rfl) (fun _ _ _ h => h) (Or.inl ⟨by rfl, fun w => by go_simp⟩) ?_
          refine wpAny_take (i := 6) (v := .agg #[.int .i64 (writeE bound rs).1, .int .i64 (writeE bound rs).2]) rfl (by kernel_rfl) (by kernel_rfl) (by kernel_rfl) (fun _ _ _ h => h) (Or.inl ⟨by rfl, fun w => by go_simp⟩) ?_
          refine wpAny_take (i := 8) (v := .slice ax (writeL gen bound rs).length cx) rfl (by kernel_rfl) (by kernel_rfl) (by kernel_rfl) (fun _ _ _ h => h) (Or.inl ⟨by rfl, fun w => by go_simp⟩) ?_
          refine wpAny_ready (rs := [9]) (by kernel_rfl) (by simp) ?_
          refine AllReady.cons rfl (fun K hK => ?_) ?_
          · go_simp
            refine hK _ _ ?_
            clear hK K
            refine wpAny_done (by kernel_rfl) ?_ _
            have hS := two_set s1 (.int .i64 (writeE bound rs).1) (.int .i64 (writeE bound rs).2)
            refine KEY.out (w.heap.size + 1) g15 cx ax _ ((hbwd.setCell (by first | omega | (simp; omega) | simp) _).setCell (by first | omega | (simp; omega) | simp) _) ((Below.heap_setCell _ _ _ _ (by first | omega | (simp; omega) | simp)).trans ((Below.heap_setCell _ _ _ _ (by first | omega | (simp; omega) | simp)).trans e1)) hS (View.ofOwn (ownsRow_setCell_below (ownsRow_setCell_below hown (by first | omega | (simp; omega) | simp) _) (by first | omega | (simp; omega) | simp) _) rfl) (own_cap hown)
          exact AllReady.nil
        exact AllReady.nil
      exact AllReady.nil
    exact AllReady.nil
  refine AllReady.cons rfl (fun K hK => ?_) ?_
  · go_simp
    refine (HC.out _ (HV.out.below hb0w.drew)).mono ?_
    rintro e wc ⟨g15, rfl, hP, hbc⟩
    dsimp only
    refine hK _ _ ?_
    clear hK K
    have hbwc : Below w.heap.size w wc := (hb0w.drew : Below w.heap.size w _).trans (hbc.mono (by first | omega | (simp; omega) | simp))
    have e0 := (hbc.block w.heap.size (by first | omega | (simp; omega) | simp)).trans kH
    obtain ⟨m0, m1, _⟩ := cell_of_two e0
    have lc : w.heap.size < wc.heap.size := (Array.getElem?_eq_some_iff.1 e0).1
    refine wpAny_ready (rs := [0, 7]) (by kernel_rfl) (by simp) ?_
    refine AllReady.cons rfl (fun K hK => ?_) ?_
    · go_simp
      refine hK _ _ ?_
      clear hK K
      refine wpAny_ready (rs := [3, 7]) (by kernel_rfl) (by simp) ?_
      refine AllReady.cons rfl (fun K hK => ?_) ?_
      · go_simp
        refine (HW1.out _ _ (hP.below (Below.refl _ _))).mono ?_
        rintro e wd ⟨hbd, ax, cx, m, rfl, hm, hown⟩
        subst hm
        dsimp only
        refine hK _ _ ?_
        clear hK K
        have hbwd : Below w.heap.size w wd := hbwc.trans (hbd.mono (by first | omega | (simp; omega) | simp))
        have sd := hbd.size
        try simp only [World.size_alloc] at sd
        have e1 := (hbd.block w.heap.size (by first | omega | (simp; omega) | simp)).trans e0
        refine wpAny_take (i := 4) (v := .tuple #[.slice ax (writeL gen bound rs).length cx, .agg #[.int .i64 (writeE bound rs).1, .int .i64 (writeE bound rs).2]]) rfl (by kernel_rfl) (by kernel_rfl) (by kernel_rfl) (fun _ _ _ h => h) (Or.inl ⟨by rfl, fun w => by go_simp⟩) ?_
        refine wpAny_take (i := 5) (v := .slice ax (writeL gen bound rs).length cx) rfl (by kernel_rfl) (by kernel_rfl) (by kernel_rfl) (fun _ _ _ h => h) (Or.inl ⟨by rfl, fun w => by go_simp⟩) ?_
        refine wpAny_take (i := 6) (v := .agg #[.int .i64 (writeE bound rs).1, .int .i64 (writeE bound rs).2]) rfl (by kernel_rfl) (by kernel_rfl) (by kernel_rfl) (fun _ _ _ h => h) (Or.inl ⟨by rfl, fun w => by go_simp⟩) ?_
        refine wpAny_ready (rs := [7]) (by kernel_rfl) (by simp) ?_
        refine AllReady.cons rfl (fun K hK => ?_) ?_
        · go_simp
          refine hK _ _ ?_
          clear hK K
          refine wpAny_take (i := 8) (v := .slice ax (writeL gen bound rs).length cx) rfl (by kernel_rfl) (by kernel_rfl) (by kernel_rfl) (fun _ _ _ h => h) (Or.inl ⟨by rfl, fun w => by go_simp⟩) ?_
          refine wpAny_ready (rs := [9]) (by kernel_rfl) (by simp) ?_
          refine AllReady.cons rfl (fun K hK => ?_) ?_
          · go_simp
            refine hK _ _ ?_
            clear hK K
            refine wpAny_done (by kernel_rfl) ?_ _
            refine KEY.out wd.heap.size g15 cx ax _ ((hbwd).alloc (by omega) _) ((Below.heap_alloc wd _ _ (by omega)).trans e1) (heap_alloc_new wd _) ((View.ofOwn hown rfl).below ((Below.refl _ wd).alloc (Nat.le_refl _) _)) (own_cap hown)
          exact AllReady.nil
        exact AllReady.nil
      refine AllReady.cons rfl (fun K hK => ?_) ?_
      · go_simp
        refine hK _ _ ?_
        clear hK K
        refine wpAny_ready (rs := [3]) (by kernel_rfl) (by simp) ?_
        refine AllReady.cons rfl (fun K hK => ?_) ?_
        · go_simp
          refine (HW1.out _ _ (hP.below ((Below.refl _ _).alloc (Nat.le_refl _) _))).mono ?_
          rintro e wd ⟨hbd, ax, cx, m, rfl, hm, hown⟩
          subst hm
          dsimp only
          refine hK _ _ ?_
          clear hK K
          have hbwd : Below w.heap.size w wd := (hbwc.alloc (by omega) _).trans (hbd.mono (by first | omega | (simp; omega) | simp))
          have sd := hbd.size
          try simp only [World.size_alloc] at sd
          have e1 := (hbd.block w.heap.size (by first | omega | (simp; omega) | simp)).trans ((Below.heap_alloc _ _ _ lc).trans e0)
          have s1 : wd.heap[wc.heap.size]? = some (.cells #[.int .i64 0, .int .i64 0] 29 (0, 0)) := (hbd.block _ (by simp)).trans (heap_alloc_new wc _)
          obtain ⟨t0, t1, t2⟩ := cell_of_two s1
          have t3 : wd.frozen? ⟨wc.heap.size, 0, none⟩ = false := by simp [World.frozen?, s1]
          refine wpAny_take (i := 4) (v := .tuple #[.slice ax (writeL gen bound rs).length cx, .agg #[.int .i64 (writeE bound rs).1, .int .i64 (writeE bound rs).2]]) rfl (by kernel_rfl) (by kernel_rfl) (by kernel_rfl) (fun _ _ _ h => h) (Or.inl ⟨by rfl, fun w => by go_simp⟩) ?_
          refine wpAny_take (i := 5) (v := .slice ax (writeL gen bound rs).length cx) rfl (by kernel_rfl) (by kernel_rfl) (by kernel_rfl) (fun _ _ _ h => h) (Or.inl ⟨by rfl, fun w => by go_simp⟩) ?_
          refine wpAny_take (i := 6) (v := .agg #[.int .i64 (writeE bound rs).1, .int .i64 (writeE bound rs).2]) rfl (by kernel_rfl) (by kernel_rfl) (by kernel_rfl) (fun _ _ _ h => h) (Or.inl ⟨by rfl, fun w => by go_simp⟩) ?_
          refine wpAny_take (i := 8) (v := .slice ax (writeL gen bound rs).length cx) rfl (by kernel_rfl) (by kernel_rfl) (by kernel_rfl) (fun _ _ _ h => h) (Or.inl ⟨by rfl, fun w => by go_simp⟩) ?_
          refine wpAny_ready (rs := [9]) (by kernel_rfl) (by simp) ?_
          refine AllReady.cons rfl (fun K hK => ?_) ?_
          · go_simp
            refine hK _ _ ?_
            clear hK K
            refine wpAny_done (by kernel_rfl) ?_ _
            have hS := two_set s1 (.int .i64 (writeE bound rs).1) (.int .i64 (writeE bound rs).2)
            refine KEY.out wc.heap.size g15 cx ax _ ((hbwd.setCell (by first | omega | (simp; omega) | simp) _).setCell (by first | omega | (simp; omega) | simp) _) ((Below.heap_setCell _ _ _ _ (by first | omega | (simp; omega) | simp)).trans ((Below.heap_setCell _ _ _ _ (by first | omega | (simp; omega) | simp)).trans e1)) hS (View.ofOwn (ownsRow_setCell_below (ownsRow_setCell_below hown (by first | omega | (simp; omega) | simp) _) (by first | omega | (simp; omega) | simp) _) rfl) (own_cap hown)
          exact AllReady.nil
        exact AllReady.nil
      exact AllReady.nil
    refine AllReady.cons rfl (fun K hK => ?_) ?_
    · go_simp
      refine hK _ _ ?_
      clear hK K
      refine wpAny_ready (rs := [0]) (by kernel_rfl) (by simp) ?_
      refine AllReady.cons rfl (fun K hK => ?_) ?_
      · go_simp
        refine hK _ _ ?_
        clear hK K
        refine wpAny_ready (rs := [3]) (by kernel_rfl) (by simp) ?_
        refine AllReady.cons rfl (fun K hK => ?_) ?_
        · go_simp
          refine (HW1.out _ _ (hP.below ((Below.refl _ _).alloc (Nat.le_refl _) _))).mono ?_
          rintro e wd ⟨hbd, ax, cx, m, rfl, hm, hown⟩
          subst hm
          dsimp only
          refine hK _ _ ?_
          clear hK K
          have hbwd : Below w.heap.size w wd := (hbwc.alloc (by omega) _).trans (hbd.mono (by first | omega | (simp; omega) | simp))
          have sd := hbd.size
          try simp only [World.size_alloc] at sd
          have e1 := (hbd.block w.heap.size (by first | omega | (simp; omega) | simp)).trans ((Below.heap_alloc _ _ _ lc).trans e0)
          have s1 : wd.heap[wc.heap.size]? = some (.cells #[.int .i64 0, .int .i64 0] 29 (0, 0)) := (hbd.block _ (by simp)).trans (heap_alloc_new wc _)
          obtain ⟨t0, t1, t2⟩ := cell_of_two s1
          have t3 : wd.frozen? ⟨wc.heap.size, 0, none⟩ = false := by simp [World.frozen?, s1]
          refine wpAny_take (i := 4) (v := .tuple #[.slice ax (writeL gen bound rs).length cx, .agg #[.int .i64 (writeE bound rs).1, .int .i64 (writeE bound rs).2]]) rfl (by kernel_rfl) (by kernel_rfl) (by kernel_rfl) (fun _ _ _ h => h) (Or.inl ⟨by rfl, fun w => by go_simp⟩) ?_
          refine wpAny_take (i := 5) (v := .slice ax (writeL gen bound rs).length cx) rfl (by kernel_rfl) (by kernel_rfl) (by kernel_rfl) (fun _ _ _ h => h) (Or.inl ⟨by rfl, fun w => by go_simp⟩) ?_
          refine wpAny_take (i := 6) (v := .agg #[.int .i64 (writeE bound rs).1, .int .i64 (writeE bound rs).2]) rfl (by kernel_rfl) (by kernel_rfl) (by kernel_rfl) (fun _ _ _ h => h) (Or.inl ⟨by rfl, fun w => by go_simp⟩) ?_
          refine wpAny_take (i := 8) (v := .slice ax (writeL gen bound rs).length cx) rfl (by kernel_rfl) (by kernel_rfl) (by kernel_rfl) (fun _ _ _ h => h) (Or.inl ⟨by rfl, fun w => by go_simp⟩) ?_
          refine wpAny_ready (rs := [9]) (by kernel_rfl) (by simp) ?_
          refine AllReady.cons rfl (fun K hK => ?_) ?_
          · go_simp
            refine hK _ _ ?_
            clear hK K
            refine wpAny_done (by kernel_rfl) ?_ _
            have hS := two_set s1 (.int .i64 (writeE bound rs).1) (.int .i64 (writeE bound rs).2)
            refine KEY.out wc.heap.size g15 cx ax _ ((hbwd.setCell (by first | omega | (simp; omega) | simp) _).setCell (by first | omega | (simp; omega) | simp) _) ((Below.heap_setCell _ _ _ _ (by first | omega | (simp; omega) | simp)).trans ((Below.heap_setCell _ _ _ _ (by first | omega | (simp; omega) | simp)).trans e1)) hS (View.ofOwn (ownsRow_setCell_below (ownsRow_setCell_below hown (by first | omega | (simp; omega) | simp) _) (by first | omega | (simp; omega) | simp) _) rfl) (own_cap hown)
          exact AllReady.nil
        exact AllReady.nil
      exact AllReady.nil
    exact AllReady.nil
  refine AllReady.cons rfl (fun K hK => ?_) ?_
  · go_simp
    refine hK _ _ ?_
    clear hK K
    refine wpAny_ready (rs := [0, 2]) (by kernel_rfl) (by simp) ?_
    refine AllReady.cons rfl (fun K hK => ?_) ?_
    · go_simp
      refine hK _ _ ?_
      clear hK K
      refine wpAny_ready (rs := [2]) (by kernel_rfl) (by simp) ?_
      refine AllReady.cons rfl (fun K hK => ?_) ?_
      · go_simp
        refine (HC.out _ (HV.out.below (hb0w.drew.alloc (by simp) _))).mono ?_
        rintro e wc ⟨g15, rfl, hP, hbc⟩
        dsimp only
        refine hK _ _ ?_
        clear hK K
        have hbwc : Below w.heap.size w wc := ((hb0w.drew.alloc (by simp) _) : Below w.heap.size w _).trans (hbc.mono (by first | omega | (simp; omega) | simp))
        have e0 := (hbc.block w.heap.size (by first | omega | (simp; omega) | simp)).trans ((Below.heap_alloc _ _ _ (by simp)).trans kH)
        obtain ⟨m0, m1, _⟩ := cell_of_two e0
        have lc : w.heap.size < wc.heap.size := (Array.getElem?_eq_some_iff.1 e0).1
        have s0 : wc.heap[w.heap.size + 1]? = some (.cells #[.int .i64 0, .int .i64 0] 29 (0, 0)) := (hbc.block (w.heap.size + 1) (by simp)).trans (by simpa using heap_alloc_new (w.alloc (.cells #[.int .u32 gen, .int .u32 bound] 24)).drew (.cells #[.int .i64 0, .int .i64 0] 29))
        refine wpAny_ready (rs := [3]) (by kernel_rfl) (by simp) ?_
        refine AllReady.cons rfl (fun K hK => ?_) ?_
        · go_simp
          refine (HW1.out _ _ (hP.below (Below.refl _ _))).mono ?_
          rintro e wd ⟨hbd, ax, cx, m, rfl, hm, hown⟩
          subst hm
          dsimp only
          refine hK _ _ ?_
          clear hK K
          have hbwd : Below w.heap.size w wd := hbwc.trans (hbd.mono (by first | omega | (simp; omega) | simp))
          have sd := hbd.size
          try simp only [World.size_alloc] at sd
          have e1 := (hbd.block w.heap.size (by first | omega | (simp; omega) | simp)).trans e0
          have s1 : wd.heap[w.heap.size + 1]? = some (.cells #[.int .i64 0, .int .i64 0] 29 (0, 0)) := (hbd.block (w.heap.size + 1) ((Array.getElem?_eq_some_iff.1 s0).1)).trans s0
          have lB : w.heap.size + 1 < wc.heap.size := (Array.getElem?_eq_some_iff.1 s0).1
          obtain ⟨t0, t1, t2⟩ := cell_of_two s1
          have t3 : wd.frozen? ⟨w.heap.size + 1, 0, none⟩ = false := by simp [World.frozen?, s1]
          refine wpAny_take (i := 4) (v := .tuple #[.slice ax (writeL gen bound rs).length cx, .agg #[.int .i64 (writeE bound rs).1, .int .i64 (writeE bound rs).2]]) rfl (by kernel_rfl) (by kernel_rfl) (by kernel_rfl) (fun _ _ _ h => h) (Or.inl ⟨by rfl, fun w => by go_simp⟩) ?_
          refine wpAny_take (i := 5) (v := .slice ax (writeL gen bound rs).length cx) rfl (by kernel_rfl) (by kernel_rfl) (by kernel_rfl) (fun _ _ _ h => h) (Or.inl ⟨by rfl, fun w => by go_simp⟩) ?_
          refine wpAny_take (i := 6) (v := .agg #[.int .i64 (writeE bound rs).1, .int .i64 (writeE bound rs).2]) rfl (by kernel_rfl) (by kernel_rfl) (by kernel_rfl) (fun _ _ _ h => h) (Or.inl ⟨by rfl, fun w => by go_simp⟩) ?_
          refine wpAny_take (i := 8) (v := .slice ax (writeL gen bound rs).length cx) rfl (by kernel_rfl) (by kernel_rfl) (by kernel_rfl) (fun _ _ _ h => h) (Or.inl ⟨by rfl, fun w => by go_simp⟩) ?_
          refine wpAny_ready (rs := [9]) (by kernel_rfl) (by simp) ?_
          refine AllReady.cons rfl (fun K hK => ?_) ?_
          · go_simp
            refine hK _ _ ?_
            clear hK K
            refine wpAny_done (by kernel_rfl) ?_ _
            have hS := two_set s1 (.int .i64 (writeE bound rs).1) (.int .i64 (writeE bound rs).2)
            refine KEY.out (w.heap.size + 1) g15 cx ax _ ((hbwd.setCell (by first | omega | (simp; omega) | simp) _).setCell (by first | omega | (simp; omega) | simp) _) ((Below.heap_setCell _ _ _ _ (by first | omega | (simp; omega) | simp)).trans ((Below.heap_setCell _ _ _ _ (by first | omega | (simp; omega) | simp)).trans e1)) hS (View.ofOwn (ownsRow_setCell_below (ownsRow_setCell_below hown (by first | omega | (simp; omega) | simp) _) (by first | omega | (simp; omega) | simp) _) rfl) (own_cap hown)
          exact AllReady.nil
        exact AllReady.nil
      exact AllReady.nil
    refine AllReady.cons rfl (fun K hK => ?_) ?_
    · go_simp
      refine (HC.out _ (HV.out.below (hb0w.drew.alloc (by simp) _))).mono ?_
      rintro e wc ⟨g15, rfl, hP, hbc⟩
      dsimp only
      refine hK _ _ ?_
      clear hK K
      have hbwc : Below w.heap.size w wc := ((hb0w.drew.alloc (by simp) _) : Below w.heap.size w _).trans (hbc.mono (by first | omega | (simp; omega) | simp))
      have e0 := (hbc.block w.heap.size (by first | omega | (simp; omega) | simp)).trans ((Below.heap_alloc _ _ _ (by simp)).trans kH)
      obtain ⟨m0, m1, _⟩ := cell_of_two e0
      have lc : w.heap.size < wc.heap.size := (Array.getElem?_eq_some_iff.1 e0).1
      have s0 : wc.heap[w.heap.size + 1]? = some (.cells #[.int .i64 0, .int .i64 0] 29 (0, 0)) := (hbc.block (w.heap.size + 1) (by simp)).trans (by simpa using heap_alloc_new (w.alloc (.cells #[.int .u32 gen, .int .u32 bound] 24)).drew (.cells #[.int .i64 0, .int .i64 0] 29))
      refine wpAny_ready (rs := [0]) (by kernel_rfl) (by simp) ?_
      refine AllReady.cons rfl (fun K hK => ?_) ?_
      · go_simp
        refine hK _ _ ?_
        clear hK K
        refine wpAny_ready (rs := [3]) (by kernel_rfl) (by simp) ?_
        refine AllReady.cons rfl (fun K hK => ?_) ?_
        · go_simp
          refine (HW1.out _ _ (hP.below (Below.refl _ _))).mono ?_
          rintro e wd ⟨hbd, ax, cx, m, rfl, hm, hown⟩
          subst hm
          dsimp only
          refine hK _ _ ?_
          clear hK K
          have hbwd : Below w.heap.size w wd := hbwc.trans (hbd.mono (by first | omega | (simp; omega) | simp))
          have sd := hbd.size
          try simp only [World.size_alloc] at sd
          have e1 := (hbd.block w.heap.size (by first | omega | (simp; omega) | simp)).trans e0
          have s1 : wd.heap[w.heap.size + 1]? = some (.cells #[.int .i64 0, .int .i64 0] 29 (0, 0)) := (hbd.block (w.heap.size + 1) ((Array.getElem?_eq_some_iff.1 s0).1)).trans s0
          have lB : w.heap.size + 1 < wc.heap.size := (Array.getElem?_eq_some_iff.1 s0).1
          obtain ⟨t0, t1, t2⟩ := cell_of_two s1
          have t3 : wd.frozen? ⟨w.heap.size + 1, 0, none⟩ = false := by simp [World.frozen?, s1]
          refine wpAny_take (i := 4) (v := .tuple #[.slice ax (writeL gen bound rs).length cx, .agg #[.int .i64 (writeE bound rs).1, .int .i64 (writeE bound rs).2]]) rfl (by kernel_rfl) (by kernel_rfl) (by kernel_rfl) (fun _ _ _ h => h) (Or.inl ⟨by rfl, fun w => by go_simp⟩) ?_
          refine wpAny_take (i := 5) (v := .slice ax (writeL gen bound rs).length cx) rfl (by kernel_rfl) (by kernel_rfl) (by kernel_rfl) (fun _ _ _ h => h) (Or.inl ⟨by rfl, fun w => by go_simp⟩) ?_
          refine wpAny_take (i := 6) (v := .agg #[.int .i64 (writeE bound rs).1, .int .i64 (writeE bound rs).2]) rfl (by kernel_rfl) (by kernel_rfl) (by kernel_rfl) (fun _ _ _ h => h) (Or.inl ⟨by rfl, fun w => by go_simp⟩) ?_
          refine wpAny_take (i := 8) (v := .slice ax (writeL gen bound rs).length cx) rfl (by kernel_rfl) (by kernel_rfl) (by kernel_rfl) (fun _ _ _ h => h) (Or.inl ⟨by rfl, fun w => by go_simp⟩) ?_
          refine wpAny_ready (rs := [9]) (by kernel_rfl) (by simp) ?_
          refine AllReady.cons rfl (fun K hK => ?_) ?_
          · go_simp
            refine hK _ _ ?_
            clear hK K
            refine wpAny_done (by kernel_rfl) ?_ _
            have hS := two_set s1 (.int .i64 (writeE bound rs).1) (.int .i64 (writeE bound rs).2)
            refine KEY.out (w.heap.size + 1) g15 cx ax _ ((hbwd.setCell (by first | omega | (simp; omega) | simp) _).setCell (by first | omega | (simp; omega) | simp) _) ((Below.heap_setCell _ _ _ _ (by first | omega | (simp; omega) | simp)).trans ((Below.heap_setCell _ _ _ _ (by first | omega | (simp; omega) | simp)).trans e1)) hS (View.ofOwn (ownsRow_setCell_below (ownsRow_setCell_below hown (by first | omega | (simp; omega) | simp) _) (by first | omega | (simp; omega) | simp) _) rfl) (own_cap hown)
          exact AllReady.nil
        exact AllReady.nil
      exact AllReady.nil
    exact AllReady.nil
  exact AllReady.nil

end Go.Proofs.Ytckpijgnkkjfkab
