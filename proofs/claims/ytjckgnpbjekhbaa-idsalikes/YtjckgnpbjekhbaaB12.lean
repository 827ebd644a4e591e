/-
  Texts laid together in one: Ref04Fault, Ref04Shape, Ref04Ids, IdsUses.
-/
import Derived.WalkSpells
import Derived.WalkMore
import Derived.Deep.QuietTactic
import Derived.BigQuiet
import Derived.Test.YtjckgnpbjekhbaaProg
import Derived.Test.YtjckgnpbjekhbaaB02
import Derived.Test.YtjckgnpbjekhbaaB10
import Derived.Test.YtjckgnpbjekhbaaB07
import Derived.Test.YtjckgnpbjekhbaaB04
import Derived.Test.YtjckgnpbjekhbaaB11
import Derived.Test.YtjckgnpbjekhbaaB06
import Derived.Test.YtjckgnpbjekhbaaB01
import Derived.Test.YtjckgnpbjekhbaaB08
import Derived.Laws.AppendOwn
import Derived.BigRegion
import Derived.Test.YtjckgnpbjekhbaaB09
/-
  What Fault of the document's answer returns: what is wrong with an instruction.
-/
namespace Go.Proofs.Ytjckgnpbjekhbaa
open Go.RowKit
set_option linter.unusedVariables false
set_option linter.unusedSimpArgs false
set_option maxRecDepth 10000

theorem words_bound {f : Frm} {b : Int} {l : List ArgT} (hf : noText f = true ∧ shortF f = true) (hok : ArgsOk l) (h : ∀ i, i < l.length → wrongA (letterI f (i : Int)) (nthA l i) b = 0) : ∀ k, k ≤ l.length → (wordsL (l.take k)).length ≤ k + min k 1000 * 35184372087809
  | 0, _ => by simp [wordsL]
  | k + 1, hk => by
    have ih := words_bound hf hok h k (by omega)
    rw [wordsL_take l k (by omega), List.length_append, wordsA_len]
    split
    · rename_i h3
      have h1 := (wrongA_kind (h k (by omega))).2
      have h2 := text_fixed hf.1 (k := k) (by rw [← h1]; exact h3)
      have h4 := (hok k (by omega)).2.2.2.2
      have h5 : f.2.2.2.1.size ≤ 1000 := by
        have := hf.2
        simp [shortF] at this
        exact this.1.1.1
      have e1 : min k 1000 = k := by omega
      have e2 : min (k + 1) 1000 = k + 1 := by omega
      rw [e1] at ih; rw [e2, Nat.add_mul]
      omega
    · have : min k 1000 * 35184372087809 ≤ min (k + 1) 1000 * 35184372087809 := Nat.mul_le_mul_right _ (by omega)
      omega
theorem words_few {f : Frm} {b : Int} {l : List ArgT} (hf : noText f = true ∧ shortF f = true) (hok : ArgsOk l) (hl : 24 * l.length ≤ 140737488351232) (h : ∀ i, i < l.length → wrongA (letterI f (i : Int)) (nthA l i) b = 0) : (wordsL l).length ≤ 4611686018427387904 := by
  have := words_bound hf hok h l.length (Nat.le_refl _)
  rw [List.take_of_length_le (Nat.le_refl _)] at this
  have : min l.length 1000 * 35184372087809 ≤ 1000 * 35184372087809 := Nat.mul_le_mul_right _ (by omega)
  omega

theorem refT_sizes4 : refT.all (fun p => decide (p.2.2.2.2.1.size < 100) && decide (p.2.2.2.2.2.1.size < 100)) = true := by decide +kernel
theorem frm_small (n : Int) : (lookF refT n).1.2.2.2.1.size < 100 ∧ (lookF refT n).1.2.2.2.2.1.size < 100 := by
  by_cases h : (lookF refT n).2 = true
  · have := (List.all_eq_true.1 refT_sizes4) _ (lookF_true h)
    simpa using this
  · rw [(lookF_false (by simpa using h)).1]; exact ⟨by decide, by decide⟩

set_option maxHeartbeats 4000000 in
theorem refFault4_any (x : InstT) (b : Int) (ax : Option Addr) (n cx : Nat) (w : World) (hv : ArgsV w ax x.2.2.2) (hok : InstOk x) (hl : x.2.2.2.length = n) (b0 : 0 ≤ b) (b1 : b < 4294967296) :
    Calls Try.prog 38 #[instV x ax n cx, .int .u32 b] w fun e w' => e = .returned (.int .i64 (rawE x b)) ∧ Below w.heap.size w w' := by
  have hOf := fun wx => refOf_any x.1 wx
  obtain ⟨R, hR⟩ : ∃ R, R = rawE x b := ⟨_, rfl⟩
  rw [← hR]
  have hX := hok
  obtain ⟨xo, xt, xr, xl⟩ := x
  obtain ⟨q0, q1, q2, q3, q4, q5, q6, q7⟩ := hok
  simp only at q0 q1 q2 q3 q4 q5 q6 q7 hv hl hOf
  unfold instV
  simp only
  have hba : Below w.heap.size w (w.alloc (.cells #[.int .u16 xo, .int .u32 xt, .int .u32 xr, .slice ax n cx] 38)) := (Below.refl _ w).alloc (Nat.le_refl _) _
  have kB : (w.alloc (.cells #[.int .u16 xo, .int .u32 xt, .int .u32 xr, .slice ax n cx] 38)).heap[w.heap.size]? = some (.cells #[.int .u16 xo, .int .u32 xt, .int .u32 xr, .slice ax n cx] 38 (0, 0)) := alloc_new w _ _
  have hsz : w.heap.size < (w.alloc (.cells #[.int .u16 xo, .int .u32 xt, .int .u32 xr, .slice ax n cx] 38)).heap.size := by simp
  have hv0 := hv.below hba
  go_enter Try.func38, Try.ntmps38
  go_wp2_with fail
  generalize w.alloc (.cells #[.int .u16 xo, .int .u32 xt, .int .u32 xr, .slice ax n cx] 38) = W at *
  refine (hOf _).mono ?_
  rintro e w1 ⟨rfl, hb1⟩
  clear hOf
  by_cases h0 : (lookF refT xo).2 = true
  · have eV : ofV xo = formV xo (lookF refT xo).1 := by unfold ofV; rw [if_pos h0]
    rw [eV, h0]
    unfold rawE at hR
    rw [if_pos h0] at hR
    have hNT := look_noText xo
    have hSm := frm_small xo
    obtain ⟨f, hf⟩ : ∃ f, f = (lookF refT xo).1 := ⟨_, rfl⟩
    have hLt := fun i (wx : World) (h1 : i < 9223372036854775808) => refLetter_any xo i wx h1
    simp only [← hf] at hR hNT hSm hLt ⊢
    have HR := hide hR
    have HNT := hide hNT
    clear hR eV hf h0 hNT
    obtain ⟨nm, t, r, fx, rs, mo, pa⟩ := f
    unfold formV
    simp only
    have hb2 : Below w1.heap.size w1 (w1.alloc (.cells #[.int .u16 xo, .string nm, .bool t, .bool r, .string fx, .string rs, .int .i64 mo, .int .u8 pa] 81)) := (Below.refl _ _).alloc (Nat.le_refl _) _
    have kF : (w1.alloc (.cells #[.int .u16 xo, .string nm, .bool t, .bool r, .string fx, .string rs, .int .i64 mo, .int .u8 pa] 81)).heap[w1.heap.size]? = some (.cells #[.int .u16 xo, .string nm, .bool t, .bool r, .string fx, .string rs, .int .i64 mo, .int .u8 pa] 81 (0, 0)) := alloc_new w1 _ _
    have hb02 := hb1.trans (hb2.mono hb1.size)
    have kI := (hb02.block _ hsz).trans kB
    have hv2 := hv0.below hb02
    have hbel := hba.trans (hb02.mono (by omega))
    have hs1 : w.heap.size < w1.heap.size := Nat.lt_of_lt_of_le hsz hb1.size
    have hs2 : w1.heap.size < (w1.alloc (.cells #[.int .u16 xo, .string nm, .bool t, .bool r, .string fx, .string rs, .int .i64 mo, .int .u8 pa] 81)).heap.size := by simp
    have hI1 := fun wx => refId_any t xt b 40 wx q2 q3 b0 b1
    have hI2 := fun wx => refId_any r xr b 41 wx q4 q5 b0 b1
    have kI1 := (hb1.block _ hsz).trans kB
    have i1 := (one_block kI1).1 1
    have i2 := (one_block kI1).1 2
    have HKF := hide kF
    have HKI := hide kI
    have HV2 := hide hv2
    have HBEL := hide hbel
    have hWh := fun (wx : World) => refWhole_any xo (nm, t, r, fx, rs, mo, pa) (n : Int) wx (by omega) (by omega) hSm.1 hSm.2
    have hRm := fun (wx : World) (hvx : ArgsV wx ax xl) (hB : (wordsL xl).length ≤ 4611686018427387904) => refRoom4_any (xo, xt, xr, xl) xo (nm, t, r, fx, rs, mo, pa) ax n cx wx hvx hX hl hB
    have hWr := fun (k : Nat) (wx : World) (hk : k < xl.length) (c : Int) => refWrong4_any c (nthA xl k) b wx (q6 k hk) b0 b1
    have HFEW := hide (words_few HNT.out q6 q7 (b := b))
    have HL := hide hl
    have HN : Hid (24 * n ≤ 140737488351232) := by show _ ≤ _; omega
    unfold instV formV at hRm
    unfold formV at hWh
    simp only at hRm hWh
    have HRM := hide hRm
    have HWR := hide hWr
    have HWH := hide hWh
    have HLT := hide hLt
    clear hb1 hb2 hb02 hba kB hsz hv0 hv kF kI hv2 hbel kI1 hWh hRm hWr hl hX q0 q1 q2 q3 q4 q5 q6 q7 hSm hLt b0 b1
    have hR1 : idE t xt b 40 ≠ 0 → R = idE t xt b 40 := fun h => by rw [HR.out]; unfold faultI; simp only; rw [if_pos h]
    have hR2 : idE t xt b 40 = 0 → idE r xr b 41 ≠ 0 → R = idE r xr b 41 := fun h1 h => by rw [HR.out]; unfold faultI; simp only; rw [if_neg (by omega), if_pos h]
    have hR3 : idE t xt b 40 = 0 → idE r xr b 41 = 0 → R = (if wrongL (nm, t, r, fx, rs, mo, pa) b 0 xl ≠ 0 then wrongL (nm, t, r, fx, rs, mo, pa) b 0 xl else if wholeN (nm, t, r, fx, rs, mo, pa) xl.length = false then 42 else if 65535 < 1 + (rawL (nm, t, r, fx, rs, mo, pa) (xo, xt, xr, xl)).length then 25 else 0) := fun h1 h2 => by
      rw [HR.out]; unfold faultI; simp only; rw [if_neg (by omega), if_neg (by omega)]
    have HR1 := hide hR1
    have HR2 := hide hR2
    have HR3 := hide hR3
    clear hR1 hR2 hR3
    go_wp2_with fail
    generalize w1.alloc (.cells #[.int .u16 xo, .string nm, .bool t, .bool r, .string fx, .string rs, .int .i64 mo, .int .u8 pa] 81) = W2 at *
    clear i1 i2
    have i2 := (one_block HKI.out).1 2
    have f3 := (one_block HKF.out).1 3
    refine (hI1 _).mono ?_
    rintro e w' ⟨rfl, rfl⟩
    clear hI1
    generalize idE t xt b 40 = e1 at *
    by_cases he1 : e1 = 0
    · subst he1
      go_wp2_with fail
      refine (hI2 _).mono ?_
      rintro e w' ⟨rfl, rfl⟩
      clear hI2
      generalize idE r xr b 41 = e2 at *
      by_cases he2 : e2 = 0
      · subst he2
        have H3 := hide (HR3.out (by trivial) (by trivial))
        clear HR1 HR2 HR3 i2 f3
        go_wp2_with fail
        go_loopw [7, 8] (fun _ i wr => ∃ k : Nat, k ≤ n ∧ i = .int .i64 k ∧ Below W2.heap.size W2 wr ∧ Hid (∀ j, j < k → wrongA (letterI (nm, t, r, fx, rs, mo, pa) (j : Int)) (nthA xl j) b = 0)) (fun _ i _ => n - (intOf i).toNat)
        case atStart => exact ⟨0, Nat.zero_le _, rfl, Below.refl _ _, fun j hj => by omega⟩
        case round =>
          obtain ⟨k, hk, rfl, hbr, HJ⟩ := hrel
          have kIr := (hbr.block _ (by omega)).trans HKI.out
          have kFr := (hbr.block _ hs2).trans HKF.out
          have hvr := HV2.out.below hbr
          have hsr : w.heap.size < wr.heap.size := by have := hbr.size; omega
          have hsf : w1.heap.size < wr.heap.size := by have := hbr.size; omega
          have i3 := (one_block kIr).1 3
          by_cases hlt : k < n
          · have hkl : k < xl.length := by rw [HL.out]; exact hlt
            obtain ⟨g1, o1, rfl, hg1, p1, p2, p3⟩ := hvr k hkl
            have hki : (k : Int) < (n : Int) := by omega
            have hk0 : (0 : Int) ≤ (k : Int) := by omega
            have hkb : (k : Int) < 140737488351232 := by have := HN.out; omega
            have a0 := fun s : InC (Below wr.heap.size wr) => s.cell (p := ⟨w.heap.size, 0, none⟩) hsr ((one_block kIr).1 0)
            have a3 := fun s : InC (Below wr.heap.size wr) => s.cell (p := ⟨w.heap.size, 3, none⟩) hsr ((one_block kIr).1 3)
            have b1 := fun s : InC (Below wr.heap.size wr) => s.cell (p := ⟨g1, o1 + k * 3, none⟩) hg1 p1
            have b2 := fun s : InC (Below wr.heap.size wr) => s.cell (p := ⟨g1, o1 + k * 3 + 1, none⟩) hg1 p2
            have b3 := fun s : InC (Below wr.heap.size wr) => s.cell (p := ⟨g1, o1 + k * 3 + 2, none⟩) hg1 p3
            have hne : Nonempty (InC (Below wr.heap.size wr)) := ⟨⟨wr, Below.refl _ _⟩⟩
            have hbl := below_drew wr
            have hK := fun s : InC (Below wr.heap.size wr) => Calls.inC s (HLT.out (k : Int) s.w (by have := HN.out; omega))
            have hW := fun (c : Int) (s : InC (Below wr.heap.size wr)) => Calls.inC s (HWR.out k s.w hkl c)
            unfold argV at hW
            have HW1 := hide (wrongL_first (f := (nm, t, r, fx, rs, mo, pa)) (b := b) (l := xl) (k := 0) (j := k) hkl (fun i hi => by rw [Nat.zero_add]; exact HJ.out i hi))
            have HH : Hid (wrongA (letterI (nm, t, r, fx, rs, mo, pa) (k : Int)) (nthA xl k) b ≠ 0 → R = wrongA (letterI (nm, t, r, fx, rs, mo, pa) (k : Int)) (nthA xl k) b) := fun h => by
              have e := HW1.out (by rw [Nat.zero_add]; exact h)
              rw [Nat.zero_add] at e
              rw [H3.out, e, if_pos h]
            obtain ⟨E, hE⟩ : ∃ E, E = wrongA (letterI (nm, t, r, fx, rs, mo, pa) (k : Int)) (nthA xl k) b := ⟨_, rfl⟩
            have hW' := hW (letterI (nm, t, r, fx, rs, mo, pa) (k : Int))
            rw [← hE] at hW' HH
            have HE : Hid (E = 0 → wrongA (letterI (nm, t, r, fx, rs, mo, pa) (k : Int)) (nthA xl k) b = 0) := fun h => by rw [← hE]; exact h
            clear hW hE HW1 H3 HWR HWH HRM HLT HFEW kFr kIr hvr p1 p2 p3 HV2 HKI HKF
            generalize letterI (nm, t, r, fx, rs, mo, pa) (k : Int) = c at hK hW'
            generalize nthA xl k = z at b1 b2 b3 hW'
            obtain ⟨z1, z2, z3⟩ := z
            simp only at b1 b2 b3 hW'
            go_wp2_with fail
            refine wp_region_class (C := Below wr.heap.size wr) (by kernel_rfl) (by kernel_rfl) hbl ?_
            repeat (go_big_quiet_step ((first | (go_at_call 50; exact hK _) | (go_at_call 49; exact hW' _))))
            refine wpQuiet_nil ?_
            rintro _ ⟨s, rfl⟩
            have hbs := hbr.trans (s.ok.mono hbr.size)
            have hfin := HBEL.out.trans (hbs.mono HBEL.out.size)
            clear hne hK hW' a0 a3 b1 b2 b3 hbr
            generalize s.w = W3 at *
            by_cases hE0 : E = 0
            · subst hE0
              go_wp2_with fail
              go_roundw
              case rel => exact ⟨k + 1, by omega, by have := HN.out; go_num, hbs, fun j hj => if e : j = k then (by subst e; exact HE.out rfl) else HJ.out j (by omega)⟩
              case measure => have := HN.out; simp [intOf]; omega
            · have hE' : (E != 0) = true := by simp [hE0]
              have e9 := HH.out hE0
              go_wp2_with fail
              go_ret
              exact ⟨by rw [e9]; rfl, hfin⟩
          · obtain rfl : k = n := by omega
            have hWL : wrongL (nm, t, r, fx, rs, mo, pa) b 0 xl = 0 := wrongL_none fun i hi => by rw [Nat.zero_add]; exact HJ.out i (by rw [← HL.out]; exact hi)
            have hfew := HFEW.out (fun i hi => HJ.out i (by rw [← HL.out]; exact hi))
            have H4 := H3.out
            rw [if_neg (by omega), HL.out] at H4
            have HFW := hide hfew
            have H5 := hide H4
            have hfr := HBEL.out.trans (hbr.mono HBEL.out.size)
            obtain ⟨d0, d1, d2, d3, d4, d5, d6, d7, df⟩ := frm_cells (n := xo) (f := (nm, t, r, fx, rs, mo, pa)) kFr
            simp only at d0 d1 d2 d3 d4 d5 d6 d7
            have hWh := HWH.out
            have HVR := hide hvr
            have HKF2 := hide kFr
            have HKI2 := hide kIr
            clear hWL hfew H4 H3 HLT HWR HFEW hvr hbr kFr kIr HV2 HKI HKF HJ df HWH
            go_wp2_with fail
            refine (hWh _).mono ?_
            rintro e w4 ⟨rfl, hb4⟩
            have kI4 := (hb4.block _ hsr).trans HKI2.out
            have kF4 := (hb4.block _ hsf).trans HKF2.out
            have hv4 := HVR.out.below hb4
            have hf4 := hfr.trans (hb4.mono hfr.size)
            clear hWh HKF2 HKI2 HVR hfr hb4 d0 d1 d2 d3 d4 d5 d6 d7 i3
            cases hwh : wholeN (nm, t, r, fx, rs, mo, pa) (k : Int)
            · have e9 := H5.out
              rw [hwh, if_pos rfl] at e9
              go_wp2_with fail
              go_ret
              exact ⟨by rw [e9]; rfl, hf4⟩
            · have e9 := H5.out
              rw [hwh, if_neg (by simp)] at e9
              have hRm := HRM.out w4 hv4 HFW.out
              obtain ⟨d0, d1, d2, d3, d4, d5, d6, d7, df⟩ := frm_cells (n := xo) (f := (nm, t, r, fx, rs, mo, pa)) kF4
              simp only at d0 d1 d2 d3 d4 d5 d6 d7
              have i0 := (one_block kI4).1 0
              have i1 := (one_block kI4).1 1
              have i2 := (one_block kI4).1 2
              have i3 := (one_block kI4).1 3
              have H9 := hide e9
              generalize hln : (rawL (nm, t, r, fx, rs, mo, pa) (xo, xt, xr, xl)).length = ln at *
              clear hln e9 kF4 kI4 hv4 HRM HFW H5 df
              go_wp2_with fail
              refine hRm.mono ?_
              rintro e w5 ⟨rfl, hb5⟩
              have hf5 := hf4.trans (hb5.mono hf4.size)
              clear hRm hb5 hf4 d0 d1 d2 d3 d4 d5 d6 d7 i0 i1 i2 i3
              by_cases hgt : 65535 < 1 + ln
              · have e9 := H9.out
                rw [if_pos hgt] at e9
                have hd : decide ((65535 : Int) < 1 + (ln : Int)) = true := decide_eq_true (by omega)
                clear hgt
                go_wp2_with fail
                go_ret
                exact ⟨by rw [e9]; rfl, hf5⟩
              · have e9 := H9.out
                rw [if_neg hgt] at e9
                have hd : decide ((65535 : Int) < 1 + (ln : Int)) = false := decide_eq_false (by omega)
                clear hgt
                go_wp2_with fail
                go_ret
                exact ⟨by rw [e9]; rfl, hf5⟩
      · have he2' : (e2 != 0) = true := by simp [he2]
        have e9 := HR2.out (by trivial) he2
        clear HR1 HR2 HR3
        go_wp2_with fail
        go_ret
        exact ⟨by rw [e9]; rfl, HBEL.out⟩
    · have he1' : (e1 != 0) = true := by simp [he1]
      have e9 := HR1.out he1
      clear HR1 HR2 HR3
      go_wp2_with fail
      go_ret
      exact ⟨by rw [e9]; rfl, HBEL.out⟩
  · have h0' : (lookF refT xo).2 = false := by simpa using h0
    have eV : ofV xo = formV 0 noFrm := by unfold ofV; rw [if_neg h0]
    rw [eV, h0']
    unfold rawE at hR
    rw [if_neg h0] at hR
    subst hR
    have hbel := hba.trans (hb1.mono (by omega))
    unfold formV noFrm
    simp only
    clear hb1 hba kB hv0 hv
    go_wp2_with fail
    go_ret
    exact ⟨rfl, hbel.alloc hbel.size _⟩

end Go.Proofs.Ytjckgnpbjekhbaa

/-
  What Shape of the document's answer returns: what is wrong with a module, and where.
-/
namespace Go.Proofs.Ytjckgnpbjekhbaa
open Go.RowKit
set_option linter.unusedVariables false
set_option linter.unusedSimpArgs false
set_option maxRecDepth 10000

set_option maxHeartbeats 4000000 in
theorem refShape4_any (gn b : Int) (ax : Option Addr) (n cx : Nat) (l : List InstT) (w : World) (hv : InstsV w ax l) (hok : InstsOk l) (hl : l.length = n) (hn : 40 * n ≤ 140737488351232) (b0 : 0 ≤ b) (b1 : b < 4294967296) :
    Calls Try.prog 22 #[modV gn b ax n cx] w fun e w' => e = .returned (.agg #[.int .i64 (shapeE b l).1, .int .i64 ((shapeE b l).2 : Int)]) ∧ Below w.heap.size w w' := by
  unfold modV
  have hbel : Below w.heap.size w ((w.alloc (.cells #[.int .u32 gn, .int .u32 b, .slice ax n cx] 25)).alloc (.cells #[.int .i64 0, .int .i64 0] 31)) := ((Below.refl _ w).alloc (Nat.le_refl _) _).alloc (by simp) _
  have kM : ((w.alloc (.cells #[.int .u32 gn, .int .u32 b, .slice ax n cx] 25)).alloc (.cells #[.int .i64 0, .int .i64 0] 31)).heap[w.heap.size]? = some (.cells #[.int .u32 gn, .int .u32 b, .slice ax n cx] 25 (0, 0)) := (Below.heap_alloc _ _ _ (by simp)).trans (alloc_new w _ _)
  have kS : ((w.alloc (.cells #[.int .u32 gn, .int .u32 b, .slice ax n cx] 25)).alloc (.cells #[.int .i64 0, .int .i64 0] 31)).heap[w.heap.size + 1]? = some (.cells #[.int .i64 0, .int .i64 0] 31 (0, 0)) := by simpa using alloc_new (w.alloc (.cells #[.int .u32 gn, .int .u32 b, .slice ax n cx] 25)) #[.int .i64 0, .int .i64 0] 31
  by_cases hb : b = 0 ∨ 65536 < b
  · have e1 : shapeE b l = (24, 0) := by unfold shapeE; rw [if_pos hb]
    rw [e1]
    clear hv hok hl e1 kM kS
    by_cases hb0 : b = 0
    · subst hb0
      go_enter Try.func22, Try.ntmps22
      go_wp2
      refine bodyPost_ret (v := .agg #[.int .i64 24, .int .i64 0]) ?_ rfl ⟨rfl, ?_⟩
      · simp [results, Try.results22, go_sem]
      · exact ((Below.refl _ w).alloc (Nat.le_refl _) _).alloc (by simp) _
    · have hb0' : (b == 0) = false := by simpa using hb0
      have hb1' : decide ((65536 : Int) < b) = true := decide_eq_true (by omega)
      clear hb hb0
      go_enter Try.func22, Try.ntmps22
      go_wp2
      refine bodyPost_ret (v := .agg #[.int .i64 24, .int .i64 0]) ?_ rfl ⟨rfl, ?_⟩
      · simp [results, Try.results22, go_sem]
      · exact ((Below.refl _ w).alloc (Nat.le_refl _) _).alloc (by simp) _
  · have hb0' : (b == 0) = false := by simp; omega
    have hb1' : decide ((65536 : Int) < b) = false := decide_eq_false (by omega)
    obtain ⟨R, hR⟩ : ∃ R, R = shapeE b l := ⟨_, rfl⟩
    rw [← hR]
    have hR0 : R = shapeF b 0 (sizeTo (rawsL b l) 0) (l.drop 0) := by rw [hR]; unfold shapeE; rw [if_neg hb]; rfl
    have HR0 := hide hR0
    have HST : Hid (∀ k, k < n → shapeF b k (sizeTo (rawsL b l) k) (l.drop k) = if rawE (nthI l k) b ≠ 0 then (rawE (nthI l k) b, k) else if 1048576 < sizeTo (rawsL b l) (k + 1) then (4, k) else shapeF b (k + 1) (sizeTo (rawsL b l) (k + 1)) (l.drop (k + 1))) := fun k hk => shape_step b l k (by omega)
    have HSZ : Hid (∀ k, k < n → sizeTo (rawsL b l) (k + 1) = sizeTo (rawsL b l) k + 1 + (rawWs (nthI l k) b).length) := fun k hk => by
      rw [sizeTo_succ _ _ (by rw [rawsL_len]; omega), nthR_raws b l k (by omega)]
    have HEN : Hid (∀ k, n ≤ k → shapeF b k (sizeTo (rawsL b l) k) (l.drop k) = (0, 0)) := fun k hk => shape_end b l k _ (by omega)
    have HV := hide (hv.below hbel)
    have HBEL := hide hbel
    have HM := hide kM
    have HS := hide kS
    have HL := hide hl
    have HOK := hide hok
    have HN : Hid (40 * n ≤ 140737488351232) := hn
    have HBB : Hid (0 ≤ b ∧ b < 4294967296) := ⟨b0, b1⟩
    clear hv hok hl hn hb hR hR0 hbel kM kS b0 b1
    go_enter Try.func22, Try.ntmps22
    go_wp2
    generalize hW : (w.alloc (.cells #[.int .u32 gn, .int .u32 b, .slice ax n cx] 25)).alloc (.cells #[.int .i64 0, .int .i64 0] 31) = W at *
    have sS := (Array.getElem?_eq_some_iff.1 HS.out).1
    clear hW
    go_loopw [3, 4] (fun u i wr => ∃ k : Nat, k ≤ n ∧ i = .int .i64 k ∧ u = .int .i64 (sizeTo (rawsL b l) k : Int) ∧ Below W.heap.size W wr ∧ Hid (sizeTo (rawsL b l) k ≤ 1048576) ∧ Hid (R = shapeF b k (sizeTo (rawsL b l) k) (l.drop k))) (fun _ i _ => n - (intOf i).toNat)
    case atStart => exact ⟨0, Nat.zero_le _, rfl, rfl, Below.refl _ _, by show (5 : Nat) ≤ _; omega, HR0⟩
    case round =>
      obtain ⟨k, hk, rfl, rfl, hbr, HLE, HRK⟩ := hrel
      clear HR0
      have kMr := (hbr.block _ (by omega)).trans HM.out
      have kSr := (hbr.block _ sS).trans HS.out
      have hvr := HV.out.below hbr
      have sr : w.heap.size + 1 < wr.heap.size := Nat.lt_of_lt_of_le sS hbr.size
      have m2 := (one_block kMr).1 2
      have hfr := HBEL.out.trans (hbr.mono HBEL.out.size)
      have hkb : (k : Int) < 140737488351232 := by have := HN.out; omega
      by_cases hlt : k < n
      · have hkl : k < l.length := by rw [HL.out]; exact hlt
        obtain ⟨g1, o1, aj, cj, nj, rfl, hg1, p1, p2, p3, p4, p5, p6, p7⟩ := hvr k hkl
        have hki : (k : Int) < (n : Int) := by omega
        have hk0 : (0 : Int) ≤ (k : Int) := by omega
        have hS1 := HST.out k hlt
        have hS2 := HSZ.out k hlt
        rw [← HRK.out] at hS1
        have HS1 := hide hS1
        have HS2 := hide hS2
        have a1 := fun s : InC (Below wr.heap.size wr) => s.cell (p := ⟨w.heap.size, 1, none⟩) (by show w.heap.size < _; omega) ((one_block kMr).1 1)
        have a2 := fun s : InC (Below wr.heap.size wr) => s.cell (p := ⟨w.heap.size, 2, none⟩) (by show w.heap.size < _; omega) ((one_block kMr).1 2)
        have q1 := fun s : InC (Below wr.heap.size wr) => s.cell (p := ⟨g1, o1 + k * 4, none⟩) hg1 p1
        have q2 := fun s : InC (Below wr.heap.size wr) => s.cell (p := ⟨g1, o1 + k * 4 + 1, none⟩) hg1 p2
        have q3 := fun s : InC (Below wr.heap.size wr) => s.cell (p := ⟨g1, o1 + k * 4 + 2, none⟩) hg1 p3
        have q4 := fun s : InC (Below wr.heap.size wr) => s.cell (p := ⟨g1, o1 + k * 4 + 3, none⟩) hg1 p4
        have hne : Nonempty (InC (Below wr.heap.size wr)) := ⟨⟨wr, Below.refl _ _⟩⟩
        have hbl := below_drew wr
        have hF := fun s : InC (Below wr.heap.size wr) => Calls.inC s (refFault4_any (nthI l k) b aj nj cj s.w (p6.below s.ok) (HOK.out k hkl) p5 HBB.out.1 HBB.out.2)
        have HIK := hide (HOK.out k hkl)
        have HP := hide (show wr.cell? ⟨g1, o1 + k * 4, none⟩ = some (.int .u16 (nthI l k).1) ∧ wr.cell? ⟨g1, o1 + k * 4 + 1, none⟩ = some (.int .u32 (nthI l k).2.1) ∧ wr.cell? ⟨g1, o1 + k * 4 + 2, none⟩ = some (.int .u32 (nthI l k).2.2.1) ∧ wr.cell? ⟨g1, o1 + k * 4 + 3, none⟩ = some (.slice aj nj cj) ∧ (nthI l k).2.2.2.length = nj ∧ ArgsV wr aj (nthI l k).2.2.2 from ⟨p1, p2, p3, p4, p5, p6⟩)
        have HMr := hide kMr
        have HSr := hide kSr
        clear hS1 hS2 p1 p2 p3 p4 p5 p6 p7 hvr kMr kSr HST HSZ HEN HV HM HS HOK HRK
        generalize hz : nthI l k = z at *
        clear hz
        have hRL : rawE z b = 0 → (lookF refT z.1).2 = true ∧ rawWs z b = rawL (lookF refT z.1).1 z ∧ (rawL (lookF refT z.1).1 z).length ≤ 65535 := fun h => by
          obtain ⟨h1, h2, h3⟩ := rawWs_ok h
          have := faultI_zero h2
          exact ⟨h1, h3, by omega⟩
        have HRL := hide hRL
        clear hRL
        generalize hE : rawE z b = E at *
        clear hE
        obtain ⟨zo, zt, zr, zl⟩ := z
        unfold instV at hF
        simp only at *
        go_wp2_with fail
        refine wp_region_class (C := Below wr.heap.size wr) (by kernel_rfl) (by kernel_rfl) hbl ?_
        repeat (go_big_quiet_step ((go_at_call 38; exact hF _)))
        refine wpQuiet_nil ?_
        rintro _ ⟨s, rfl⟩
        have hbs := hbr.trans (s.ok.mono hbr.size)
        have hfs := hfr.trans (s.ok.mono hfr.size)
        have kM3 := (s.ok.block _ (by omega)).trans HMr.out
        have kS3 := (s.ok.block _ sr).trans HSr.out
        have s3 : w.heap.size + 1 < s.w.heap.size := Nat.lt_of_lt_of_le sr s.ok.size
        have r1 := q1 s
        have r2 := q2 s
        have r3 := q3 s
        have r4 := q4 s
        have r6 := HP.out.2.2.2.2.2.below s.ok
        have sg : g1 < s.w.heap.size := Nat.lt_of_lt_of_le hg1 s.ok.size
        clear hne hF a1 a2 q1 q2 q3 q4 hbr hfr hbl HMr HSr
        generalize s.w = W3 at *
        have m2 := (one_block kM3).1 2
        by_cases hE0 : E = 0
        · subst hE0
          obtain ⟨t1, t2, t3⟩ := HRL.out (by trivial)
          have hOf := fun wx => refOf_any zo wx
          have eV : ofV zo = formV zo (lookF refT zo).1 := by unfold ofV; rw [if_pos t1]
          rw [eV, t1] at hOf
          have H2 := HS2.out
          rw [t2] at H2
          have hRm := fun (wx : World) (f : Frm) (h : (lookF refT zo).1 = f) (hvx : ArgsV wx aj zl) => refRoom4_any (zo, zt, zr, zl) zo f aj nj cj wx hvx HIK.out HP.out.2.2.2.2.1 (by
            have : (wordsL zl).length ≤ (rawL (lookF refT zo).1 (zo, zt, zr, zl)).length := by unfold rawL; simp
            simp only; omega)
          generalize hf : (lookF refT zo).1 = f at *
          have hRm' := fun wx => hRm wx f rfl
          clear hRm hf eV t1 t2
          generalize hLn : (rawL f (zo, zt, zr, zl)).length = ln at *
          clear hLn
          have HT3 := hide t3
          have HH2 := hide H2
          have HRM := hide hRm'
          clear t3 H2 hRm' HS2
          obtain ⟨nm, t, r, fx, rs, mo, pa⟩ := f
          unfold formV at hOf HRM
          unfold instV at HRM
          simp only at hOf HRM
          go_wp2_with fail
          refine (hOf _).mono ?_
          rintro e w4 ⟨rfl, hb4⟩
          have hba : Below w4.heap.size w4 (w4.alloc (.cells #[.int .u16 zo, .string nm, .bool t, .bool r, .string fx, .string rs, .int .i64 mo, .int .u8 pa] 81)) := (Below.refl _ _).alloc (Nat.le_refl _) _
          have hb4a := hb4.trans (hba.mono hb4.size)
          have kM4 := (hb4a.block _ (by omega)).trans kM3
          have kS4 := (hb4a.block _ s3).trans kS3
          have kF4 := alloc_new w4 #[.int .u16 zo, .string nm, .bool t, .bool r, .string fx, .string rs, .int .i64 mo, .int .u8 pa] 81
          have u1 := (hb4a.cell (p := ⟨g1, o1 + k * 4, none⟩) sg).trans r1
          have u2 := (hb4a.cell (p := ⟨g1, o1 + k * 4 + 1, none⟩) sg).trans r2
          have u3 := (hb4a.cell (p := ⟨g1, o1 + k * 4 + 2, none⟩) sg).trans r3
          have u4 := (hb4a.cell (p := ⟨g1, o1 + k * 4 + 3, none⟩) sg).trans r4
          have u6 := r6.below hb4a
          have hbs4 := hbs.trans (hb4a.mono hbs.size)
          have hfs4 := hfs.trans (hb4a.mono hfs.size)
          have sg4 : g1 < (w4.alloc (.cells #[.int .u16 zo, .string nm, .bool t, .bool r, .string fx, .string rs, .int .i64 mo, .int .u8 pa] 81)).heap.size := Nat.lt_of_lt_of_le sg hb4a.size
          have sF4 : w4.heap.size < (w4.alloc (.cells #[.int .u16 zo, .string nm, .bool t, .bool r, .string fx, .string rs, .int .i64 mo, .int .u8 pa] 81)).heap.size := by simp
          have s4 : w.heap.size + 1 < (w4.alloc (.cells #[.int .u16 zo, .string nm, .bool t, .bool r, .string fx, .string rs, .int .i64 mo, .int .u8 pa] 81)).heap.size := Nat.lt_of_lt_of_le s3 hb4a.size
          clear hOf hb4 hba hb4a r1 r2 r3 r4 r6 kM3 kS3 m2 hbs hfs
          go_wp2_with fail
          generalize hW4 : w4.alloc (.cells #[.int .u16 zo, .string nm, .bool t, .bool r, .string fx, .string rs, .int .i64 mo, .int .u8 pa] 81) = W4 at *
          clear hW4
          have a2 := fun s : InC (Below W4.heap.size W4) => s.cell (p := ⟨w.heap.size, 2, none⟩) (by show w.heap.size < _; omega) ((one_block kM4).1 2)
          have q1 := fun s : InC (Below W4.heap.size W4) => s.cell (p := ⟨g1, o1 + k * 4, none⟩) sg4 u1
          have q2 := fun s : InC (Below W4.heap.size W4) => s.cell (p := ⟨g1, o1 + k * 4 + 1, none⟩) sg4 u2
          have q3 := fun s : InC (Below W4.heap.size W4) => s.cell (p := ⟨g1, o1 + k * 4 + 2, none⟩) sg4 u3
          have q4 := fun s : InC (Below W4.heap.size W4) => s.cell (p := ⟨g1, o1 + k * 4 + 3, none⟩) sg4 u4
          obtain ⟨d0, d1, d2, d3, d4, d5, d6, d7, df⟩ := frm_cells (n := zo) (f := (nm, t, r, fx, rs, mo, pa)) kF4
          simp only at d0 d1 d2 d3 d4 d5 d6 d7
          have v0 := fun s : InC (Below W4.heap.size W4) => s.cell (p := ⟨w4.heap.size, 0, none⟩) sF4 d0
          have v1 := fun s : InC (Below W4.heap.size W4) => s.cell (p := ⟨w4.heap.size, 1, none⟩) sF4 d1
          have v2 := fun s : InC (Below W4.heap.size W4) => s.cell (p := ⟨w4.heap.size, 2, none⟩) sF4 d2
          have v3 := fun s : InC (Below W4.heap.size W4) => s.cell (p := ⟨w4.heap.size, 3, none⟩) sF4 d3
          have v4 := fun s : InC (Below W4.heap.size W4) => s.cell (p := ⟨w4.heap.size, 4, none⟩) sF4 d4
          have v5 := fun s : InC (Below W4.heap.size W4) => s.cell (p := ⟨w4.heap.size, 5, none⟩) sF4 d5
          have v6 := fun s : InC (Below W4.heap.size W4) => s.cell (p := ⟨w4.heap.size, 6, none⟩) sF4 d6
          have v7 := fun s : InC (Below W4.heap.size W4) => s.cell (p := ⟨w4.heap.size, 7, none⟩) sF4 d7
          have hne : Nonempty (InC (Below W4.heap.size W4)) := ⟨⟨W4, Below.refl _ _⟩⟩
          have hbl := below_drew W4
          have hM := fun s : InC (Below W4.heap.size W4) => Calls.inC s (HRM.out s.w (u6.below s.ok))
          have hsz := HLE.out
          generalize hszk : sizeTo (rawsL b l) k = szk at *
          have hln := HT3.out
          have hwr : IntKind.i64.wrap ((szk : Int) + (1 + (ln : Int))) = (szk : Int) + (1 + (ln : Int)) := by rw [IntKind.wrap_i64]; omega
          have hwr2 : IntKind.i64.wrap ((szk : Int) + ((1 + ln : Nat) : Int)) = (szk : Int) + (1 + (ln : Int)) := by rw [IntKind.wrap_i64]; omega
          have HSK := hide hsz
          clear d0 d1 d2 d3 d4 d5 d6 d7 df u1 u2 u3 u4 u6 kF4 hszk hln hsz
          refine wp_region_class (C := Below W4.heap.size W4) (by kernel_rfl) (by kernel_rfl) hbl ?_
          repeat (go_big_quiet_step ((go_at_call 40; exact hM _)))
          refine wpQuiet_nil ?_
          rintro _ ⟨s, rfl⟩
          have hbs5 := hbs4.trans (s.ok.mono hbs4.size)
          have hfs5 := hfs4.trans (s.ok.mono hfs4.size)
          have kS5 := (s.ok.block _ s4).trans kS4
          have s5 : w.heap.size + 1 < s.w.heap.size := Nat.lt_of_lt_of_le s4 s.ok.size
          clear hne hM a2 q1 q2 q3 q4 v0 v1 v2 v3 v4 v5 v6 v7 hbs4 hfs4 hbl kM4 kS4
          generalize s.w = W5 at *
          by_cases hgt : 1048576 < szk + 1 + ln
          · have e9 := HS1.out
            rw [if_neg (by simp), HH2.out, if_pos hgt] at e9
            subst e9
            have hd : decide ((1048576 : Int) < (szk : Int) + (1 + (ln : Int))) = true := decide_eq_true (by omega)
            obtain ⟨mm, mf⟩ := one_block kS5
            have x0 := mm 0
            have x1 := mm 1
            have HB3 := hide (two_put2 kS5 (.int .i64 4) (.int .i64 (k : Int)))
            have HBel := hide ((hfs5.setCell (p := ⟨w.heap.size + 1, 0, none⟩) (by simp) (.int .i64 4)).setCell (p := ⟨w.heap.size + 1, 1, none⟩) (by simp) (.int .i64 (k : Int)))
            clear kS5 mm hfs5 hgt
            go_wp2_with fail
            generalize (W5.setCell _ _).setCell _ _ = W9 at *
            obtain ⟨hd, _⟩ := one_block HB3.out
            have d0 := hd 0
            have d1 := hd 1
            refine bodyPost_ret (v := .agg #[.int .i64 4, .int .i64 (k : Int)]) ?_ rfl ⟨rfl, HBel.out⟩
            simp [results, Try.results22, go_sem, d0, d1]
          · have e9 := HS1.out
            rw [if_neg (by simp), HH2.out, if_neg hgt] at e9
            have HE9 := hide e9
            have hd : decide ((1048576 : Int) < (szk : Int) + (1 + (ln : Int))) = false := decide_eq_false (by omega)
            have HGT : Hid (szk + 1 + ln ≤ 1048576) := by show _ ≤ _; omega
            clear e9 hgt
            go_wp2_with fail
            go_roundw
            case rel => exact ⟨k + 1, by omega, by go_num, by rw [HH2.out]; refine congrArg (Value.int .i64) ?_; omega, hbs5, by show _ ≤ _; rw [HH2.out]; exact HGT.out, by show _ = _; rw [HH2.out]; exact HE9.out⟩
            case measure => simp [intOf]; omega
        · have hE' : (E != 0) = true := by simp [hE0]
          have e9 := HS1.out
          rw [if_pos hE0] at e9
          subst e9
          obtain ⟨mm, mf⟩ := one_block kS3
          have x0 := mm 0
          have x1 := mm 1
          have HB3 := hide (two_put2 kS3 (.int .i64 E) (.int .i64 (k : Int)))
          have HBel := hide ((hfs.setCell (p := ⟨w.heap.size + 1, 0, none⟩) (by simp) (.int .i64 E)).setCell (p := ⟨w.heap.size + 1, 1, none⟩) (by simp) (.int .i64 (k : Int)))
          clear kS3 mm hfs
          go_wp2_with fail
          generalize (W3.setCell _ _).setCell _ _ = W9 at *
          obtain ⟨hd, _⟩ := one_block HB3.out
          have d0 := hd 0
          have d1 := hd 1
          refine bodyPost_ret (v := .agg #[.int .i64 E, .int .i64 (k : Int)]) ?_ rfl ⟨rfl, HBel.out⟩
          simp [results, Try.results22, go_sem, d0, d1]
      · obtain rfl : k = n := by omega
        have e9 := HRK.out
        rw [HEN.out k (Nat.le_refl _)] at e9
        subst e9
        obtain ⟨mm, mf⟩ := one_block kSr
        have x0 := mm 0
        have x1 := mm 1
        have HB3 := hide (two_put2 kSr (.int .i64 0) (.int .i64 0))
        have HBel := hide ((hfr.setCell (p := ⟨w.heap.size + 1, 0, none⟩) (by simp) (.int .i64 0)).setCell (p := ⟨w.heap.size + 1, 1, none⟩) (by simp) (.int .i64 0))
        clear kSr mm hfr hvr
        go_wp2_with fail
        generalize (wr.setCell _ _).setCell _ _ = W9 at *
        obtain ⟨hd, _⟩ := one_block HB3.out
        have d0 := hd 0
        have d1 := hd 1
        refine bodyPost_ret (v := .agg #[.int .i64 0, .int .i64 0]) ?_ rfl ⟨rfl, HBel.out⟩
        simp [results, Try.results22, go_sem, d0, d1]

end Go.Proofs.Ytjckgnpbjekhbaa

/-
  What Ids of the document's answer returns, for every instruction.
-/
namespace Go.Proofs.Ytjckgnpbjekhbaa
open Go.RowKit
set_option linter.unusedVariables false
set_option linter.unusedSimpArgs false
set_option maxRecDepth 10000

end Go.Proofs.Ytjckgnpbjekhbaa

/-
  Uses of the package ids, and the document's Uses: the places of the instructions that name an id.
-/
namespace Go.Proofs.Ytjckgnpbjekhbaa
open Go.RowKit
set_option linter.unusedVariables false
set_option linter.unusedSimpArgs false
set_option maxRecDepth 10000

theorem IntsU.info : (Try.prog.info? 3).map (fun i => (i.zero, i.size, i.bytes)) = some (some (.int .i64 0), 1, 8) := by kernel_rfl

/-- A row of places while it is built, behind three boxes, the third at B. -/
structure UseS (w wr : World) (B : Nat) (gen bnd : Int) (a : Option Addr) (n c : Nat) (v : Value) (zs : List Int) : Prop where
  own : wr.ownsRow (B + 1) 3 1 v zs.length (zs.map (Value.int .i64))
  mbox : wr.heap[w.heap.size]? = some (.cells #[.int .u32 gen, .int .u32 bnd, .slice a n c] 25 (0, 0))
  sbox : wr.heap[w.heap.size + 1]? = some (.cells #[.int .i64 0, .int .i64 0] 31 (0, 0))
  tbox : wr.heap[B]? = some (.cells #[.int .i64 0, .int .i64 0] 31 (0, 0))
  bel : Below w.heap.size w wr
  lt : w.heap.size + 1 < B
theorem UseS.below {w wr wr' : World} {B : Nat} {gen bnd : Int} {a : Option Addr} {n c : Nat} {v : Value} {zs : List Int} (h : UseS w wr B gen bnd a n c v zs) (hb : Below wr.heap.size wr wr') : UseS w wr' B gen bnd a n c v zs :=
  ⟨own_below h.own hb, (hb.block _ (Array.getElem?_eq_some_iff.1 h.mbox).1).trans h.mbox, (hb.block _ (Array.getElem?_eq_some_iff.1 h.sbox).1).trans h.sbox, (hb.block _ (Array.getElem?_eq_some_iff.1 h.tbox).1).trans h.tbox, h.bel.trans (hb.mono h.bel.size), h.lt⟩
theorem UseS.push {w wr w5 : World} {B : Nat} {gen bnd : Int} {a : Option Addr} {n c : Nat} {v v' : Value} {zs : List Int} {y : Int} (h : UseS w wr B gen bnd a n c v zs) (hg : wr.grownBy w5 v.ownBlock) (hown : w5.ownsRow (B + 1) 3 1 v' (zs.length + 1) (zs.map (Value.int .i64) ++ [.int .i64 y])) : UseS w w5 B gen bnd a n c v' (zs ++ [y]) := by
  have hlo : ∀ g, v.ownBlock = some g → B + 1 ≤ g := fun g e => (h.own.lt g e).1
  have hlt := h.lt
  have kk : ∀ i, i < B + 1 → i < wr.heap.size → w5.heap[i]? = wr.heap[i]? := fun i h1 h2 => hg.block i h2 (fun e => by have := hlo _ e.symm; omega)
  refine ⟨?_, ?_, ?_, ?_, ?_, hlt⟩
  · rw [List.length_append, List.map_append]; exact hown
  · exact (kk _ (by omega) (Array.getElem?_eq_some_iff.1 h.mbox).1).trans h.mbox
  · exact (kk _ (by omega) (Array.getElem?_eq_some_iff.1 h.sbox).1).trans h.sbox
  · exact (kk _ (by omega) (Array.getElem?_eq_some_iff.1 h.tbox).1).trans h.tbox
  · exact h.bel.grown hg h.bel.size (fun k e => by have := hlo k e; omega)
theorem own_shapeU {w : World} {lo e size n : Nat} {v : Value} {xs : List Value} (h : w.ownsRow lo e size v n xs) : ∃ a c, v = .slice a n c := by
  rcases h.2 with ⟨rfl, h0⟩ | ⟨g, cap, cur, rfl, _⟩
  · exact ⟨none, 0, by rw [h0]⟩
  · exact ⟨_, _, rfl⟩
theorem own_lowU {w : World} {lo lo' e size n : Nat} {v : Value} {xs : List Value} (h : w.ownsRow lo e size v n xs) (hl : lo' ≤ lo) : w.ownsRow lo' e size v n xs := by
  refine ⟨h.1, ?_⟩
  rcases h.2 with hn0 | ⟨g, cap, cur, e1, hb, rest⟩
  · exact .inl hn0
  · exact .inr ⟨g, cap, cur, e1, by omega, rest⟩

end Go.Proofs.Ytjckgnpbjekhbaa
