/-
  What Split of the document's answer returns, for every list of bytes: its error, and its words in new memory; nothing that was there has turned.
-/
import Derived.WalkSpells
import Derived.Deep.RegionHeld3
import Derived.Deep.DrawnRows
import Derived.Test.YtmmpejhmmgkfkaaProg
import Derived.Test.YtmmpejhmmgkfkaaMath
namespace Go.Proofs.Ytmmpejhmmgkfkaa
open Go.RowKit

theorem RefSplit.info : (Try.prog.info? 33).map (fun i => (i.zero, i.size, i.bytes)) = some (some (.int .u32 0), 1, 4) := by kernel_rfl

theorem refSplit_large (a : Option Addr) (n cap : Nat) (w : World) (h : 4194304 < n) :
    Calls Try.prog 9 #[.slice a n cap] w fun e w' => e = .returned (.tuple #[.slice none 0 0, .int .i64 4]) ∧ w = w' := by
  have h' : (4194304 : Int) < (n : Int) := by omega
  go_enter Try.func9, Try.ntmps9
  go_wp2
  go_ret2
  exact ⟨rfl, rfl⟩

theorem refSplit_odd (a : Option Addr) (n cap : Nat) (w : World) (h : ¬ 4194304 < n) (h2 : ¬ n % 4 = 0) :
    Calls Try.prog 9 #[.slice a n cap] w fun e w' => e = .returned (.tuple #[.slice none 0 0, .int .i64 10]) ∧ w = w' := by
  have h' : ¬ (4194304 : Int) < (n : Int) := by omega
  have h2' : (((n : Int) % 4) == 0) = false := by simp; omega
  go_enter Try.func9, Try.ntmps9
  go_wp2
  go_ret2
  exact ⟨rfl, rfl⟩

set_option maxHeartbeats 1000000 in
theorem refSplit_ok (a : Option Addr) (m cap : Nat) (zs : List Int) (w : World) (ha : View .u8 w a zs) (hl : zs.length = 4 * m) (hw : Within 256 zs) (h : ¬ 4194304 < 4 * m) :
    Calls Try.prog 9 #[.slice a (4 * m) cap] w fun e w' => e = .returned (.tuple #[.slice (some ⟨w.heap.size, 0, none⟩) m m, .int .i64 0]) ∧
      w'.ownsRow w.heap.size 33 1 (.slice (some ⟨w.heap.size, 0, none⟩) m m) m ((splitL zs).map (Value.int .u32)) ∧ Below w.heap.size w w' := by
  obtain ⟨i0, hi, hz0, hz1, hz2⟩ := info_parts RefSplit.info
  have HL : Hid (zs.length = 4 * m) := hl
  have HS : Hid ((splitL zs).length = m) := by rw [splitL_len, hl]; show 4 * m / 4 = m; omega
  clear hl
  have h' : ¬ (4194304 : Int) < 4 * (m : Int) := by omega
  go_enter Try.func9, Try.ntmps9
  go_wp2_with (at_make; refine wpList_make_full _ rfl _ _ 23 rfl w.heap.size 33 i0 (.int .u32 0) 1 Try.underlying23 hi hz0 hz1 _ _ _ _ m rfl rfl (by omega) (by omega) (by rw [hz2]; omega) (by unfold maxLen; omega) (Nat.le_refl _) ?_)
  intro w1 hown1 hgrow1
  have hb1 : Below w.heap.size w w1 := (Below.refl _ w).grown hgrow1 (Nat.le_refl _) (by simp)
  have hr1 := made_row (splitL zs) hown1
  clear hown1 hgrow1
  go_wp2
  go_loopw [5] (fun i wr => ∃ k : Nat, k ≤ m ∧ i = .int .i64 k ∧ wr.ownsRow w.heap.size 33 1 (.slice (some ⟨w.heap.size, 0, none⟩) m m) m ((filled (splitL zs) k m).map (Value.int .u32)) ∧ Below w.heap.size w wr)
    (fun i _ => m - (intOf i).toNat)
  case atStart => exact ⟨0, Nat.zero_le _, rfl, hr1, hb1⟩
  case round =>
    obtain ⟨k, hk, rfl, hown, hnx⟩ := hrel
    clear hr1 hb1
    by_cases hlt : k < m
    · obtain ⟨b, off, rfl, hbs, hc0⟩ := ha (4 * k) (by rw [HL.out]; omega)
      obtain ⟨b', off', e1, _, hc1⟩ := ha (4 * k + 1) (by rw [HL.out]; omega)
      simp at e1
      obtain ⟨rfl, rfl⟩ := e1
      obtain ⟨b', off', e1, _, hc2⟩ := ha (4 * k + 2) (by rw [HL.out]; omega)
      simp at e1
      obtain ⟨rfl, rfl⟩ := e1
      obtain ⟨b', off', e1, _, hc3⟩ := ha (4 * k + 3) (by rw [HL.out]; omega)
      simp at e1
      obtain ⟨rfl, rfl⟩ := e1
      have x0 := hw.at (k := 4 * k) (by rw [HL.out]; omega)
      have x1 := hw.at (k := 4 * k + 1) (by rw [HL.out]; omega)
      have x2 := hw.at (k := 4 * k + 2) (by rw [HL.out]; omega)
      have x3 := hw.at (k := 4 * k + 3) (by rw [HL.out]; omega)
      obtain ⟨d1, d2, d3⟩ := fill_step hown hlt (by rw [HS.out]; exact hlt)
      have HW : Hid (nth (splitL zs) k = nth zs (4 * k) + nth zs (4 * k + 1) * 256 + nth zs (4 * k + 2) * 65536 + nth zs (4 * k + 3) * 16777216) := nth_splitL zs k (by rw [HL.out]; omega)
      rw [HW.out] at d3
      have g0 := (hnx.cell (p := ⟨b, off + 4 * k, none⟩) hbs).trans hc0
      have g1 := (hnx.cell (p := ⟨b, off + (4 * k + 1), none⟩) hbs).trans hc1
      have g2 := (hnx.cell (p := ⟨b, off + (4 * k + 2), none⟩) hbs).trans hc2
      have g3 := (hnx.cell (p := ⟨b, off + (4 * k + 3), none⟩) hbs).trans hc3
      clear hc0 hc1 hc2 hc3 HW hown
      generalize nth zs (4 * k) = c0 at *
      generalize nth zs (4 * k + 1) = c1 at *
      generalize nth zs (4 * k + 2) = c2 at *
      generalize nth zs (4 * k + 3) = c3 at *
      obtain ⟨l0, u0⟩ := x0
      obtain ⟨l1, u1⟩ := x1
      obtain ⟨l2, u2⟩ := x2
      obtain ⟨l3, u3⟩ := x3
      have k0 : (0 : Int) ≤ 4 * (k : Int) := by omega
      have k1 : 4 * (k : Int) + 3 < 4 * (m : Int) := by omega
      have hki : (k : Int) < (m : Int) := by omega
      have hne := World.new_ne wr _ g0
      have D3 : Hid ((wr.setCell ⟨w.heap.size, k, none⟩ (.int .u32 (c0 + c1 * 256 + c2 * 65536 + c3 * 16777216))).ownsRow w.heap.size 33 1 (.slice (some ⟨w.heap.size, 0, none⟩) m m) m ((filled (splitL zs) (k + 1) m).map (Value.int .u32))) := d3
      clear d3 ha
      have i0' : IntKind.i64.wrap (4 * (k : Int)) = 4 * (k : Int) := by rw [IntKind.wrap_i64]; omega
      have i1' : IntKind.i64.wrap (4 * (k : Int) + 1) = 4 * (k : Int) + 1 := by rw [IntKind.wrap_i64]; omega
      have i2' : IntKind.i64.wrap (4 * (k : Int) + 2) = 4 * (k : Int) + 2 := by rw [IntKind.wrap_i64]; omega
      have i3' : IntKind.i64.wrap (4 * (k : Int) + 3) = 4 * (k : Int) + 3 := by rw [IntKind.wrap_i64]; omega
      have n0 : (4 * (k : Int)).toNat = 4 * k := by omega
      have n1 : (4 * (k : Int) + 1).toNat = 4 * k + 1 := by omega
      have n2 : (4 * (k : Int) + 2).toNat = 4 * k + 2 := by omega
      have n3 : (4 * (k : Int) + 3).toNat = 4 * k + 3 := by omega
      have p0 : 4 * (k : Int) < 4 * (m : Int) := by omega
      have p1 : 4 * (k : Int) + 1 < 4 * (m : Int) := by omega
      have p2 : 4 * (k : Int) + 2 < 4 * (m : Int) := by omega
      have q1 : 0 ≤ 4 * (k : Int) + 1 := by omega
      have q2 : 0 ≤ 4 * (k : Int) + 2 := by omega
      have q3 : 0 ≤ 4 * (k : Int) + 3 := by omega
      have v0 : IntKind.u32.wrap c0 = c0 := by rw [IntKind.wrap_u32']; omega
      have v1 : IntKind.u32.wrap c1 = c1 := by rw [IntKind.wrap_u32']; omega
      have v2 : IntKind.u32.wrap c2 = c2 := by rw [IntKind.wrap_u32']; omega
      have v3 : IntKind.u32.wrap c3 = c3 := by rw [IntKind.wrap_u32']; omega
      have y1 : IntKind.u32.wrap (256 * c1) = 256 * c1 := by rw [IntKind.wrap_u32']; omega
      have y2 : IntKind.u32.wrap (65536 * c2) = 65536 * c2 := by rw [IntKind.wrap_u32']; omega
      have y3 : IntKind.u32.wrap (16777216 * c3) = 16777216 * c3 := by rw [IntKind.wrap_u32']; omega
      have z1 : IntKind.u32.wrap (c0 + 256 * c1) = c0 + 256 * c1 := by rw [IntKind.wrap_u32']; omega
      have z2 : IntKind.u32.wrap (c0 + 256 * c1 + 65536 * c2) = c0 + 256 * c1 + 65536 * c2 := by rw [IntKind.wrap_u32']; omega
      have z3 : IntKind.u32.wrap (c0 + 256 * c1 + 65536 * c2 + 16777216 * c3) = c0 + 256 * c1 + 65536 * c2 + 16777216 * c3 := by rw [IntKind.wrap_u32']; omega
      have hfar : ∀ (W : World) (j o : Nat) (u : Value), (W.setCell ⟨w.heap.size, j, none⟩ u).cell? ⟨b, o, none⟩ = W.cell? ⟨b, o, none⟩ := fun W j o u => cell_far (by omega) j o u
      go_wp2
      go_region_held3 (fun w' => w'.cell? ⟨b, off + 4 * k, none⟩ = some (.int .u8 c0) ∧ w'.cell? ⟨b, off + (4 * k + 1), none⟩ = some (.int .u8 c1) ∧ w'.cell? ⟨b, off + (4 * k + 2), none⟩ = some (.int .u8 c2) ∧ w'.cell? ⟨b, off + (4 * k + 3), none⟩ = some (.int .u8 c3)) (go_keep) (fail)
      go_wp2
      go_roundw
      case rel =>
        have e : c0 + 256 * c1 + 65536 * c2 + 16777216 * c3 = c0 + c1 * 256 + c2 * 65536 + c3 * 16777216 := by omega
        exact ⟨k + 1, by omega, by go_num, by rw [e]; exact D3.out.drew, (hnx.setCell (Nat.le_refl _) _).drew⟩
      case measure => simp [intOf]; omega
    · go_wp2
      go_ret2
      obtain rfl : k = m := by omega
      rw [filled_whole _ _ HS.out] at hown
      exact ⟨rfl, hown, hnx⟩

theorem refSplit_any (a : Option Addr) (n cap : Nat) (zs : List Int) (w : World) (ha : View .u8 w a zs) (hl : zs.length = n) (hw : Within 256 zs) :
    Calls Try.prog 9 #[.slice a n cap] w fun e w' => ∃ ax m, e = .returned (.tuple #[.slice ax m m, .int .i64 (splitErr zs)]) ∧ (splitOut zs).length = m ∧ View .u32 w' ax (splitOut zs) ∧ NewAt w.heap.size ax ∧ Below w.heap.size w w' := by
  by_cases h : 4194304 < n
  · refine (refSplit_large a n cap w h).mono ?_
    rintro e w' ⟨rfl, rfl⟩
    rw [splitErr_large zs (by omega), splitOut_large zs (by omega)]
    exact ⟨none, 0, rfl, rfl, view_nil, newAt_none, Below.refl _ _⟩
  · by_cases h2 : n % 4 = 0
    · obtain ⟨m, rfl⟩ : ∃ m, n = 4 * m := ⟨n / 4, by omega⟩
      refine (refSplit_ok a m cap zs w ha hl hw h).mono ?_
      rintro e w' ⟨rfl, hown, hb⟩
      rw [splitErr_ok zs (by omega) (by omega), splitOut_ok zs (by omega) (by omega)]
      have hs : (splitL zs).length = m := by rw [splitL_len, hl]; omega
      exact ⟨_, m, rfl, hs, View.ofRow hown hs, newAt_mk (Nat.le_refl _), hb⟩
    · refine (refSplit_odd a n cap w h h2).mono ?_
      rintro e w' ⟨rfl, rfl⟩
      rw [splitErr_odd zs (by omega) (by omega), splitOut_odd zs (by omega) (by omega)]
      exact ⟨none, 0, rfl, rfl, view_nil, newAt_none, Below.refl _ _⟩

end Go.Proofs.Ytmmpejhmmgkfkaa
