/-
  Texts laid together in one: Ref01Split, Ref02ReadN, Ref01Text2, Ref03Letter, Ref04Heads, Ref04Argument.
-/
import Derived.WalkSpells
import Derived.Deep.RegionHeld3
import Derived.Deep.DrawnRows
import Derived.Test.YteafjokpkljfcaaGreatProg
import Derived.Test.YteafjokpkljfcaaGreatB01
import Derived.BigRegion
import Derived.Deep.AppendLies
import Derived.Deep.QuietTactic
import Derived.BigQuiet
import Derived.Test.YteafjokpkljfcaaGreatB03
import Derived.Test.YteafjokpkljfcaaGreatB08
import Derived.WalkMore
import Derived.Test.YteafjokpkljfcaaGreatB05
import Derived.Test.YteafjokpkljfcaaGreatB07
import Derived.Test.YteafjokpkljfcaaGreatB06
/-
  What Split of the document's answer returns, for every list of bytes: its error, and its words in new memory; nothing that was there has turned.
-/
namespace Go.Proofs.YteafjokpkljfcaaGreat
open Go.RowKit
set_option maxRecDepth 10000

theorem RefSplit.info : (Tryz.prog.info? 23).map (fun i => (i.zero, i.size, i.bytes)) = some (some (.int .u32 0), 1, 4) := by kernel_rfl

theorem refSplit_large (a : Option Addr) (n cap : Nat) (w : World) (h : 4194304 < n) :
    Calls Tryz.prog 11 #[.slice a n cap] w fun e w' => e = .returned (.tuple #[.slice none 0 0, .int .i64 4]) ∧ w = w' := by
  have h' : (4194304 : Int) < (n : Int) := by omega
  go_enter Tryz.func11, Tryz.ntmps11
  go_wp2
  go_ret2
  exact ⟨rfl, rfl⟩

theorem refSplit_odd (a : Option Addr) (n cap : Nat) (w : World) (h : ¬ 4194304 < n) (h2 : ¬ n % 4 = 0) :
    Calls Tryz.prog 11 #[.slice a n cap] w fun e w' => e = .returned (.tuple #[.slice none 0 0, .int .i64 10]) ∧ w = w' := by
  have h' : ¬ (4194304 : Int) < (n : Int) := by omega
  have h2' : (((n : Int) % 4) == 0) = false := by simp; omega
  go_enter Tryz.func11, Tryz.ntmps11
  go_wp2
  go_ret2
  exact ⟨rfl, rfl⟩

set_option maxHeartbeats 1000000 in
theorem refSplit_ok (a : Option Addr) (m cap : Nat) (zs : List Int) (w : World) (ha : View .u8 w a zs) (hl : zs.length = 4 * m) (hw : Within 256 zs) (h : ¬ 4194304 < 4 * m) :
    Calls Tryz.prog 11 #[.slice a (4 * m) cap] w fun e w' => e = .returned (.tuple #[.slice (some ⟨w.heap.size, 0, none⟩) m m, .int .i64 0]) ∧
      w'.ownsRow w.heap.size 23 1 (.slice (some ⟨w.heap.size, 0, none⟩) m m) m ((splitL zs).map (Value.int .u32)) ∧ Below w.heap.size w w' := by
  obtain ⟨i0, hi, hz0, hz1, hz2⟩ := info_parts RefSplit.info
  have HL : Hid (zs.length = 4 * m) := hl
  have HS : Hid ((splitL zs).length = m) := by rw [splitL_len, hl]; show 4 * m / 4 = m; omega
  clear hl
  have h' : ¬ (4194304 : Int) < 4 * (m : Int) := by omega
  go_enter Tryz.func11, Tryz.ntmps11
  go_wp2_with (at_make; refine wpList_make_full _ rfl _ _ 37 rfl w.heap.size 23 i0 (.int .u32 0) 1 Tryz.underlying37 hi hz0 hz1 _ _ _ _ m rfl rfl (by omega) (by omega) (by rw [hz2]; omega) (by unfold maxLen; omega) (Nat.le_refl _) ?_)
  intro w1 hown1 hgrow1
  have hb1 : Below w.heap.size w w1 := (Below.refl _ w).grown hgrow1 (Nat.le_refl _) (by simp)
  have hr1 := made_row (splitL zs) hown1
  clear hown1 hgrow1
  go_wp2
  go_loopw [5] (fun i wr => ∃ k : Nat, k ≤ m ∧ i = .int .i64 k ∧ wr.ownsRow w.heap.size 23 1 (.slice (some ⟨w.heap.size, 0, none⟩) m m) m ((filled (splitL zs) k m).map (Value.int .u32)) ∧ Below w.heap.size w wr)
    (fun i _ => m - (intOf i).toNat)
  case atStart => exact ⟨0, Nat.zero_le _, rfl, hr1, hb1⟩
  case round =>
    obtain ⟨k, hk, rfl, hown, hnx⟩ := hrel
    clear hr1 hb1
    by_cases hlt : k < m
    · obtain ⟨b, off, rfl, hbs, hc0⟩ := ha (4 * k) (by rw [HL.out]; omega)
      obtain ⟨b', off', e1, _, hc1⟩ := ha (4 * k + 1) (by rw [HL.out]; omega)
      simp at e1
      obtain ⟨rfl, rfl⟩ := e1
      obtain ⟨b', off', e1, _, hc2⟩ := ha (4 * k + 2) (by rw [HL.out]; omega)
      simp at e1
      obtain ⟨rfl, rfl⟩ := e1
      obtain ⟨b', off', e1, _, hc3⟩ := ha (4 * k + 3) (by rw [HL.out]; omega)
      simp at e1
      obtain ⟨rfl, rfl⟩ := e1
      have x0 := hw.at (k := 4 * k) (by rw [HL.out]; omega)
      have x1 := hw.at (k := 4 * k + 1) (by rw [HL.out]; omega)
      have x2 := hw.at (k := 4 * k + 2) (by rw [HL.out]; omega)
      have x3 := hw.at (k := 4 * k + 3) (by rw [HL.out]; omega)
      obtain ⟨d1, d2, d3⟩ := fill_step hown hlt (by rw [HS.out]; exact hlt)
      have HW : Hid (nth (splitL zs) k = nth zs (4 * k) + nth zs (4 * k + 1) * 256 + nth zs (4 * k + 2) * 65536 + nth zs (4 * k + 3) * 16777216) := nth_splitL zs k (by rw [HL.out]; omega)
      rw [HW.out] at d3
      have g0 := (hnx.cell (p := ⟨b, off + 4 * k, none⟩) hbs).trans hc0
      have g1 := (hnx.cell (p := ⟨b, off + (4 * k + 1), none⟩) hbs).trans hc1
      have g2 := (hnx.cell (p := ⟨b, off + (4 * k + 2), none⟩) hbs).trans hc2
      have g3 := (hnx.cell (p := ⟨b, off + (4 * k + 3), none⟩) hbs).trans hc3
      clear hc0 hc1 hc2 hc3 HW hown
      generalize nth zs (4 * k) = c0 at *
      generalize nth zs (4 * k + 1) = c1 at *
      generalize nth zs (4 * k + 2) = c2 at *
      generalize nth zs (4 * k + 3) = c3 at *
      obtain ⟨l0, u0⟩ := x0
      obtain ⟨l1, u1⟩ := x1
      obtain ⟨l2, u2⟩ := x2
      obtain ⟨l3, u3⟩ := x3
      have k0 : (0 : Int) ≤ 4 * (k : Int) := by omega
      have k1 : 4 * (k : Int) + 3 < 4 * (m : Int) := by omega
      have hki : (k : Int) < (m : Int) := by omega
      have hne := World.new_ne wr _ g0
      have D3 : Hid ((wr.setCell ⟨w.heap.size, k, none⟩ (.int .u32 (c0 + c1 * 256 + c2 * 65536 + c3 * 16777216))).ownsRow w.heap.size 23 1 (.slice (some ⟨w.heap.size, 0, none⟩) m m) m ((filled (splitL zs) (k + 1) m).map (Value.int .u32))) := d3
      clear d3 ha
      have i0' : IntKind.i64.wrap (4 * (k : Int)) = 4 * (k : Int) := by rw [IntKind.wrap_i64]; omega
      have i1' : IntKind.i64.wrap (4 * (k : Int) + 1) = 4 * (k : Int) + 1 := by rw [IntKind.wrap_i64]; omega
      have i2' : IntKind.i64.wrap (4 * (k : Int) + 2) = 4 * (k : Int) + 2 := by rw [IntKind.wrap_i64]; omega
      have i3' : IntKind.i64.wrap (4 * (k : Int) + 3) = 4 * (k : Int) + 3 := by rw [IntKind.wrap_i64]; omega
      have n0 : (4 * (k : Int)).toNat = 4 * k := by omega
      have n1 : (4 * (k : Int) + 1).toNat = 4 * k + 1 := by omega
      have n2 : (4 * (k : Int) + 2).toNat = 4 * k + 2 := by omega
      have n3 : (4 * (k : Int) + 3).toNat = 4 * k + 3 := by omega
      have p0 : 4 * (k : Int) < 4 * (m : Int) := by omega
      have p1 : 4 * (k : Int) + 1 < 4 * (m : Int) := by omega
      have p2 : 4 * (k : Int) + 2 < 4 * (m : Int) := by omega
      have q1 : 0 ≤ 4 * (k : Int) + 1 := by omega
      have q2 : 0 ≤ 4 * (k : Int) + 2 := by omega
      have q3 : 0 ≤ 4 * (k : Int) + 3 := by omega
      have v0 : IntKind.u32.wrap c0 = c0 := by rw [IntKind.wrap_u32']; omega
      have v1 : IntKind.u32.wrap c1 = c1 := by rw [IntKind.wrap_u32']; omega
      have v2 : IntKind.u32.wrap c2 = c2 := by rw [IntKind.wrap_u32']; omega
      have v3 : IntKind.u32.wrap c3 = c3 := by rw [IntKind.wrap_u32']; omega
      have y1 : IntKind.u32.wrap (256 * c1) = 256 * c1 := by rw [IntKind.wrap_u32']; omega
      have y2 : IntKind.u32.wrap (65536 * c2) = 65536 * c2 := by rw [IntKind.wrap_u32']; omega
      have y3 : IntKind.u32.wrap (16777216 * c3) = 16777216 * c3 := by rw [IntKind.wrap_u32']; omega
      have z1 : IntKind.u32.wrap (c0 + 256 * c1) = c0 + 256 * c1 := by rw [IntKind.wrap_u32']; omega
      have z2 : IntKind.u32.wrap (c0 + 256 * c1 + 65536 * c2) = c0 + 256 * c1 + 65536 * c2 := by rw [IntKind.wrap_u32']; omega
      have z3 : IntKind.u32.wrap (c0 + 256 * c1 + 65536 * c2 + 16777216 * c3) = c0 + 256 * c1 + 65536 * c2 + 16777216 * c3 := by rw [IntKind.wrap_u32']; omega
      have hfar : ∀ (W : World) (j o : Nat) (u : Value), (W.setCell ⟨w.heap.size, j, none⟩ u).cell? ⟨b, o, none⟩ = W.cell? ⟨b, o, none⟩ := fun W j o u => cell_far (by omega) j o u
      go_wp2
      go_region_held3 (fun w' => w'.cell? ⟨b, off + 4 * k, none⟩ = some (.int .u8 c0) ∧ w'.cell? ⟨b, off + (4 * k + 1), none⟩ = some (.int .u8 c1) ∧ w'.cell? ⟨b, off + (4 * k + 2), none⟩ = some (.int .u8 c2) ∧ w'.cell? ⟨b, off + (4 * k + 3), none⟩ = some (.int .u8 c3)) (go_keep) (fail)
      go_wp2
      go_roundw
      case rel =>
        have e : c0 + 256 * c1 + 65536 * c2 + 16777216 * c3 = c0 + c1 * 256 + c2 * 65536 + c3 * 16777216 := by omega
        exact ⟨k + 1, by omega, by go_num, by rw [e]; exact D3.out.drew, (hnx.setCell (Nat.le_refl _) _).drew⟩
      case measure => simp [intOf]; omega
    · go_wp2
      go_ret2
      obtain rfl : k = m := by omega
      rw [filled_whole _ _ HS.out] at hown
      exact ⟨rfl, hown, hnx⟩

theorem refSplit_any (a : Option Addr) (n cap : Nat) (zs : List Int) (w : World) (ha : View .u8 w a zs) (hl : zs.length = n) (hw : Within 256 zs) :
    Calls Tryz.prog 11 #[.slice a n cap] w fun e w' => ∃ ax m, e = .returned (.tuple #[.slice ax m m, .int .i64 (splitErr zs)]) ∧ (splitOut zs).length = m ∧ View .u32 w' ax (splitOut zs) ∧ NewAt w.heap.size ax ∧ Below w.heap.size w w' := by
  by_cases h : 4194304 < n
  · refine (refSplit_large a n cap w h).mono ?_
    rintro e w' ⟨rfl, rfl⟩
    rw [splitErr_large zs (by omega), splitOut_large zs (by omega)]
    exact ⟨none, 0, rfl, rfl, view_nil, newAt_none, Below.refl _ _⟩
  · by_cases h2 : n % 4 = 0
    · obtain ⟨m, rfl⟩ : ∃ m, n = 4 * m := ⟨n / 4, by omega⟩
      refine (refSplit_ok a m cap zs w ha hl hw h).mono ?_
      rintro e w' ⟨rfl, hown, hb⟩
      rw [splitErr_ok zs (by omega) (by omega), splitOut_ok zs (by omega) (by omega)]
      have hs : (splitL zs).length = m := by rw [splitL_len, hl]; omega
      exact ⟨_, m, rfl, hs, View.ofRow hown hs, newAt_mk (Nat.le_refl _), hb⟩
    · refine (refSplit_odd a n cap w h h2).mono ?_
      rintro e w' ⟨rfl, rfl⟩
      rw [splitErr_odd zs (by omega) (by omega), splitOut_odd zs (by omega) (by omega)]
      exact ⟨none, 0, rfl, rfl, view_nil, newAt_none, Below.refl _ _⟩

end Go.Proofs.YteafjokpkljfcaaGreat

/-
  What Read of the document's answer returns: a list of words that is nil has no room.
-/
namespace Go.Proofs.YteafjokpkljfcaaGreat
open Go.RowKit
set_option maxRecDepth 10000

/-- A list that is nil has no room. -/
def NilV : Value → Prop
  | .slice none _ c => c = 0
  | _ => True
def NilW (w : World) (a : Option Addr) (m : Nat) : Prop := ∀ b off j n c, a = some ⟨b, off, none⟩ → j < m → w.cell? ⟨b, off + j * 2 + 1, none⟩ = some (.slice none n c) → c = 0
theorem nilV_own {w : World} {lo e size n m c : Nat} {a : Option Addr} {xs : List Value} (h : w.ownsRow lo e size (.slice a n c) m xs) : NilV (.slice a n c) := by
  rcases h.2 with ⟨h1, _⟩ | ⟨g, c', cur, h1, _⟩
  · cases h1; rfl
  · cases h1; trivial
theorem nilW_own {w : World} {lo e n c : Nat} {a : Option Addr} {cs : List Value} (h : w.ownsRow lo e 2 (.slice a n c) n cs) (hn : ∀ u ∈ cs, NilV u) : NilW w a n := by
  intro b off j n' c' ha hj hc
  rcases h.2 with ⟨h1, h2⟩ | ⟨g, cap', cur, hv, _⟩
  · omega
  · cases hv
    simp only [Option.some.injEq, Addr.mk.injEq] at ha
    obtain ⟨rfl, rfl, _⟩ := ha
    have c2 := h.cellAt (j * 2 + 1) (by omega)
    rw [Nat.zero_add] at hc
    rw [hc] at c2
    exact hn _ (List.mem_of_getElem? c2.symm)

set_option maxHeartbeats 4000000 in
theorem refRead_bodyN (a : Option Addr) (n cap : Nat) (zs : List Int) (w : World) (ha : View .u32 w a zs) (hl : zs.length = n) (hw : Within 4294967296 zs) (hn : n ≤ 1048576) (he : (headE zs 0).1 = 0) :
    Calls Tryz.prog 12 #[.slice a n cap] w fun e w' => Below w.heap.size w w' ∧
      ((stop zs 5 < n ∧ e = .returned (.tuple #[.agg #[.int .u32 0, .int .u32 0], .slice none 0 0, .agg #[.int .i64 25, .int .i64 (stop zs 5)]])) ∨
       (¬ stop zs 5 < n ∧ ∃ ax cx m, e = .returned (.tuple #[.agg #[.int .u32 (nth zs 2), .int .u32 (nth zs 3)], .slice ax m cx, .agg #[.int .i64 0, .int .i64 0]]) ∧ (readR zs).length = m ∧ RawsV w' ax (readR zs) ∧ NilW w' ax (readR zs).length)) := by
  have b1 : decide ((1048576 : Int) < (n : Int)) = false := decide_eq_false (by omega)
  obtain ⟨i0, hi, hz0, hz1, hz2⟩ := info_parts RefRead.info
  have HL : Hid (zs.length = n) := hl
  obtain ⟨h5, hwr⟩ := head_ok zs he
  rw [hl] at h5
  have HW : Hid (∀ k, k < 5 → wrongE k (nth zs k) = 0) := hwr
  have hav := ha.below (((Below.refl _ w).alloc (Nat.le_refl _) (.cells #[.int .u32 0, .int .u32 0] 41)).alloc (by simp) (.cells #[.int .i64 0, .int .i64 0] 29))
  clear hl he hwr
  go_enter Tryz.func12, Tryz.ntmps12
  go_wp2
  go_loop [5] (fun i => ∃ k : Nat, k ≤ 5 ∧ i = .int .i64 k) (fun i => 5 - (intOf i).toNat)
  case atStart => exact ⟨0, by omega, rfl⟩
  case round =>
    obtain ⟨k, hk, rfl⟩ := hrel
    by_cases hk5 : k < 5
    · obtain ⟨b, off, rfl, _, hc⟩ := hav k (by rw [HL.out]; omega)
      have hW := fun wx => refWrong_any k (nth zs k) wx hk5
      have hki : (k : Int) < (n : Int) := by omega
      rw [HW.out k hk5] at hW
      clear hav ha
      generalize nth zs k = x at hc hW
      go_wp2_with (go_at_call 22; refine (hW _).mono ?_; rintro e w' ⟨rfl, rfl⟩)
      go_round
      case rel => exact ⟨k + 1, by omega, by go_num⟩
      case measure => simp [intOf]; omega
    · obtain rfl : k = 5 := by omega
      clear hav
      go_wp2
      go_loopw [7, 8] (fun v i wr => ∃ (p : Nat) (out : List Nat) (cs : List Value), p ≤ n ∧ i = .int .i64 p ∧ out ++ rest zs p = rest zs 5 ∧ stop zs p = stop zs 5 ∧ wr.ownsRow (w.heap.size + 2) 52 2 v out.length cs ∧ RowR wr (w.heap.size + 2) v.ownBlock (out.map (rawAt zs)) cs ∧ (∀ u ∈ cs, NilV u) ∧
          wr.heap[w.heap.size]? = some (.cells #[.int .u32 0, .int .u32 0] 41 (0, 0)) ∧ wr.heap[w.heap.size + 1]? = some (.cells #[.int .i64 0, .int .i64 0] 29 (0, 0)) ∧ Below w.heap.size w wr)
        (fun _ i _ => n - (intOf i).toNat)
      case atStart =>
        refine ⟨5, [], [], h5, rfl, rfl, rfl, World.ownsRow_nil _ _ _ _, rowR_nil, (fun u hu => by simp at hu), ?_, ?_, ((Below.refl _ _).alloc (Nat.le_refl _) _).alloc (by simp) _⟩
        · rw [Below.heap_alloc _ _ _ (by simp)]
          exact heap_alloc_new w _
        · have := heap_alloc_new (w.alloc (.cells #[.int .u32 0, .int .u32 0] 41)) (.cells #[.int .i64 0, .int .i64 0] 29)
          simpa using this
      case round =>
        obtain ⟨p, out, cs, hp, rfl, hout, hst, hown, hrow, hnil, hb0, hb1, hnx⟩ := hrel
        obtain ⟨ax, cx, rfl⟩ := own_shape2 hown
        have HO : Hid (out ++ rest zs p = rest zs 5) := hout
        have HST : Hid (stop zs p = stop zs 5) := hst
        have hol : out.length ≤ n := by
          have h1 := rest_len zs 5
          have h2 : out.length ≤ (rest zs 5).length := by rw [← hout]; simp
          rw [HL.out] at h1; omega
        have hsz := hnx.size
        have hs1 : w.heap.size + 1 < wr.heap.size := (Array.getElem?_eq_some_iff.1 hb1).1
        clear hout hst
        by_cases hlt : p < n
        · cases hb : badB zs p with
          | false =>
            have hE := refEnds_yes a n cap zs wr p (ha.below hnx) HL.out hw (by omega) hlt hb
            have HG : Hid (rest zs p = p :: rest zs (p + cntN zs p)) := rest_go zs p (by rw [HL.out]; exact hlt) hb
            have HG2 : Hid (stop zs p = stop zs (p + cntN zs p)) := stop_go zs p (by rw [HL.out]; exact hlt) hb
            have hcp := cnt_pos hb
            have hcf := cnt_fits hb
            rw [HL.out] at hcf
            have hA := fun wx hb' => refAt_any a n cap zs wx p (p + cntN zs p) (ha.below hb') HL.out hw (by omega) (by omega) (by omega)
            have e3 : p + cntN zs p - p - 1 = cntN zs p - 1 := by omega
            rw [e3] at hA
            have HRA : Hid (rawAt zs p = (opI zs p, midL zs (p + 1) (cntN zs p - 1))) := rfl
            have HML : Hid ((midL zs (p + 1) (cntN zs p - 1)).length = cntN zs p - 1) := midL_len zs (p + 1) _ (by rw [HL.out]; omega)
            have hAw := hA wr hnx
            clear hb hA e3 ha
            generalize cntN zs p = c at *
            generalize midL zs (p + 1) (c - 1) = ms at *
            generalize opI zs p = op at *
            go_wp2_with (go_at_call 23; refine hE.mono ?_; rintro e w' ⟨rfl, rfl⟩)
            refine hAw.mono ?_
            rintro e w1 ⟨a1, c1, rfl, hown1, hbA⟩
            have s1 := hbA.size
            have hown' := own_below hown hbA
            have hrow1 := hrow.below hbA
            have hb0' := (hbA.block _ (by omega)).trans hb0
            have hb1' := (hbA.block _ hs1).trans hb1
            have hvA := View.ofOwn hown1 HML.out
            have hc1 : c - 1 ≤ c1 := by
              rcases hown1.2 with ⟨h1, h2⟩ | ⟨g, c', cur, h1, _, _, h4, _⟩
              · omega
              · cases h1; exact h4
            have hvo : ∀ b, Value.ownBlock (.slice ax out.length cx) = some b → w.heap.size + 2 ≤ b ∧ b < wr.heap.size := fun b hb => by
              rcases hown.2 with ⟨h1, _⟩ | ⟨g, c', cur, h1, h2, h3, _⟩
              · rw [h1] at hb; simp [Value.ownBlock] at hb
              · rw [h1] at hb; simp [Value.ownBlock] at hb; subst hb; exact ⟨h2, (Array.getElem?_eq_some_iff.1 h3).1⟩
            have ha1 : ∀ b off s, a1 = some ⟨b, off, s⟩ → Value.ownBlock (.slice ax out.length cx) ≠ some b ∧ b < w1.heap.size + 1 ∧ w.heap.size + 2 ≤ b := fun b off s e => by
              rcases hown1.2 with ⟨h1, _⟩ | ⟨g, c', cur, h1, h2, h3, _⟩
              · cases e; simp at h1
              · cases e
                simp at h1
                obtain ⟨⟨rfl, _⟩, _⟩ := h1
                have := (Array.getElem?_eq_some_iff.1 h3).1
                exact ⟨fun e2 => by have := (hvo _ e2).2; omega, by omega, by omega⟩
            have HNA : Hid (NilV (.slice a1 (c - 1) c1)) := nilV_own hown1
            have HNL : Hid (∀ u ∈ cs, NilV u) := hnil
            have hbw1 : Below w.heap.size w w1 := hnx.trans (hbA.mono hsz)
            clear hown hrow hb0 hb1 hown1 hAw hE hnil
            go_wp2_with (at_builtin; refine wpList_append_lies _ rfl (.tmp 54) (.tmp 59) 42 rfl (w.heap.size + 2) 52 i0 (.agg #[.int .u16 0, .slice none 0 0]) 2 32 Tryz.underlying42 hi hz0 hz1 hz2 rfl (by omega) (.slice ax out.length cx) out.length cs rfl (hown'.alloc _) ⟨w1.heap.size, 0, none⟩ 1 1 [.int .u16 op, .slice a1 (c - 1) c1] rfl rfl (World.news_of_block (cs := #[.int .u16 op, .slice a1 (c - 1) c1]) (t := 52) (fr := (0, 0)) (heap_alloc_new w1 _)) (by simp [Value.oneCell']) (by omega) (by unfold maxLen; omega) (by omega) (by simp; omega) (w1.heap.size + 1) (by simp) ?_)
            intro g2 cap2 w2 hown2 hgrow2 hat2 hlt2
            have hrow2 := RowR.push (r := (op, ms)) (hrow1.below ((Below.refl _ w1).alloc (Nat.le_refl _) _)) (hvA.below ((Below.refl _ w1).alloc (Nat.le_refl _) _)) HML.out hc1 ha1 (by simp) hgrow2 hat2
            have hb02 := (hgrow2.block w.heap.size (by simp; omega) (fun e => by have := (hvo _ e.symm).1; omega)).trans ((Below.heap_alloc w1 _ _ (by omega)).trans hb0')
            have hb12 := (hgrow2.block (w.heap.size + 1) (by simp; omega) (fun e => by have := (hvo _ e.symm).1; omega)).trans ((Below.heap_alloc w1 _ _ (by omega)).trans hb1')
            have hbw2 : Below w.heap.size w w2 := (hbw1.alloc (by omega) _).grown hgrow2 (by simp; omega) (fun k hk => by have := (hvo k hk).1; omega)
            clear hown' hrow1 hvA hgrow2 hat2 ha1 hbw1 hb0' hb1' hvo
            go_wp2
            go_roundw
            case rel =>
              refine ⟨p + c, out ++ [p], cs ++ [.int .u16 op, .slice a1 (c - 1) c1], by omega, by go_num, ?_, ?_, ?_, ?_, ?_, hb02, hb12, hbw2⟩
              · rw [List.append_assoc, List.singleton_append, ← HG.out]; exact HO.out
              · rw [← HG2.out]; exact HST.out
              · rw [List.length_append, List.length_singleton]; exact hown2
              · rw [List.map_append, List.map_singleton, HRA.out]; exact hrow2
              · intro u hu
                rcases List.mem_append.1 hu with h | h
                · exact HNL.out u h
                · simp only [List.mem_cons, List.not_mem_nil, or_false] at h
                  rcases h with rfl | rfl
                  · trivial
                  · exact HNA.out
            case measure => simp [intOf]; omega
          | true =>
            have hE := refEnds_no a n cap zs wr p (ha.below hnx) HL.out hw (by omega) hlt hb
            have HS2 : Hid (stop zs 5 = p) := by show _ = _; rw [← HST.out]; exact stop_bad zs p (by rw [HL.out]; exact hlt) hb
            obtain ⟨c0, c1, f1⟩ := cell_of_two hb0
            obtain ⟨d0, d1, g1⟩ := cell_of_two hb1
            have f0 : wr.frozen? ⟨w.heap.size, 0, none⟩ = false := by simp [World.frozen?, hb0]
            have g0 : wr.frozen? ⟨w.heap.size + 1, 0, none⟩ = false := by simp [World.frozen?, hb1]
            clear hb ha
            have hz := set_two_boxes hb0 hb1 (by omega) (.int .u32 0) (.int .u32 0) (.int .i64 25) (.int .i64 (p : Int))
            have HZ : Hid _ := hz
            clear hz
            go_wp2_with (go_at_call 23; refine hE.mono ?_; rintro e w' ⟨rfl, rfl⟩)
            refine bodyPost_ret (v := .tuple #[.agg #[.int .u32 0, .int .u32 0], .slice none 0 0, .agg #[.int .i64 25, .int .i64 p]]) (by simp [results, Tryz.results12, go_sem, HZ.out.1, HZ.out.2.1, HZ.out.2.2.1, HZ.out.2.2.2]) rfl ⟨?_, .inl ⟨by rw [HS2.out]; exact hlt, by rw [HS2.out]⟩⟩
            exact (((hnx.setCell (by simp) _).setCell (by simp) _).setCell (by simp) _).setCell (by simp) _
        · have HS2 : Hid (stop zs 5 = p) := by show _ = _; rw [← HST.out]; exact stop_end zs p (by rw [HL.out]; omega)
          obtain rfl : p = n := by omega
          have HR : Hid (readR zs = out.map (rawAt zs)) := by
            have e1 := HO.out
            rw [rest_end zs p (by rw [HL.out]; omega), List.append_nil] at e1
            show _ = _
            rw [readR, ← e1]
          obtain ⟨c0, c1, f1⟩ := cell_of_two hb0
          obtain ⟨d0, d1, g1⟩ := cell_of_two hb1
          have f0 : wr.frozen? ⟨w.heap.size, 0, none⟩ = false := by simp [World.frozen?, hb0]
          have g0 : wr.frozen? ⟨w.heap.size + 1, 0, none⟩ = false := by simp [World.frozen?, hb1]
          obtain ⟨b, off, rfl, _, w2⟩ := ha.below hnx 2 (by rw [HL.out]; omega)
          obtain ⟨b', off', e2, _, w3⟩ := ha.below hnx 3 (by rw [HL.out]; omega)
          simp at e2
          obtain ⟨rfl, rfl⟩ := e2
          have hz := set_two_boxes hb0 hb1 (by omega) (.int .u32 (nth zs 2)) (.int .u32 (nth zs 3)) (.int .i64 0) (.int .i64 0)
          have HZ : Hid _ := hz
          have h2 : (2 : Int) < (p : Int) := by omega
          have h3 : (3 : Int) < (p : Int) := by omega
          clear hz ha
          go_wp2
          go_region
          go_wp2
          refine bodyPost_ret (v := .tuple #[.agg #[.int .u32 (nth zs 2), .int .u32 (nth zs 3)], .slice ax out.length cx, .agg #[.int .i64 0, .int .i64 0]]) (by simp [results, Tryz.results12, go_sem, HZ.out.1, HZ.out.2.1, HZ.out.2.2.1, HZ.out.2.2.2]) rfl ⟨?_, .inr ⟨by rw [HS2.out]; omega, ax, cx, out.length, rfl, by rw [HR.out, List.length_map], ?_, ?_⟩⟩
          · exact ((((hnx.setCell (by simp) _).setCell (by simp) _).setCell (by simp) _).setCell (by simp) _).drew
          · rw [HR.out]
            have o1 := ownsRow_setCell_below (ownsRow_setCell_below (ownsRow_setCell_below (ownsRow_setCell_below hown (a := ⟨w.heap.size, 0, none⟩) (by simp) (.int .u32 (nth zs 2))) (a := ⟨w.heap.size, 1, none⟩) (by simp) (.int .u32 (nth zs 3))) (a := ⟨w.heap.size + 1, 0, none⟩) (by simp) (.int .i64 0)) (a := ⟨w.heap.size + 1, 1, none⟩) (by simp) (.int .i64 0)
            have r1 := (((hrow.setCell (g := w.heap.size) (j := 0) (by omega) (.int .u32 (nth zs 2))).setCell (g := w.heap.size) (j := 1) (by omega) (.int .u32 (nth zs 3))).setCell (g := w.heap.size + 1) (j := 0) (by omega) (.int .i64 0)).setCell (g := w.heap.size + 1) (j := 1) (by omega) (.int .i64 0)
            exact (r1.below (bel_drewN (Below.refl _ _) 1)).viewAny (own_below o1 (bel_drewN (Below.refl _ _) 1)) (by simp)
          · rw [HR.out, List.length_map]
            have o1 := ownsRow_setCell_below (ownsRow_setCell_below (ownsRow_setCell_below (ownsRow_setCell_below hown (a := ⟨w.heap.size, 0, none⟩) (by simp) (.int .u32 (nth zs 2))) (a := ⟨w.heap.size, 1, none⟩) (by simp) (.int .u32 (nth zs 3))) (a := ⟨w.heap.size + 1, 0, none⟩) (by simp) (.int .i64 0)) (a := ⟨w.heap.size + 1, 1, none⟩) (by simp) (.int .i64 0)
            exact nilW_own (own_below o1 (bel_drewN (Below.refl _ _) 1)) hnil

theorem refRead_anyN (a : Option Addr) (n cap : Nat) (zs : List Int) (w : World) (ha : View .u32 w a zs) (hl : zs.length = n) (hw : Within 4294967296 zs) :
    Calls Tryz.prog 12 #[.slice a n cap] w fun e w' => Below w.heap.size w w' ∧ ∃ ax cx m, e = .returned (.tuple #[.agg #[.int .u32 (readAt zs 2), .int .u32 (readAt zs 3)], .slice ax m cx, .agg #[.int .i64 (readE zs).1, .int .i64 (readE zs).2]]) ∧ (readL zs).length = m ∧ RawsV w' ax (readL zs) ∧ NilW w' ax m := by
  by_cases h0 : (readE zs).1 = 0 ∧ n ≤ 1048576 ∧ (headE zs 0).1 = 0
  · obtain ⟨h0, h1, h2⟩ := h0
    refine (refRead_bodyN a n cap zs w ha hl hw h1 h2).mono ?_
    rintro e w' ⟨hb, ⟨h3, rfl⟩ | ⟨h3, ax, cx, m, rfl, h4, h5, h6⟩⟩
    · exfalso
      have e1 : readE zs = (25, stop zs 5) := by unfold readE; rw [if_neg (by omega), if_neg (by simp [h2]), if_pos (by omega)]
      rw [e1] at h0; cases h0
    · have e1 : readE zs = (0, 0) := by unfold readE; rw [if_neg (by omega), if_neg (by simp [h2]), if_neg (by omega)]
      refine ⟨hb, ax, cx, m, ?_, ?_, ?_, ?_⟩
      · simp [readAt, e1]
      · simp [readL, e1, h4]
      · simp only [readL, e1]; exact h5
      · rw [← h4]; exact h6
  · refine (refRead_any a n cap zs w ha hl hw).mono ?_
    rintro e w' ⟨hb, ax, cx, m, rfl, h4, h5⟩
    have hm : m = 0 := by
      by_cases e0 : (readE zs).1 = 0
      · exfalso
        have h1 : n ≤ 1048576 := by
          rcases Nat.lt_or_ge 1048576 n with h | h
          · have : readE zs = (4, 1048576) := by unfold readE; rw [if_pos (by omega)]
            rw [this] at e0; cases e0
          · exact h
        have h2 : (headE zs 0).1 = 0 := by
          by_cases e2 : (headE zs 0).1 = 0
          · exact e2
          · have : readE zs = headE zs 0 := by unfold readE; rw [if_neg (by omega), if_pos e2]
            rw [this] at e0; exact absurd e0 e2
        exact h0 ⟨e0, h1, h2⟩
      · rw [← h4]; unfold readL; rw [if_neg e0]; rfl
    exact ⟨hb, ax, cx, m, rfl, h4, h5, fun b off j n' c' _ hj => by omega⟩

end Go.Proofs.YteafjokpkljfcaaGreat

/-
  What Text of the document's answer returns, as one function of the words.
-/
namespace Go.Proofs.YteafjokpkljfcaaGreat
open Go.RowKit
set_option maxRecDepth 10000

theorem refText_any (a : Option Addr) (n cap : Nat) (zs : List Int) (w : World) (ha : View .u32 w a zs) (hl : zs.length = n) (hw : Within 4294967296 zs) (hn : 4 * n ≤ 140737488351232) :
    Calls Tryz.prog 49 #[.slice a n cap] w fun e w' => e = .returned (.tuple #[.string (textI zs).1, .int .i64 (textI zs).2.1, .int .i64 (textI zs).2.2]) ∧ Below w.heap.size w w' := by
  have hj : (joinL zs).length = 4 * n := by rw [joinL_len, hl]
  by_cases h : (joinL zs).length ≤ zeroAt (joinL zs)
  · refine (refText_none a n cap zs w ha hl hw hn fun i hi => zeroAt_before _ _ (by omega) (by omega)).mono ?_
    rintro e w' ⟨rfl, rfl⟩
    refine ⟨?_, Below.refl _ _⟩
    rw [textI, if_pos h]
  · have hz : zeroAt (joinL zs) < (joinL zs).length := by omega
    have e4 : 4 * (zeroAt (joinL zs) / 4) + zeroAt (joinL zs) % 4 = zeroAt (joinL zs) := by omega
    by_cases hp : padBad (joinL zs) = true
    · have hp' := hp
      unfold padBad at hp'
      obtain ⟨x, hx, hne⟩ := List.any_eq_true.1 hp'
      obtain ⟨k, hk, rfl⟩ := List.mem_iff_getElem.1 hx
      rw [List.length_take, List.length_drop] at hk
      rw [List.getElem_take, List.getElem_drop] at hne
      refine (refText_pad a n cap zs w (zeroAt (joinL zs) / 4) (zeroAt (joinL zs) % 4) (zeroAt (joinL zs) + 1 + k) ha hl hw hn (by omega) (by omega) (fun i hi => zeroAt_before _ _ (by omega) (by omega)) (by rw [e4]; exact zeroAt_at _ hz) (by omega) (by omega) ?_).mono ?_
      · rw [nth_lt _ _ (by omega)]; simpa using hne
      · rintro e w' ⟨rfl, rfl⟩
        refine ⟨?_, Below.refl _ _⟩
        rw [textI, if_neg h, if_pos hp]
    · refine (refText_ok a n cap zs w (zeroAt (joinL zs) / 4) (zeroAt (joinL zs) % 4) ha hl hw hn (by omega) (by omega) (fun i hi => zeroAt_before _ _ (by omega) (by omega)) (by rw [e4]; exact zeroAt_at _ hz) ?_).mono ?_
      · intro i h1 h2
        have hi : i < (joinL zs).length := by omega
        apply Classical.byContradiction
        intro hne
        apply hp
        unfold padBad
        refine List.any_eq_true.2 ⟨nth (joinL zs) i, ?_, by simpa using hne⟩
        rw [nth_lt _ _ hi]
        refine List.mem_iff_getElem.2 ⟨i - zeroAt (joinL zs) - 1, ?_, ?_⟩
        · rw [List.length_take, List.length_drop]; omega
        · rw [List.getElem_take, List.getElem_drop]
          congr 1; omega
      · rintro e w' ⟨rfl, hb⟩
        refine ⟨?_, hb⟩
        rw [textI, if_neg h, if_neg hp, e4]

end Go.Proofs.YteafjokpkljfcaaGreat

/-
  What Letter of the document's answer returns, for every operation and number.
-/
namespace Go.Proofs.YteafjokpkljfcaaGreat
open Go.RowKit
set_option maxRecDepth 10000
set_option linter.unusedVariables false
set_option linter.unusedSimpArgs false

theorem ofV_look (n : Int) : ∃ m, ofV n = formV m (lookF refT n).1 := by
  unfold ofV
  cases h : (lookF refT n).2
  · rw [(lookF_false h).1]; exact ⟨0, rfl⟩
  · exact ⟨n, rfl⟩

theorem letterI_none (i : Int) : letterI noFrm i = 0 := by
  unfold letterI
  split
  · rfl
  · split
    · rename_i h1 h2
      have : (noFrm.2.2.2.1.size : Int) = 0 := rfl
      omega
    · have : mayB noFrm (i - noFrm.2.2.2.1.size) = false := rfl
      rw [this]; rfl

set_option maxRecDepth 10000 in
set_option maxHeartbeats 2000000 in
theorem refLetter_any (n i : Int) (w : World) (h1 : i < 9223372036854775808) :
    Calls Tryz.prog 28 #[.int .u16 n, .int .i64 i] w fun e w' => e = .returned (.int .u8 (letterI (lookF refT n).1 i)) ∧ Below w.heap.size w w' := by
  have hR := fun w => refOf_any n w
  obtain ⟨m, hm⟩ := ofV_look n
  rw [hm] at hR
  clear hm
  have hs := look_short n
  have HN : Hid ((lookF refT n).2 = false → (lookF refT n).1 = noFrm) := fun h => by rw [(lookF_false h).1]
  generalize (lookF refT n).1 = f at *
  generalize (lookF refT n).2 = is at *
  have HL : Hid (∃ x, x = letterI f i) := ⟨_, rfl⟩
  have hs2 := hs
  simp only [shortF, Bool.and_eq_true, decide_eq_true_eq] at hs
  obtain ⟨⟨⟨s1, s2⟩, s3⟩, s4⟩ := hs
  obtain ⟨nm, t, r, fx, rs, mo, pa⟩ := f
  simp only at s1 s2 s3 s4
  clear hs2 HL
  cases is
  · have HE : Hid (letterI (nm, t, r, fx, rs, mo, pa) i = 0) := by show _ = _; rw [HN.out rfl]; exact letterI_none i
    clear HN
    unfold formV at hR
    go_enter Tryz.func28, Tryz.ntmps28
    go_wp2_with fail
    refine (hR _).mono ?_
    rintro e w1 ⟨rfl, hb⟩
    clear hR
    go_wp2
    go_ret
    exact ⟨by rw [HE.out]; rfl, hb.alloc hb.size _⟩
  · clear HN
    by_cases hi : i < 0
    · have HE : Hid (letterI (nm, t, r, fx, rs, mo, pa) i = 0) := by show _ = _; unfold letterI; rw [if_pos hi]
      unfold formV at hR
      go_enter Tryz.func28, Tryz.ntmps28
      go_wp2_with fail
      refine (hR _).mono ?_
      rintro e w1 ⟨rfl, hb⟩
      clear hR
      go_wp2
      go_ret
      exact ⟨by rw [HE.out]; rfl, hb.alloc hb.size _⟩
    · have hid : decide (i < 0) = false := by simpa using hi
      obtain ⟨k, rfl⟩ := Int.eq_ofNat_of_zero_le (show 0 ≤ i by omega)
      by_cases hx : (k : Int) < fx.size
      · have HE : Hid (letterI (nm, t, r, fx, rs, mo, pa) k = sgn fx k) := by show _ = _; unfold letterI; rw [if_neg hi, if_pos hx, Int.toNat_natCast]
        have hk : k < fx.size := by omega
        have hsg := sgn_at fx k hk
        unfold formV at hR
        go_enter Tryz.func28, Tryz.ntmps28
        go_wp2_with fail
        refine (hR _).mono ?_
        rintro e w1 ⟨rfl, hb⟩
        clear hR
        go_wp2
        go_ret
        exact ⟨by rw [HE.out]; rfl, hb.alloc hb.size _⟩
      · by_cases hr : rs.size = 0
        · have HE : Hid (letterI (nm, t, r, fx, rs, mo, pa) k = 0) := by show _ = _; unfold letterI; rw [if_neg hi, if_neg hx]; simp [mayB, hr]
          have hrz : (((rs.size : Nat) : Int) == 0) = true := by simp [hr]
          have hxd : ¬ k < fx.size := by omega
          clear hr hx hi h1 s3 s4 s1 s2
          unfold formV at hR
          go_enter Tryz.func28, Tryz.ntmps28
          go_wp2_with fail
          refine (hR _).mono ?_
          rintro e w1 ⟨rfl, hb⟩
          clear hR
          go_wp2
          go_ret
          exact ⟨by rw [HE.out]; rfl, hb.alloc hb.size _⟩
        · have hrz : (((rs.size : Nat) : Int) == 0) = false := by simp [hr]
          have hr0 : (0 : Int) < (rs.size : Int) := by omega
          have hz : ¬ (rs.size : Int) = 0 := by omega
          obtain ⟨b, hb⟩ : ∃ b : Nat, (k : Int) - (fx.size : Int) = b := ⟨k - fx.size, by omega⟩
          have hw1 : IntKind.i64.wrap ((k : Int) - (fx.size : Int)) = b := by rw [hb]; exact wrapI _ (by omega) (by omega)
          have hbl : (b : Int) < 9223372036854775808 := by omega
          have ht : Int.tdiv (b : Int) (rs.size : Int) = (b : Int) / (rs.size : Int) := Int.tdiv_eq_ediv_of_nonneg (by omega)
          have hq0 : 0 ≤ (b : Int) / (rs.size : Int) := Int.ediv_nonneg (by omega) (by omega)
          have hq1 : (b : Int) / (rs.size : Int) ≤ b := Int.ediv_le_self _ (by omega)
          have hw : IntKind.i64.wrap ((b : Int) / (rs.size : Int)) = (b : Int) / (rs.size : Int) := wrapI _ (by omega) (by omega)
          have HM : Hid (mayB (nm, t, r, fx, rs, mo, pa) b = if mo = 0 then true else decide ((b : Int) / (rs.size : Int) < mo)) := by show _ = _; simp [mayB, hr]
          have tm : Int.tmod (b : Int) (rs.size : Int) = (b : Int) % (rs.size : Int) := Int.tmod_eq_emod_of_nonneg (by omega)
          have m0 : 0 ≤ (b : Int) % (rs.size : Int) := Int.emod_nonneg _ hz
          have m1 : (b : Int) % (rs.size : Int) < (rs.size : Int) := Int.emod_lt_of_pos _ hr0
          have hw2 : IntKind.i64.wrap ((b : Int) % (rs.size : Int)) = (b : Int) % (rs.size : Int) := wrapI _ (by omega) (by omega)
          have HE : Hid (letterI (nm, t, r, fx, rs, mo, pa) k = if mayB (nm, t, r, fx, rs, mo, pa) b then sgn rs ((b : Int) % (rs.size : Int)).toNat else 0) := by show _ = _; unfold letterI; rw [if_neg hi, if_neg hx]; simp only [hb]
          by_cases hc : mo > 0 ∧ (b : Int) / (rs.size : Int) ≥ mo
          · have HF : Hid (letterI (nm, t, r, fx, rs, mo, pa) k = 0) := by show _ = _; rw [HE.out, HM.out, if_neg (show ¬ mo = 0 by omega), decide_eq_false (by omega)]; rfl
            clear HE HM tm m0 m1 hw2 hb
            have hxd : ¬ k < fx.size := by omega
            obtain ⟨hc1, hc2⟩ := hc
            clear hx hi hr h1 hbl s1 s2 hq1
            have g1 : decide (mo > 0) = true := by simpa using hc1
            have g2 : decide (mo ≤ (b : Int) / (rs.size : Int)) = true := by simpa using hc2
            unfold formV at hR
            go_enter Tryz.func28, Tryz.ntmps28
            go_wp2_with fail
            refine (hR _).mono ?_
            rintro e w1 ⟨rfl, hb⟩
            clear hR
            go_wp2
            go_quiet (fail)
            go_wp2
            go_ret
            exact ⟨by rw [HF.out]; rfl, bel_drewN (hb.alloc hb.size _) _⟩
          · have hmb : mayB (nm, t, r, fx, rs, mo, pa) b = true := by
              rw [HM.out]
              split
              · rfl
              · exact decide_eq_true (by omega)
            obtain ⟨j, hj⟩ := Int.eq_ofNat_of_zero_le m0
            have HF : Hid (letterI (nm, t, r, fx, rs, mo, pa) k = sgn rs j) := by show _ = _; rw [HE.out, hmb, if_pos rfl, hj]; rfl
            rw [hj] at tm hw2
            have hjl : j < rs.size := by omega
            have hsg := sgn_at rs j hjl
            have hxd : ¬ k < fx.size := by omega
            clear HE HM hmb hb hj m0 m1
            by_cases g1 : mo > 0
            · have g2 : decide (mo ≤ (b : Int) / (rs.size : Int)) = false := decide_eq_false (by omega)
              have g1' : decide (mo > 0) = true := decide_eq_true g1
              clear hx hi hr h1 hbl s1 s2 hq1 hc g1
              unfold formV at hR
              go_enter Tryz.func28, Tryz.ntmps28
              go_wp2_with fail
              refine (hR _).mono ?_
              rintro e w1 ⟨rfl, hb⟩
              clear hR
              go_wp2
              go_quiet (fail)
              go_wp2
              go_quiet (fail)
              go_wp2
              go_ret
              exact ⟨by rw [HF.out]; rfl, bel_drewN (bel_drewN (hb.alloc hb.size _) _) _⟩
            · have g1' : decide (mo > 0) = false := decide_eq_false g1
              clear hx hi hr h1 hbl s1 s2 hq1 hc g1 s3 s4
              unfold formV at hR
              go_enter Tryz.func28, Tryz.ntmps28
              go_wp2_with fail
              refine (hR _).mono ?_
              rintro e w1 ⟨rfl, hb⟩
              clear hR
              go_wp2
              go_quiet (fail)
              go_wp2
              go_quiet (fail)
              go_wp2
              go_ret
              exact ⟨by rw [HF.out]; rfl, bel_drewN (bel_drewN (hb.alloc hb.size _) _) _⟩

end Go.Proofs.YteafjokpkljfcaaGreat

/-
  What Heads of the document's answer returns: how many of an operation's words are ids ahead of the arguments, or what is wrong with them.
-/
namespace Go.Proofs.YteafjokpkljfcaaGreat
open Go.RowKit
set_option linter.unusedVariables false
set_option linter.unusedSimpArgs false

/-- The result's id at a place. -/
def headR (re : Bool) (zs : List Int) (b : Int) (n : Nat) : Int × Int :=
  if re then (if zs.length ≤ n then (0, 41) else if noneB (nth zs n) b then (0, 43) else ((n : Int) + 1, 0)) else ((n : Int), 0)
/-- The ids ahead of the arguments. -/
def headsI (ty re : Bool) (zs : List Int) (b : Int) : Int × Int :=
  if ty then (if zs.length = 0 then (0, 40) else if noneB (nth zs 0) b then (0, 43) else headR re zs b 1) else headR re zs b 0

theorem view_two {w : World} {a : Option Addr} {x y : Int} {r : List Int} (h : View .u32 w a (x :: y :: r)) : ∃ g off, a = some ⟨g, off, none⟩ ∧ g < w.heap.size ∧ w.cell? ⟨g, off, none⟩ = some (.int .u32 x) ∧ w.cell? ⟨g, off + 1, none⟩ = some (.int .u32 y) := by
  obtain ⟨g, off, rfl, hg, hc⟩ := h 0 (by simp)
  obtain ⟨g', off', he, _, hc'⟩ := h 1 (by simp)
  cases he
  exact ⟨g, off, rfl, hg, hc, hc'⟩

set_option maxHeartbeats 1000000 in
theorem refHeads_any (o : Int) (f : Frm) (a : Option Addr) (n cap : Nat) (zs : List Int) (b : Int) (w : World) (ha : View .u32 w a zs) (hl : zs.length = n) (hw : Within 4294967296 zs) (hn : 4 * n ≤ 140737488351232) (b0 : 0 ≤ b) (b1 : b < 4294967296) :
    Calls Tryz.prog 26 #[formV o f, .slice a n cap, .int .u32 b] w fun e w' => e = .returned (.tuple #[.int .i64 (headsI f.2.1 f.2.2.1 zs b).1, .int .i64 (headsI f.2.1 f.2.2.1 zs b).2]) ∧ Below w.heap.size w w' := by
  have hN : ∀ k, k < zs.length → ∀ w, Calls Tryz.prog 47 #[.int .u32 (nth zs k), .int .u32 b] w fun e w' => e = .returned (.bool (noneB (nth zs k) b)) ∧ w = w' := fun k hk w => none_any _ b w (hw.at hk).1 (hw.at hk).2 b0 b1
  obtain ⟨nm, ty, re, fx, rs, mo, pa⟩ := f
  unfold formV
  rcases zs with _ | ⟨x, zs⟩
  · obtain rfl : n = 0 := by simpa using hl.symm
    cases ty <;> cases re
    all_goals go_enter Tryz.func26, Tryz.ntmps26
    all_goals go_wp2
    all_goals refine bodyPost_ret (v := .tuple #[.int .i64 (headsI _ _ [] b).1, .int .i64 (headsI _ _ [] b).2]) ?_ rfl ⟨rfl, (Below.refl _ _).alloc (Nat.le_refl _) _⟩
    all_goals simp [results, Tryz.results26, go_sem, headsI, headR, nth]
  · have hN0 := hN 0 (by simp)
    change ∀ w, Calls Tryz.prog 47 #[.int .u32 x, .int .u32 b] w fun e w' => e = .returned (.bool (noneB x b)) ∧ w = w' at hN0
    rcases zs with _ | ⟨y, zs⟩
    · obtain rfl : n = 1 := by simpa using hl.symm
      obtain ⟨g, off, rfl, hg, hc⟩ := ha 0 (by simp)
      change w.cell? ⟨g, off, none⟩ = some (.int .u32 x) at hc
      clear hw ha hl hN
      cases hx : noneB x b <;> cases ty <;> cases re
      all_goals rw [hx] at hN0
      all_goals go_enter Tryz.func26, Tryz.ntmps26
      all_goals go_wp2_with (go_at_call 47; refine (hN0 _).mono ?_; rintro e w' ⟨rfl, rfl⟩)
      all_goals refine bodyPost_ret (v := .tuple #[.int .i64 (headsI _ _ [x] b).1, .int .i64 (headsI _ _ [x] b).2]) ?_ rfl ⟨rfl, (Below.refl _ _).alloc (Nat.le_refl _) _⟩
      all_goals simp [results, Tryz.results26, go_sem, headsI, headR, nth, hx]
    · have hN1 := hN 1 (by simp)
      change ∀ w, Calls Tryz.prog 47 #[.int .u32 y, .int .u32 b] w fun e w' => e = .returned (.bool (noneB y b)) ∧ w = w' at hN1
      obtain ⟨g, off, rfl, hg, hc, hc1⟩ := view_two ha
      have hn2 : (2 : Int) ≤ (n : Int) := by simp at hl; omega
      have hl2 : zs.length + 2 = n := by simpa using hl
      have HL : Hid (zs.length + 2 = n) := hl2
      clear hw ha hN hl hl2
      cases ty
      · clear hN1 hc1
        cases re
        · go_enter Tryz.func26, Tryz.ntmps26
          go_wp2
          refine bodyPost_ret (v := .tuple #[.int .i64 (headsI _ _ (x :: y :: zs) b).1, .int .i64 (headsI _ _ (x :: y :: zs) b).2]) ?_ rfl ⟨rfl, (Below.refl _ _).alloc (Nat.le_refl _) _⟩
          simp [results, Tryz.results26, go_sem, headsI, headR, nth]
        · cases hx : noneB x b
          all_goals rw [hx] at hN0
          all_goals go_enter Tryz.func26, Tryz.ntmps26
          all_goals go_wp2_with (go_at_call 47; refine (hN0 _).mono ?_; rintro e w' ⟨rfl, rfl⟩)
          all_goals refine bodyPost_ret (v := .tuple #[.int .i64 (headsI _ _ (x :: y :: zs) b).1, .int .i64 (headsI _ _ (x :: y :: zs) b).2]) ?_ rfl ⟨rfl, (Below.refl _ _).alloc (Nat.le_refl _) _⟩
          all_goals simp [results, Tryz.results26, go_sem, headsI, headR, nth, hx]
      · cases re
        · clear hN1 hc1
          cases hx : noneB x b
          all_goals rw [hx] at hN0
          all_goals go_enter Tryz.func26, Tryz.ntmps26
          all_goals go_wp2_with (go_at_call 47; refine (hN0 _).mono ?_; rintro e w' ⟨rfl, rfl⟩)
          all_goals refine bodyPost_ret (v := .tuple #[.int .i64 (headsI _ _ (x :: y :: zs) b).1, .int .i64 (headsI _ _ (x :: y :: zs) b).2]) ?_ rfl ⟨rfl, (Below.refl _ _).alloc (Nat.le_refl _) _⟩
          all_goals simp [results, Tryz.results26, go_sem, headsI, headR, nth, hx]
        · cases hx : noneB x b <;> cases hy : noneB y b
          all_goals rw [hx] at hN0
          all_goals rw [hy] at hN1
          all_goals go_enter Tryz.func26, Tryz.ntmps26
          all_goals go_wp2_with fail
          all_goals go_at_call 47; refine (hN0 _).mono ?_; rintro e w' ⟨rfl, rfl⟩
          all_goals go_wp2_with (go_at_call 47; refine (hN1 _).mono ?_; rintro e w' ⟨rfl, rfl⟩)
          all_goals refine bodyPost_ret (v := .tuple #[.int .i64 (headsI _ _ (x :: y :: zs) b).1, .int .i64 (headsI _ _ (x :: y :: zs) b).2]) ?_ rfl ⟨rfl, (Below.refl _ _).alloc (Nat.le_refl _) _⟩
          all_goals simp [results, Tryz.results26, go_sem, headsI, headR, nth, hx, hy]

end Go.Proofs.YteafjokpkljfcaaGreat

/-
  What Argument of the document's answer returns: the argument of a letter at the front of words, and how many these are; or its error.
-/
namespace Go.Proofs.YteafjokpkljfcaaGreat
open Go.RowKit
set_option linter.unusedVariables false
set_option linter.unusedSimpArgs false

theorem three_set {w : World} {B T : Nat} {z0 z1 z2 : Value} (h : w.heap[B]? = some (.cells #[z0, z1, z2] T (0, 0))) (u0 u1 u2 : Value) :
    (((w.setCell ⟨B, 0, none⟩ u0).setCell ⟨B, 1, none⟩ u1).setCell ⟨B, 2, none⟩ u2).heap[B]? = some (.cells #[u0, u1, u2] T (0, 0)) := by
  simp only [World.setCell, Array.getElem?_modify, h]; simp
theorem three_below (w : World) (B : Nat) (u0 u1 u2 : Value) : Below B w (((w.setCell ⟨B, 0, none⟩ u0).setCell ⟨B, 1, none⟩ u1).setCell ⟨B, 2, none⟩ u2) :=
  (((Below.refl B w).setCell (Nat.le_refl _) _).setCell (Nat.le_refl _) _).setCell (Nat.le_refl _) _

set_option maxHeartbeats 4000000 in
theorem refArgument_any (c : Int) (a : Option Addr) (n cap : Nat) (zs : List Int) (b : Int) (w : World) (ha : View .u32 w a zs) (hl : zs.length = n) (hw : Within 4294967296 zs) (hn : 4 * n ≤ 140737488351232) (b0 : 0 ≤ b) (b1 : b < 4294967296) :
    Calls Tryz.prog 27 #[.int .u8 c, .slice a n cap, .int .u32 b] w fun e w' => e = .returned (.tuple #[argV (argI c zs b).1, .int .i64 (argI c zs b).2.1, .int .i64 (argI c zs b).2.2]) ∧ Below w.heap.size w w' := by
  by_cases h0 : c = 0 ∨ zs.length = 0
  · have he : argI c zs b = (noArg, 0, 42) := by rw [argI, if_pos h0]
    rw [he]
    by_cases hc0 : c = 0
    · subst hc0
      go_enter Tryz.func27, Tryz.ntmps27
      go_wp2
      refine bodyPost_ret (v := .tuple #[argV noArg, .int .i64 0, .int .i64 42]) ?_ rfl ⟨rfl, ?_⟩
      · simp [results, Tryz.results27, go_sem, argV, noArg]
      · first | exact Below.refl _ _ | exact (Below.refl _ _).alloc (Nat.le_refl _) _
    · obtain rfl : n = 0 := by omega
      have hc0' : (c == 0) = false := by simpa using hc0
      go_enter Tryz.func27, Tryz.ntmps27
      go_wp2
      refine bodyPost_ret (v := .tuple #[argV noArg, .int .i64 0, .int .i64 42]) ?_ rfl ⟨rfl, ?_⟩
      · simp [results, Tryz.results27, go_sem, argV, noArg]
      · first | exact Below.refl _ _ | exact (Below.refl _ _).alloc (Nat.le_refl _) _
  · have hc0 : ¬ c = 0 := fun h => h0 (.inl h)
    have hz : 0 < zs.length := by omega
    have hc0' : (c == 0) = false := by simpa using hc0
    have hn0 : (1 : Int) ≤ (n : Int) := by omega
    have hK := fun w => refKind_any c w
    have hNo := fun w => none_any (nth zs 0) b w (hw.at hz).1 (hw.at hz).2 b0 b1
    have hE := fun w => refEnum_any c (nth zs 0) w
    have HV : ∀ w1, Below w.heap.size w w1 → Hid (Calls Tryz.prog 49 #[.slice a n cap] w1 fun e w' => e = .returned (.tuple #[.string (textI zs).1, .int .i64 (textI zs).2.1, .int .i64 (textI zs).2.2]) ∧ Below w1.heap.size w1 w') := fun w1 hb => refText_any a n cap zs w1 (ha.below hb) hl hw hn
    have HA : Hid (View .u32 w a zs) := ha
    by_cases k3 : kindI c = 3
    · have he : argI c zs b = ((3, 0, (textI zs).1), (textI zs).2.1, (textI zs).2.2) := by rw [argI, if_neg h0, if_pos k3]
      rw [he]
      rw [k3] at hK
      clear ha hl hw hNo hE he h0 k3 hc0 hz
      go_enter Tryz.func27, Tryz.ntmps27
      go_wp2_with fail
      refine (hK _).mono ?_
      rintro e w1 ⟨rfl, hb1⟩
      have hb1' : Below w.heap.size w w1 := ((Below.refl _ _).alloc (Nat.le_refl _) _).trans (hb1.mono (by simp))
      have hbx := hb1.block w.heap.size (by simp)
      rw [alloc_new] at hbx
      have HT := HV w1 hb1'
      have hsz : w.heap.size < w1.heap.size := by have := hb1.size; simp at this; omega
      clear HV hK hb1
      go_wp2_with fail
      refine HT.out.mono ?_
      rintro e w2 ⟨rfl, hb2⟩
      have hb2' := hb1'.trans (hb2.mono (by omega))
      have hbx2 := (hb2.block _ hsz).trans hbx
      obtain ⟨hc, hf⟩ := one_block hbx2
      have c0 := hc 0
      have c1 := hc 1
      have c2 := hc 2
      have hsz2 : w.heap.size < w2.heap.size := by have := hb2.size; omega
      clear HT hb1' hb2 hbx hsz w1
      go_wp2
      have hB := three_set hbx2 (.int .u8 3) (.int .u32 0) (.string (textI zs).1)
      have hW := hb2'.trans (three_below w2 w.heap.size (.int .u8 3) (.int .u32 0) (.string (textI zs).1))
      clear hc hf c0 c1 c2 hbx2 hb2' hsz2
      generalize ((w2.setCell _ _).setCell _ _).setCell _ _ = W at hB hW ⊢
      obtain ⟨hd, hf⟩ := one_block hB
      have d0 := hd 0
      have d1 := hd 1
      have d2 := hd 2
      refine bodyPost_ret (v := .tuple #[argV (3, 0, (textI zs).1), .int .i64 (textI zs).2.1, .int .i64 (textI zs).2.2]) ?_ rfl ⟨rfl, hW⟩
      simp [results, Tryz.results27, go_sem, argV, d0, d1, d2]
    · have k3' : (kindI c == 3) = false := by simpa using k3
      obtain ⟨g, off, rfl, hg, hcx⟩ := ha 0 hz
      have he : argI c zs b = (if kindI c = 1 ∧ noneB (nth zs 0) b = true then (noArg, 0, 43) else if kindI c = 4 ∧ enumB c (nth zs 0) = false then (noArg, 0, 31) else ((kindI c, nth zs 0, ⟨#[]⟩), 1, 0)) := by rw [argI, if_neg h0, if_neg k3]
      rw [he]
      clear HV HA ha hl hw he h0 hz
      generalize nth zs 0 = x at hNo hE hcx ⊢
      clear zs
      generalize kindI c = kd at hK k3 k3' ⊢
      generalize noneB x b = nb at hNo ⊢
      generalize enumB c x = eb at hE ⊢
      generalize enumS c x = es at hE
      change w.cell? ⟨g, off, none⟩ = some (.int .u32 x) at hcx
      by_cases k1 : kd = 1
      · subst k1
        cases nb
        · rw [if_neg (by simp), if_neg (by simp)]
          go_enter Tryz.func27, Tryz.ntmps27
          go_wp2_with fail
          refine (hK _).mono ?_
          rintro e w1 ⟨rfl, hb1⟩
          have hb1' : Below w.heap.size w w1 := ((Below.refl _ _).alloc (Nat.le_refl _) _).trans (hb1.mono (by simp))
          have hbx := hb1.block w.heap.size (by simp)
          rw [alloc_new] at hbx
          have hsz : w.heap.size < w1.heap.size := by have := hb1.size; simp at this; omega
          have hcx1 : w1.cell? ⟨g, off, none⟩ = some (.int .u32 x) := by rw [hb1'.cell hg]; exact hcx
          clear hK hb1 hcx
          go_wp2_with fail
          refine (hNo _).mono ?_
          rintro e w2 ⟨rfl, rfl⟩
          clear hNo
          go_wp2_with fail
          refine (hE _).mono ?_
          rintro e w2 ⟨rfl, hb2⟩
          have hb2' := hb1'.trans (hb2.mono (by omega))
          have hbx2 := (hb2.block _ hsz).trans hbx
          have hcx2 : w2.cell? ⟨g, off, none⟩ = some (.int .u32 x) := by rw [hb2.cell (by show g < _; omega)]; exact hcx1
          have hsz2 : w.heap.size < w2.heap.size := by have := hb2.size; omega
          clear hE hb1' hb2 hbx hsz hcx1
          clear w1
          obtain ⟨hc, hf⟩ := one_block hbx2
          have c0 := hc 0
          have c1 := hc 1
          have c2 := hc 2
          go_wp2
          have hB := three_set hbx2 (.int .u8 1) (.int .u32 x) (.string ⟨#[]⟩)
          have hW := hb2'.trans (three_below w2 w.heap.size (.int .u8 1) (.int .u32 x) (.string ⟨#[]⟩))
          clear hc hf c0 c1 c2 hbx2 hb2'
          generalize ((w2.setCell _ _).setCell _ _).setCell _ _ = W at hB hW ⊢
          obtain ⟨hd, hf⟩ := one_block hB
          have d0 := hd 0
          have d1 := hd 1
          have d2 := hd 2
          refine bodyPost_ret (v := .tuple #[.agg #[.int .u8 1, .int .u32 x, .string ⟨#[]⟩], .int .i64 1, .int .i64 0]) ?_ rfl ⟨rfl, hW⟩
          simp [results, Tryz.results27, go_sem, d0, d1, d2]
        · rw [if_pos ⟨rfl, rfl⟩]
          clear hE
          go_enter Tryz.func27, Tryz.ntmps27
          go_wp2_with fail
          refine (hK _).mono ?_
          rintro e w1 ⟨rfl, hb1⟩
          have hb1' : Below w.heap.size w w1 := ((Below.refl _ _).alloc (Nat.le_refl _) _).trans (hb1.mono (by simp))
          have hbx := hb1.block w.heap.size (by simp)
          rw [alloc_new] at hbx
          have hsz : w.heap.size < w1.heap.size := by have := hb1.size; simp at this; omega
          have hcx1 : w1.cell? ⟨g, off, none⟩ = some (.int .u32 x) := by rw [hb1'.cell hg]; exact hcx
          clear hK hb1 hcx
          go_wp2_with fail
          refine (hNo _).mono ?_
          rintro e w2 ⟨rfl, rfl⟩
          clear hNo
          obtain ⟨hc, hf⟩ := one_block hbx
          have c0 := hc 0
          have c1 := hc 1
          have c2 := hc 2
          go_wp2
          have hB := three_set hbx (.int .u8 0) (.int .u32 0) (.string ⟨#[]⟩)
          have hW := hb1'.trans (three_below w1 w.heap.size (.int .u8 0) (.int .u32 0) (.string ⟨#[]⟩))
          clear hc hf c0 c1 c2 hbx hb1'
          generalize ((w1.setCell _ _).setCell _ _).setCell _ _ = W at hB hW ⊢
          obtain ⟨hd, hf⟩ := one_block hB
          have d0 := hd 0
          have d1 := hd 1
          have d2 := hd 2
          refine bodyPost_ret (v := .tuple #[.agg #[.int .u8 0, .int .u32 0, .string ⟨#[]⟩], .int .i64 0, .int .i64 43]) ?_ rfl ⟨rfl, hW⟩
          simp [results, Tryz.results27, go_sem, d0, d1, d2]
      · by_cases k4 : kd = 4
        · subst k4
          cases eb
          · rw [if_neg (by simp), if_pos ⟨rfl, rfl⟩]
            clear hNo
            go_enter Tryz.func27, Tryz.ntmps27
            go_wp2_with fail
            refine (hK _).mono ?_
            rintro e w1 ⟨rfl, hb1⟩
            have hb1' : Below w.heap.size w w1 := ((Below.refl _ _).alloc (Nat.le_refl _) _).trans (hb1.mono (by simp))
            have hbx := hb1.block w.heap.size (by simp)
            rw [alloc_new] at hbx
            have hsz : w.heap.size < w1.heap.size := by have := hb1.size; simp at this; omega
            have hcx1 : w1.cell? ⟨g, off, none⟩ = some (.int .u32 x) := by rw [hb1'.cell hg]; exact hcx
            clear hK hb1 hcx
            go_wp2_with fail
            refine (hE _).mono ?_
            rintro e w2 ⟨rfl, hb2⟩
            have hb2' := hb1'.trans (hb2.mono (by omega))
            have hbx2 := (hb2.block _ hsz).trans hbx
            have hcx2 : w2.cell? ⟨g, off, none⟩ = some (.int .u32 x) := by rw [hb2.cell (by show g < _; omega)]; exact hcx1
            have hsz2 : w.heap.size < w2.heap.size := by have := hb2.size; omega
            clear hE hb1' hb2 hbx hsz hcx1
            clear w1
            obtain ⟨hc, hf⟩ := one_block hbx2
            have c0 := hc 0
            have c1 := hc 1
            have c2 := hc 2
            go_wp2
            have hB := three_set hbx2 (.int .u8 0) (.int .u32 0) (.string ⟨#[]⟩)
            have hW := hb2'.trans (three_below w2 w.heap.size (.int .u8 0) (.int .u32 0) (.string ⟨#[]⟩))
            clear hc hf c0 c1 c2 hbx2 hb2'
            generalize ((w2.setCell _ _).setCell _ _).setCell _ _ = W at hB hW ⊢
            obtain ⟨hd, hf⟩ := one_block hB
            have d0 := hd 0
            have d1 := hd 1
            have d2 := hd 2
            refine bodyPost_ret (v := .tuple #[.agg #[.int .u8 0, .int .u32 0, .string ⟨#[]⟩], .int .i64 0, .int .i64 31]) ?_ rfl ⟨rfl, hW⟩
            simp [results, Tryz.results27, go_sem, d0, d1, d2]
          · rw [if_neg (by simp), if_neg (by simp)]
            clear hNo
            go_enter Tryz.func27, Tryz.ntmps27
            go_wp2_with fail
            refine (hK _).mono ?_
            rintro e w1 ⟨rfl, hb1⟩
            have hb1' : Below w.heap.size w w1 := ((Below.refl _ _).alloc (Nat.le_refl _) _).trans (hb1.mono (by simp))
            have hbx := hb1.block w.heap.size (by simp)
            rw [alloc_new] at hbx
            have hsz : w.heap.size < w1.heap.size := by have := hb1.size; simp at this; omega
            have hcx1 : w1.cell? ⟨g, off, none⟩ = some (.int .u32 x) := by rw [hb1'.cell hg]; exact hcx
            clear hK hb1 hcx
            go_wp2_with fail
            refine (hE _).mono ?_
            rintro e w2 ⟨rfl, hb2⟩
            have hb2' := hb1'.trans (hb2.mono (by omega))
            have hbx2 := (hb2.block _ hsz).trans hbx
            have hcx2 : w2.cell? ⟨g, off, none⟩ = some (.int .u32 x) := by rw [hb2.cell (by show g < _; omega)]; exact hcx1
            have hsz2 : w.heap.size < w2.heap.size := by have := hb2.size; omega
            clear hE hb1' hb2 hbx hsz hcx1
            clear w1
            obtain ⟨hc, hf⟩ := one_block hbx2
            have c0 := hc 0
            have c1 := hc 1
            have c2 := hc 2
            go_wp2
            have hB := three_set hbx2 (.int .u8 4) (.int .u32 x) (.string ⟨#[]⟩)
            have hW := hb2'.trans (three_below w2 w.heap.size (.int .u8 4) (.int .u32 x) (.string ⟨#[]⟩))
            clear hc hf c0 c1 c2 hbx2 hb2'
            generalize ((w2.setCell _ _).setCell _ _).setCell _ _ = W at hB hW ⊢
            obtain ⟨hd, hf⟩ := one_block hB
            have d0 := hd 0
            have d1 := hd 1
            have d2 := hd 2
            refine bodyPost_ret (v := .tuple #[.agg #[.int .u8 4, .int .u32 x, .string ⟨#[]⟩], .int .i64 1, .int .i64 0]) ?_ rfl ⟨rfl, hW⟩
            simp [results, Tryz.results27, go_sem, d0, d1, d2]
        · rw [if_neg (fun h => k1 h.1), if_neg (fun h => k4 h.1)]
          have k1' : (kd == 1) = false := by simpa using k1
          have k4' : (kd == 4) = false := by simpa using k4
          clear hNo k1 k4 k3
          go_enter Tryz.func27, Tryz.ntmps27
          go_wp2_with fail
          refine (hK _).mono ?_
          rintro e w1 ⟨rfl, hb1⟩
          have hb1' : Below w.heap.size w w1 := ((Below.refl _ _).alloc (Nat.le_refl _) _).trans (hb1.mono (by simp))
          have hbx := hb1.block w.heap.size (by simp)
          rw [alloc_new] at hbx
          have hsz : w.heap.size < w1.heap.size := by have := hb1.size; simp at this; omega
          have hcx1 : w1.cell? ⟨g, off, none⟩ = some (.int .u32 x) := by rw [hb1'.cell hg]; exact hcx
          clear hK hb1 hcx
          go_wp2_with fail
          refine (hE _).mono ?_
          rintro e w2 ⟨rfl, hb2⟩
          have hb2' := hb1'.trans (hb2.mono (by omega))
          have hbx2 := (hb2.block _ hsz).trans hbx
          have hcx2 : w2.cell? ⟨g, off, none⟩ = some (.int .u32 x) := by rw [hb2.cell (by show g < _; omega)]; exact hcx1
          have hsz2 : w.heap.size < w2.heap.size := by have := hb2.size; omega
          clear hE hb1' hb2 hbx hsz hcx1
          clear w1
          obtain ⟨hc, hf⟩ := one_block hbx2
          have c0 := hc 0
          have c1 := hc 1
          have c2 := hc 2
          go_wp2
          have hB := three_set hbx2 (.int .u8 kd) (.int .u32 x) (.string ⟨#[]⟩)
          have hW := hb2'.trans (three_below w2 w.heap.size (.int .u8 kd) (.int .u32 x) (.string ⟨#[]⟩))
          clear hc hf c0 c1 c2 hbx2 hb2'
          generalize ((w2.setCell _ _).setCell _ _).setCell _ _ = W at hB hW ⊢
          obtain ⟨hd, hf⟩ := one_block hB
          have d0 := hd 0
          have d1 := hd 1
          have d2 := hd 2
          refine bodyPost_ret (v := .tuple #[.agg #[.int .u8 kd, .int .u32 x, .string ⟨#[]⟩], .int .i64 1, .int .i64 0]) ?_ rfl ⟨rfl, hW⟩
          simp [results, Tryz.results27, go_sem, d0, d1, d2]

end Go.Proofs.YteafjokpkljfcaaGreat
