/-
  Texts laid together in one: Ref03Fits, GraphTargets, GraphTargetsF, MathF.
-/
import Derived.WalkSpells
import Derived.WalkMore
import Derived.BigRegion
import Derived.Deep.RegionWith
import Derived.Deep.QuietTactic
import Derived.BigQuiet
import Derived.Test.YtclgjolplobdbaaB08
import Derived.OwnWalk
import Derived.BigGuard
import Derived.Deep.AppendLies
import Derived.Test.YtclgjolplobdbaaProg
import Derived.Test.YtclgjolplobdbaaB01
import Derived.Test.YtclgjolplobdbaaB06
import Derived.Test.YtclgjolplobdbaaB03
/-
  What Fits of the document's answer returns, for every operation and every list of kinds.
-/
namespace Go.Proofs.Ytclgjolplobdbaa
open Go.RowKit
set_option maxRecDepth 10000
set_option linter.unusedVariables false
set_option linter.unusedSimpArgs false

theorem rows_whole (fx rs m d : Nat) (hd : rs ∣ d) (hge : m ≤ fx + d) (h : d = 0 ∨ (fx + d < m + rs)) : (decide ((m : Int) - fx = 0) || (decide (0 < (m : Int) - fx) && decide (((m : Int) - fx) % rs = 0))) = decide (fx + d = m) := by
  rw [Bool.eq_iff_iff]
  simp only [Bool.or_eq_true, Bool.and_eq_true, decide_eq_true_eq]
  constructor
  · rintro (h1 | ⟨h1, h2⟩)
    · rcases h with rfl | h
      · omega
      · have hdz : d = 0 := Nat.eq_zero_of_dvd_of_lt hd (by omega)
        omega
    · have hlt : fx < m := by omega
      have e : ((m : Int) - fx) = ((m - fx : Nat) : Int) := by omega
      rw [e] at h2
      have h3 : rs ∣ (m - fx) := by exact_mod_cast Int.dvd_of_emod_eq_zero h2
      rcases h with rfl | h
      · omega
      · have h4 : rs ∣ d - (m - fx) := Nat.dvd_sub hd h3
        have := Nat.eq_zero_of_dvd_of_lt h4 (by omega)
        omega
  · intro h1
    by_cases hz : (m : Int) - fx = 0
    · exact .inl hz
    · refine .inr ⟨by omega, ?_⟩
      have e : ((m : Int) - fx) = (d : Int) := by omega
      rw [e]
      exact Int.emod_eq_zero_of_dvd (by exact_mod_cast hd)

set_option maxRecDepth 10000 in
set_option maxHeartbeats 4000000 in
theorem refFits_any (n : Int) (a : Option Addr) (m cap : Nat) (zs : List Int) (w : World) (hv : View .u8 w a zs) (hl : zs.length = m) (hm : m ≤ 140737488351232) :
    Calls Try.prog 12 #[.int .u16 n, .slice a m cap] w fun e w' => e = .returned (.tuple #[.int .i64 (fitsI (lookF refT n).2 (lookF refT n).1 zs).1, .bool (fitsI (lookF refT n).2 (lookF refT n).1 zs).2]) ∧ Below w.heap.size w w' := by
  have hR := fun w => refOf_any n w
  obtain ⟨mm, hmm⟩ := ofV_look n
  rw [hmm] at hR
  clear hmm
  have HL : Hid (zs.length = m) := hl
  have HLT : Hid (∀ (i : Int) w, i < 9223372036854775808 → _) := fun i w (h : i < 9223372036854775808) => refLetter_any n i w h
  have hs := look_short n
  clear hl
  generalize (lookF refT n).1 = f at *
  generalize (lookF refT n).2 = is at *
  have hs2 := hs
  simp only [shortF, Bool.and_eq_true, decide_eq_true_eq] at hs2
  obtain ⟨⟨⟨s1, s2⟩, s3⟩, s4⟩ := hs2
  clear hs s3 s4
  cases is
  · unfold formV at hR
    clear HLT hv HL hm
    go_enter Try.func12, Try.ntmps12
    go_wp2_with fail
    refine (hR _).mono ?_
    rintro e w1 ⟨rfl, hb⟩
    clear hR
    go_wp2
    go_ret2
    exact ⟨rfl, hb.alloc hb.size _⟩
  · go_enter Try.func12, Try.ntmps12
    go_wp2_with fail
    refine (hR _).mono ?_
    rintro e w1 ⟨rfl, hb⟩
    clear hR
    have hbel : Below w.heap.size w (w1.alloc (.cells (frmCells mm f) 55)) := hb.alloc hb.size _
    have hblk := alloc_new w1 (frmCells mm f) 55
    unfold formV
    go_wp2_with fail
    rw [show (w1.alloc (.cells #[.int .u16 mm, .string f.1, .bool f.2.1, .bool f.2.2.1, .string f.2.2.2.1, .string f.2.2.2.2.1, .int .i64 f.2.2.2.2.2.1, .int .u8 f.2.2.2.2.2.2] 55)) = w1.alloc (.cells (frmCells mm f) 55) from rfl]
    have HV : Hid (∀ k, k < m → _) := fun k (hk : k < m) => (hv.below hbel) k (by rw [HL.out]; exact hk)
    have HB : Hid (Below w.heap.size w (w1.alloc (.cells (frmCells mm f) 55))) := hbel
    have HK : Hid ((w1.alloc (.cells (frmCells mm f) 55)).heap[w1.heap.size]? = some (.cells (frmCells mm f) 55 (0, 0))) := hblk
    have HZ : Hid (w1.heap.size < (w1.alloc (.cells (frmCells mm f) 55)).heap.size) := by show _ < _; simp
    generalize w1.alloc (.cells (frmCells mm f) 55) = W at *
    clear hbel hblk hb hv
    go_loopw [4, 5, 8] (fun r b i wr => r = .int .i64 0 ∧ b = .bool false ∧ ∃ k : Nat, k ≤ m ∧ i = .int .i64 k ∧ Below W.heap.size W wr ∧ ∀ j, j < k → badK f zs j = false) (fun _ _ i _ => m - (intOf i).toNat)
    case atStart => exact ⟨rfl, rfl, 0, Nat.zero_le _, rfl, Below.refl _ _, fun j hj => by omega⟩
    case round =>
      obtain ⟨rfl, rfl, k, hk, rfl, hbw, hno⟩ := hrel
      have HO : Hid (∀ j, j < k → badK f zs j = false) := hno
      clear hno
      by_cases hlt : k < m
      · obtain ⟨b, off, rfl, hbs, hcell⟩ := HV.out k hlt
        have HBK : Hid (badK f zs k = ((letterI f k == 0) || !(kindI (letterI f k) == nth zs k))) := rfl
        have HHIT : Hid (badK f zs k = true → fitsI true f zs = ((k : Int), false)) := fun hb => by
          have e := range_find zs.length k (by rw [HL.out]; exact hlt) HO.out hb
          show (match (List.range zs.length).find? (badK f zs) with | some k => ((k : Int), false) | none => _) = _
          rw [e]
        have HS : Hid (badK f zs k = false → ∀ j, j < k + 1 → badK f zs j = false) := fun hb j hj => by
          by_cases e : j = k
          · subst e; exact hb
          · exact HO.out j (by omega)
        have hLt := HLT.out k wr (by omega)
        have hKd := fun w => refKind_any (letterI f k) w
        generalize letterI f k = x at *
        generalize kindI x = y at *
        generalize nth zs k = z at *
        clear HO HV HLT
        go_wp2_with fail
        refine hLt.mono ?_
        rintro e w2 ⟨rfl, hb2⟩
        clear hLt
        have hbW : Below W.heap.size W w2 := hbw.trans (hb2.mono hbw.size)
        have hcw : w2.cell? ⟨b, off + k, none⟩ = some (.int .u8 z) := (hbW.cell (p := ⟨b, off + k, none⟩) hbs).trans hcell
        have hb2s : b < w2.heap.size := Nat.lt_of_lt_of_le hbs hbW.size
        have HW2 : Hid (Below W.heap.size W w2) := hbW
        clear hb2 hbw hcell hbW
        have hki : (k : Int) < (m : Int) := by omega
        have hk0 : (0 : Int) ≤ (k : Int) := by omega
        by_cases hx : x = 0
        · subst hx
          have HE : Hid (fitsI true f zs = ((k : Int), false)) := HHIT.out (by rw [HBK.out]; rfl)
          clear HHIT HS HBK
          go_wp2
          go_quiet (fail)
          go_wp2
          try rw [Exit.noGoto_ret]
          go_ret2
          exact ⟨by rw [HE.out]; rfl, HB.out.trans ((bel_drewN HW2.out _).mono HB.out.size)⟩
        · have hx' : (x == 0) = false := by simpa using hx
          clear hx
          have HY : Hid ((y = z → ∀ j, j < k + 1 → badK f zs j = false) ∧ (y ≠ z → fitsI true f zs = ((k : Int), false))) := ⟨fun h => HS.out (by rw [HBK.out, hx', h]; simp), fun h => HHIT.out (by rw [HBK.out, hx']; simpa using h)⟩
          clear HHIT HS HBK
          go_wp2
          go_region_with ((go_at_call 25; refine (hKd _).mono ?_; rintro e w3 ⟨rfl, hb3⟩; have hcx : w3.cell? ⟨b, off + k, none⟩ = some (.int .u8 z) := (hb3.cell (p := ⟨b, off + k, none⟩) hb2s).trans hcw))
          all_goals
            have HW3 : Hid (Below W.heap.size W w3) := HW2.out.drew.trans (hb3.mono HW2.out.size)
            clear hb3 hcx hKd
            by_cases hy : y = z
            · subst hy
              have HE : Hid (∀ j, j < k + 1 → badK f zs j = false) := HY.out.1 rfl
              clear HY
              go_wp2
              go_roundw
              case rel => exact ⟨rfl, rfl, k + 1, by omega, by go_num, HW3.out, HE.out⟩
              case measure => simp [intOf]; omega
            · have HE : Hid (fitsI true f zs = ((k : Int), false)) := HY.out.2 hy
              have hy' : (y != z) = true := by simpa using hy
              clear HY hy
              go_wp2
              try rw [Exit.noGoto_ret]
              go_ret2
              exact ⟨by rw [HE.out]; rfl, HB.out.trans (HW3.out.mono HB.out.size)⟩
      · obtain rfl : k = m := by omega
        have hno : ∀ j, j < zs.length → badK f zs j = false := fun j hj => HO.out j (by rw [HL.out] at hj; exact hj)
        have HF2 : Hid (fitsI true f zs = if wholeB f k then (0, true) else ((k : Int), false)) := by
          show (match (List.range zs.length).find? (badK f zs) with | some k => ((k : Int), false) | none => if wholeB f zs.length then (0, true) else ((zs.length : Int), false)) = _
          rw [range_not zs.length hno, HL.out]
        have HRS : Hid (f.2.2.2.1.size < k → f.2.2.2.2.1.size ≠ 0) := fun h => rest_of_letters hno (by rw [HL.out]; exact h)
        have HWH : Hid (wholeB f k = (decide ((k : Int) - f.2.2.2.1.size = 0) || (decide (0 < (k : Int) - f.2.2.2.1.size) && decide (((k : Int) - f.2.2.2.1.size) % f.2.2.2.2.1.size = 0)))) := rfl
        have hblk := (hbw.block _ HZ.out).trans HK.out
        obtain ⟨d0, d1, d2, d3, d4, d5, d6, d7, df⟩ := frm_cells hblk
        have HBW : Hid (Below W.heap.size W wr) := hbw
        generalize wholeB f k = y at *
        generalize f.2.2.2.1 = fx at *
        generalize f.2.2.2.2.1 = rs at *
        clear hno HO HV HLT hblk d0 d1 d2 d3 d6 d7 df hbw
        go_wp2
        go_loop [10] (fun i => ∃ d : Nat, i = .int .i64 ((fx.size : Int) + d) ∧ rs.size ∣ d ∧ (d = 0 ∨ fx.size + d < k + rs.size)) (fun i => (k + 1 - (intOf i).toNat))
        case atStart => exact ⟨0, by simp, Nat.dvd_zero _, .inl rfl⟩
        case round =>
          obtain ⟨d, rfl, hd, hd2⟩ := hrel
          have HD : Hid (rs.size ∣ d) := hd
          clear hd
          by_cases hl2 : fx.size + d < k
          · have hr0 : rs.size ≠ 0 := HRS.out (by omega)
            have ht : (fx.size : Int) + (d : Int) < (k : Int) := by omega
            have hdb : (d : Int) ≤ 140737488351232 := by omega
            go_wp2
            go_round
            case rel => exact ⟨d + rs.size, by go_num, Nat.dvd_add HD.out (Nat.dvd_refl _), .inr (by omega)⟩
            case measure => simp [intOf]; omega
          · have ht : ¬ (fx.size : Int) + (d : Int) < (k : Int) := by omega
            have e := rows_whole fx.size rs.size k d HD.out (by omega) hd2
            rw [← HWH.out] at e
            have HD2 : Hid (d = 0 ∨ fx.size + d < k + rs.size) := hd2
            clear HWH hd2
            by_cases hq : fx.size + d = k
            · have ey : y = true := by rw [e]; exact decide_eq_true hq
              subst ey
              have hq' : ((fx.size : Int) + (d : Int) != (k : Int)) = false := by simp; omega
              clear e hq
              go_wp2
              go_ret2
              exact ⟨by rw [HF2.out]; rfl, HB.out.trans (HBW.out.mono HB.out.size)⟩
            · have ey : y = false := by rw [e]; exact decide_eq_false hq
              subst ey
              have hq' : ((fx.size : Int) + (d : Int) != (k : Int)) = true := by simp; omega
              clear e hq
              go_wp2
              go_ret2
              exact ⟨by rw [HF2.out]; rfl, HB.out.trans (HBW.out.mono HB.out.size)⟩

end Go.Proofs.Ytclgjolplobdbaa

/-
  Targets of graph, and the document's.
-/
namespace Go.Proofs.Ytclgjolplobdbaa
open Go.RowKit
set_option linter.unusedVariables false
set_option linter.unusedSimpArgs false
set_option maxRecDepth 10000

theorem wpList_appK {w : World} {ops : Array Oper} {rest : List Oper} {o : Oper} {a : Act} {Q : Exit → Act → World → Prop} (hgd : o.guard = none) (s x : Operand) (k : IntKind) (e t : TypeId) (by_ : Nat) (ho : o.op = .call { callee := .builtin .append, args := #[s, x], argTypes := #[t, t] })
    (hu : Try.prog.underlying t = some (.slice e)) (hinf : (Try.prog.info? e).map (fun i => (i.zero, i.size, i.bytes)) = some (some (.int k 0), 1, by_)) (hby : by_ ≤ 8)
    (lo : Nat) (v : Value) (zs : List Int) (y : Int) (hs : a.eval s = v) (B : Nat) (hx : a.eval x = .slice (some ⟨B, 0, none⟩) 1 1) (hB : w.heap[B]? = some (.cells #[.int k y] e (0, 0))) (hown : w.ownsRow lo e 1 v zs.length (zs.map (Value.int k))) (hn : zs.length < 17592186044415) (hlo : lo ≤ w.heap.size)
    (h : ∀ g cap w', w'.ownsRow lo e 1 (.slice (some ⟨g, 0, none⟩) (zs.length + 1) cap) (zs ++ [y]).length ((zs ++ [y]).map (Value.int k)) → w.grownBy w' v.ownBlock → (v.ownBlock = some g ∨ g = w.heap.size) → wpList Try.prog ops Q rest (a.put o.dst (.slice (some ⟨g, 0, none⟩) (zs.length + 1) cap)) w') : wpList Try.prog ops Q (o :: rest) a w := by
  obtain ⟨i0, hi, hz0, hz1, hz2⟩ := info_parts hinf
  refine wpList_append_lies w hgd s x t ho lo e i0 (.int k 0) 1 by_ hu hi hz0 hz1 hz2 rfl (by decide) v zs.length (zs.map (Value.int k)) hs hown ⟨B, 0, none⟩ 1 1 [.int k y] hx rfl (World.news_of_block (cs := #[.int k y]) (t := e) (fr := (0, 0)) hB) (by intro u hu; simp at hu; subst hu; rfl) (by decide) (by unfold maxLen; omega) (Nat.le_trans (Nat.mul_le_mul_left _ hby) (by omega)) hlo w.heap.size rfl ?_
  intro g cap w' h1 h2 h3 _
  exact h g cap w' (by simpa using h1) h2 h3

def fitB (x : InstT) : Bool := (fitsI (lookF refT x.1).2 (lookF refT x.1).1 (kindsL x.2.2.2)).2

set_option maxHeartbeats 2000000 in
theorem graphFits_any (x : InstT) (a : Option Addr) (m cap : Nat) (w : World) (hv : ArgsV w a x.2.2.2) (hl : x.2.2.2.length = m) (hm : 24 * m ≤ 140737488351232) :
    Calls Try.prog 22 #[instV x a m cap] w fun e w' => e = .returned (.bool (fitB x)) ∧ Below w.heap.size w w' := by
  obtain ⟨i0, hi, hz0, hz1, hz2⟩ := info_parts Whole.info
  obtain ⟨xo, xt, xr, l⟩ := x
  simp only at hv hl
  unfold instV fitB
  show Calls Try.prog 22 #[.agg #[.int .u16 xo, .int .u32 xt, .int .u32 xr, .slice a m cap]] w fun e w' => e = .returned (.bool (fitsI (lookF refT xo).2 (lookF refT xo).1 (kindsL l)).2) ∧ Below w.heap.size w w'
  have HL := hide hl
  have hF := fun (g : Nat) (w : World) (h : View .u8 w (some ⟨g, 0, none⟩) (kindsL l)) => fits_any xo (some ⟨g, 0, none⟩) m m (kindsL l) w h (by rw [kindsL, List.length_map]; exact hl) (by omega)
  have HF := hide hF
  have HV := hide hv
  generalize fitsI (lookF refT xo).2 (lookF refT xo).1 (kindsL l) = r at *
  clear hl hF hv
  go_enter Try.func22, Try.ntmps22
  go_wp2_with (at_make; refine wpList_make_full _ rfl _ _ 37 rfl (w.heap.size + 1) 5 i0 (.int .u8 0) 1 Try.underlying37 hi hz0 hz1 _ _ _ _ m rfl rfl (by omega) (by omega) (by rw [hz2]; omega) (by unfold maxLen; omega) (by simp) ?_)
  intro w1 hown1 hgrow1
  have hba : Below w.heap.size w (w.alloc (.cells #[.int .u16 xo, .int .u32 xt, .int .u32 xr, .slice a m cap] 26)) := (Below.refl _ _).alloc (Nat.le_refl _) _
  have hb1 : Below (w.heap.size + 1) (w.alloc (.cells #[.int .u16 xo, .int .u32 xt, .int .u32 xr, .slice a m cap] 26)) w1 := (Below.refl _ _).grown hgrow1 (by simp) (by simp)
  have hbox : w1.heap[w.heap.size]? = some (.cells #[.int .u16 xo, .int .u32 xt, .int .u32 xr, .slice a m cap] 26 (0, 0)) := (hb1.block w.heap.size (by omega)).trans (allocNew _ _ rfl)
  have hbw : Below w.heap.size w w1 := hba.trans (hb1.mono (by omega))
  have hr1 := made_row (kindsL l) hown1
  try simp only [World.size_alloc] at hr1
  have HS0 := hide (And.intro hr1 (And.intro hbox hbw))
  have c3 := (one_block hbox).1 3
  clear hown1 hgrow1 hba hb1 hbox hbw hr1
  go_wp2_with fail
  go_loopw [15] (fun i wr => ∃ k : Nat, k ≤ m ∧ i = .int .i64 k ∧ wr.ownsRow (w.heap.size + 1) 5 1 (.slice (some ⟨w.heap.size + 1, 0, none⟩) m m) m ((filled (kindsL l) k m).map (Value.int .u8)) ∧ wr.heap[w.heap.size]? = some (.cells #[.int .u16 xo, .int .u32 xt, .int .u32 xr, .slice a m cap] 26 (0, 0)) ∧ Below w.heap.size w wr)
    (fun i _ => m - (intOf i).toNat)
  case atStart => exact ⟨0, Nat.zero_le _, rfl, HS0.out.1, HS0.out.2.1, HS0.out.2.2⟩
  case round =>
    obtain ⟨k, hk, rfl, hown, hbox, hnx⟩ := hrel
    clear c3
    by_cases hlt : k < m
    · obtain ⟨b, off, rfl, hbs, c1, c2, c3⟩ := HV.out k (by rw [HL.out]; exact hlt)
      have hkl : k < (kindsL l).length := by rw [kindsL, List.length_map, HL.out]; exact hlt
      have hkn := kindsL_nth l k (by rw [HL.out]; exact hlt)
      have q1 := (hnx.cell (p := ⟨b, off + k * 3, none⟩) hbs).trans c1
      have q2 := (hnx.cell (p := ⟨b, off + k * 3 + 1, none⟩) hbs).trans c2
      have q3 := (hnx.cell (p := ⟨b, off + k * 3 + 2, none⟩) hbs).trans c3
      generalize nthA l k = z at q1 q2 q3 hkn
      obtain ⟨z1, z2, z3⟩ := z
      simp only at q1 q2 q3 hkn
      have hbA : Below wr.heap.size wr (wr.alloc (.cells #[.int .u8 z1, .int .u32 z2, .string z3] 36)) := (Below.refl _ wr).alloc (Nat.le_refl _) _
      obtain ⟨d1, d2, d3⟩ := fill_step (own_below hown hbA) hlt hkl
      rw [hkn] at d3
      have hki : (k : Int) < (m : Int) := by omega
      have HLT := hide hlt
      have HD3 := hide d3
      have HNX := hide (hnx.trans (hbA.mono hnx.size))
      have HBX := hide (allocOld hbox (.cells #[.int .u8 z1, .int .u32 z2, .string z3] 36))
      clear c1 c2 c3 hown d3 hkl HS0 hnx hbox hk hlt hbs hkn hbA
      go_wp2_with fail
      refine ⟨⟨k + 1, HLT.out, by simp, HD3.out, ?_, ?_⟩, measZ2 HLT.out⟩
      · exact (Below.heap_setCell _ _ _ _ (by simp)).trans HBX.out
      · exact HNX.out.setCell (p := ⟨w.heap.size + 1, k, none⟩) (by simp) _
    · have e : m = k := by omega
      subst e
      rw [filled_whole (kindsL l) m (by rw [kindsL, List.length_map, HL.out])] at hown
      have c0 := (one_block hbox).1 0
      have hV := View.ofRow hown (by rw [kindsL, List.length_map, HL.out])
      have hf := HF.out _ _ hV
      have HNX := hide hnx
      clear hown hV HS0 hbox hnx hk
      go_wp2_with fail
      refine hf.mono ?_
      rintro e w2 ⟨rfl, hb2⟩
      have HFIN := hide (HNX.out.trans (hb2.mono HNX.out.size))
      clear hb2 hf
      obtain ⟨r1, r2⟩ := r
      go_wp2_with fail
      go_ret
      exact ⟨rfl, HFIN.out⟩

/-- Where the targets stand. -/
def tgA (op : Int) : Int × Int := if op = 249 then (0, 1) else if op = 250 then (1, 1) else if op = 251 then (1, 2) else (0, 0)
set_option maxHeartbeats 2000000 in
theorem targetsAt_any (op : Int) (w : World) : Calls Try.prog 21 #[.int .u16 op] w fun e w' => e = .returned (.tuple #[.int .i64 (tgA op).1, .int .i64 (tgA op).2]) ∧ w = w' := by
  unfold tgA
  rcases Decidable.em (op = 249) with rfl | h1
  · go_enter Try.func21, Try.ntmps21
    go_wp2
    go_ret2
    exact ⟨rfl, rfl⟩
  · rw [if_neg h1]
    have h1' : (op == 249) = false := by simpa using h1
    clear h1
    rcases Decidable.em (op = 250) with rfl | h2
    · go_enter Try.func21, Try.ntmps21
      go_wp2
      go_ret2
      exact ⟨rfl, rfl⟩
    · rw [if_neg h2]
      have h2' : (op == 250) = false := by simpa using h2
      clear h2
      rcases Decidable.em (op = 251) with rfl | h3
      · go_enter Try.func21, Try.ntmps21
        go_wp2
        go_ret2
        exact ⟨rfl, rfl⟩
      · rw [if_neg h3]
        have h3' : (op == 251) = false := by simpa using h3
        clear h3
        go_enter Try.func21, Try.ntmps21
        go_wp2
        go_ret2
        exact ⟨rfl, rfl⟩

/-- Whether a target stands at a place. -/
def tgB (op : Int) (k : Nat) : Bool := decide (op = 249) || (decide (op = 250) && decide (0 < k)) || (decide (op = 251) && decide (k % 2 = 1))
/-- The targets among the first k arguments. -/
def tgP (op : Int) (l : List ArgT) (k : Nat) : List Int := ((List.range (min k l.length)).filter (tgB op)).map fun j => (nthA l j).2.1
def tgL (x : InstT) : List Int := if fitB x then tgP x.1 x.2.2.2 x.2.2.2.length else []
theorem tgP_len (op : Int) (l : List ArgT) (k : Nat) : (tgP op l k).length ≤ l.length := by
  unfold tgP
  rw [List.length_map]
  exact Nat.le_trans (List.length_filter_le _ _) (by simp; omega)
theorem tgP_one (op : Int) (l : List ArgT) (k : Nat) (h : k < l.length) : tgP op l (k + 1) = tgP op l k ++ (if tgB op k then [(nthA l k).2.1] else []) := by
  unfold tgP
  rw [show min (k + 1) l.length = k + 1 by omega, show min k l.length = k by omega, List.range_succ, List.filter_append, List.map_append]
  congr 1
  cases h2 : tgB op k <;> simp [h2]
theorem tgP_past (op : Int) (l : List ArgT) (k : Nat) (h : l.length ≤ k) : tgP op l k = tgP op l l.length := by
  unfold tgP
  rw [show min k l.length = l.length by omega, Nat.min_self]
theorem tgP_none (op : Int) (l : List ArgT) (k : Nat) (h : ∀ j, tgB op j = false) : tgP op l k = [] := by
  unfold tgP
  rw [List.filter_eq_nil_iff.2 (fun j _ => by simp [h j])]; rfl

end Go.Proofs.Ytclgjolplobdbaa

/-
  Targets of graph: the labels to which an instruction branches.
-/
namespace Go.Proofs.Ytclgjolplobdbaa
open Go.RowKit
set_option linter.unusedVariables false
set_option linter.unusedSimpArgs false
set_option maxRecDepth 10000

theorem TgW.info : (Try.prog.info? 23).map (fun i => (i.zero, i.size, i.bytes)) = some (some (.int .u32 0), 1, 4) := by kernel_rfl
theorem TgK.info : (Try.prog.info? 5).map (fun i => (i.zero, i.size, i.bytes)) = some (some (.int .u8 0), 1, 1) := by kernel_rfl
/-- Words that are answered in new memory. -/
def AnsW (w w' : World) (e : Ending) (l : List Int) : Prop := ∃ v, e = .returned v ∧ w'.ownsRow w.heap.size 23 1 v l.length (l.map (Value.int .u32)) ∧ Below w.heap.size w w'
/-- A row beside an instruction's box. -/
structure TgS (w wr : World) (k : IntKind) (T : TypeId) (x : InstT) (a : Option Addr) (n c : Nat) (v : Value) (zs : List Int) : Prop where
  own : wr.ownsRow (w.heap.size + 1) T 1 v zs.length (zs.map (Value.int k))
  box : wr.heap[w.heap.size]? = some (.cells #[.int .u16 x.1, .int .u32 x.2.1, .int .u32 x.2.2.1, .slice a n c] 26 (0, 0))
  bel : Below w.heap.size w wr
theorem TgS.below {w wr wr' : World} {k : IntKind} {T : TypeId} {x : InstT} {a : Option Addr} {n c : Nat} {v : Value} {zs : List Int} (h : TgS w wr k T x a n c v zs) (hb : Below wr.heap.size wr wr') : TgS w wr' k T x a n c v zs :=
  ⟨own_below h.own hb, (hb.block _ (Array.getElem?_eq_some_iff.1 h.box).1).trans h.box, h.bel.trans (hb.mono h.bel.size)⟩
theorem TgS.push {w wr w5 : World} {k : IntKind} {T : TypeId} {x : InstT} {a : Option Addr} {n c : Nat} {v v' : Value} {zs zs' : List Int} (h : TgS w wr k T x a n c v zs) (hg : wr.grownBy w5 v.ownBlock) (ho : w5.ownsRow (w.heap.size + 1) T 1 v' zs'.length (zs'.map (Value.int k))) : TgS w w5 k T x a n c v' zs' := by
  have hlo : ∀ g, v.ownBlock = some g → w.heap.size + 1 ≤ g := fun g e => (World.ownsRow.lt h.own g e).1
  refine ⟨ho, (hg.block _ (Array.getElem?_eq_some_iff.1 h.box).1 (fun e => by have := hlo _ e.symm; omega)).trans h.box, h.bel.grown hg h.bel.size (fun k e => by have := hlo k e; omega)⟩

set_option maxHeartbeats 4000000 in
theorem targets_loop (x : InstT) (f s : Nat) (hA : tgA x.1 = ((f : Int), (s : Int))) (hs1 : 1 ≤ s) (hs2 : s ≤ 2) (hf : f ≤ 1) (good : Nat → Prop) (hg0 : good f) (h0 : tgP x.1 x.2.2.2 f = []) (hst : ∀ k, good k → k < x.2.2.2.length → good (k + s) ∧ tgP x.1 x.2.2.2 (k + s) = tgP x.1 x.2.2.2 k ++ [(nthA x.2.2.2 k).2.1])
    (a : Option Addr) (n c : Nat) (w : World) (hv : ArgsV w a x.2.2.2) (hl : x.2.2.2.length = n) (hm : 24 * n ≤ 140737488351232) :
    Calls Try.prog 11 #[instV x a n c] w fun e w' => AnsW w w' e (tgL x) := by
  have HTP := hide (tgP_len x.1 x.2.2.2)
  have HPA := hide (tgP_past x.1 x.2.2.2)
  have HTG : Hid (tgL x = if fitB x then tgP x.1 x.2.2.2 x.2.2.2.length else []) := rfl
  have hTA := fun wx => targetsAt_any x.1 wx
  rw [hA] at hTA
  have hFT := fun wx (h : Below w.heap.size w wx) => graphFits_any x a n c wx (hv.below h) hl hm
  have hn0 : x.2.2.2.length = n := hl
  generalize fitB x = fb at *
  generalize tgL x = RES at *
  have HST := hide hst
  have HG0 := hide hg0
  have H0 := hide h0
  have HV := hide hv
  have HL := hide hl
  have HTA := hide hTA
  have HFT := hide hFT
  clear hA hst hg0 h0 hv hl hTA hFT hn0
  obtain ⟨xo, xt, xr, l⟩ := x
  unfold instV at *
  simp only at *
  have hba : Below w.heap.size w (w.alloc (.cells #[.int .u16 xo, .int .u32 xt, .int .u32 xr, .slice a n c] 26)) := (Below.refl _ _).alloc (Nat.le_refl _) _
  have hbx : (w.alloc (.cells #[.int .u16 xo, .int .u32 xt, .int .u32 xr, .slice a n c] 26)).heap[w.heap.size]? = some (.cells #[.int .u16 xo, .int .u32 xt, .int .u32 xr, .slice a n c] 26 (0, 0)) := allocNew _ _ rfl
  have HBA := hide hba
  have HBX := hide hbx
  have hsb : ((s : Int) == 0) = false := by
    have : ¬ (s : Int) = 0 := by omega
    simpa using this
  clear hba hbx
  have hta := HTA.out (w.alloc (.cells #[.int .u16 xo, .int .u32 xt, .int .u32 xr, .slice a n c] 26))
  have hft := HFT.out _ HBA.out
  go_enter Try.func11, Try.ntmps11
  go_wp2_with fail
  refine hta.mono ?_
  rintro e w1 ⟨rfl, rfl⟩
  clear hta
  go_wp2_with fail
  refine hft.mono ?_
  rintro e w2 ⟨rfl, hb2⟩
  have hS2 : TgS w w2 .u32 23 (xo, xt, xr, l) a n c (.slice none 0 0) [] := ⟨World.ownsRow_nil _ _ _ _, (hb2.block _ (Array.getElem?_eq_some_iff.1 HBX.out).1).trans HBX.out, HBA.out.trans (hb2.mono HBA.out.size)⟩
  have HS2 := hide hS2
  clear hft hb2 hS2
  cases fb with
  | false =>
    have HRE : Hid (RES = []) := by show _ = _; rw [HTG.out]; rfl
    go_wp2_with fail
    go_ret
    rw [HRE.out]
    exact ⟨_, rfl, World.ownsRow_nil _ _ _ _, HS2.out.bel⟩
  | true =>
    have HRE : Hid (RES = tgP xo l l.length) := by show _ = _; rw [HTG.out]; rfl
    go_wp2_with fail
    go_loopw [5, 6] (fun v i wr => ∃ k : Nat, k ≤ n + 2 ∧ i = .int .i64 k ∧ good k ∧ TgS w wr .u32 23 (xo, xt, xr, l) a n c v (tgP xo l k)) (fun _ i _ => n + 2 - (intOf i).toNat)
    case atStart => exact ⟨f, by omega, rfl, HG0.out, by rw [H0.out]; exact HS2.out⟩
    case round =>
      obtain ⟨k, hk, rfl, hgk, hS⟩ := hrel
      obtain ⟨av, cv, rfl⟩ := own_shapeG hS.own
      have c3 := (one_block hS.box).1 3
      by_cases hlt : k < n
      · have hkl : k < l.length := by rw [HL.out]; exact hlt
        obtain ⟨b, off, rfl, hb, c1, c2, c4⟩ := HV.out k hkl
        obtain ⟨hg', hp'⟩ := HST.out k hgk hkl
        have q2 := (hS.bel.cell (p := ⟨b, off + k * 3 + 1, none⟩) hb).trans c2
        have HPL : Hid ((tgP xo l k).length < 17592186044415) := by show _ < _; have := HTP.out k; rw [HL.out] at this; omega
        generalize tgP xo l k = zs at *
        generalize (nthA l k).2.1 = y at *
        have hki : (k : Int) < (n : Int) := by omega
        have HS := hide (hS.below ((Below.refl _ _).alloc (Nat.le_refl _) (.cells #[.int .u32 y] 23)))
        have HG' := hide hg'
        have HP' := hide hp'
        have HLT : Hid (k + s ≤ n + 2 ∧ k < k + s) := ⟨by omega, by omega⟩
        have hsz : w.heap.size < wr.heap.size := (Array.getElem?_eq_some_iff.1 hS.box).1
        have hks : (k : Int) + (s : Int) < 140737488351233 := by omega
        clear hS hgk hg' hp' hk hlt hkl hb c1 c2 c4 HS2
        go_wp2_with (at_builtin; refine wpList_appK rfl (.tmp 29) (.tmp 36) .u32 23 28 4 rfl Try.underlying28 TgW.info (by omega) (w.heap.size + 1) _ zs y rfl wr.heap.size rfl (allocNew _ _ rfl) HS.out.own HPL.out (by simp; omega) ?_)
        intro g cap w5 ho5 hg5 _
        have HS5 := hide (HS.out.push (zs' := zs ++ [y]) hg5 (by simpa using ho5))
        clear ho5 hg5 HS
        go_wp2_with fail
        exact ⟨⟨k + s, HLT.out.1, by simp, HG'.out, by rw [HP'.out]; simpa using HS5.out⟩, by have h1 := HLT.out; simp [intOf]; omega⟩
      · have HPP := hide (HPA.out k (by rw [HL.out]; omega))
        have hki : ¬ (k : Int) < (n : Int) := by omega
        have HS := hide hS
        clear hS hgk HS2 hlt hk
        go_wp2_with fail
        go_ret
        have h1 := HS.out.own
        refine ⟨_, rfl, ?_, HS.out.bel⟩
        rw [HRE.out, ← HPP.out]
        exact own_mono h1 (by omega)

theorem blkTargets_any (x : InstT) (a : Option Addr) (n c : Nat) (w : World) (hv : ArgsV w a x.2.2.2) (hl : x.2.2.2.length = n) (hm : 24 * n ≤ 140737488351232) :
    Calls Try.prog 11 #[instV x a n c] w fun e w' => AnsW w w' e (tgL x) := by
  have hone : ∀ k, k < x.2.2.2.length → tgB x.1 k = true → tgP x.1 x.2.2.2 (k + 1) = tgP x.1 x.2.2.2 k ++ [(nthA x.2.2.2 k).2.1] := fun k hk h => by rw [tgP_one _ _ _ hk, h]; rfl
  by_cases h1 : x.1 = 249
  · refine targets_loop x 0 1 (by simp [tgA, h1]) (by omega) (by omega) (by omega) (fun _ => True) trivial (by simp [tgP]) (fun k _ hk => ⟨trivial, hone k hk (by simp [tgB, h1])⟩) a n c w hv hl hm
  by_cases h2 : x.1 = 250
  · refine targets_loop x 1 1 (by simp [tgA, h2]) (by omega) (by omega) (by omega) (fun k => 0 < k) (by omega) ?_ (fun k hg hk => ⟨by omega, hone k hk (by simp [tgB, h2, hg])⟩) a n c w hv hl hm
    by_cases hz : 0 < x.2.2.2.length
    · rw [show (1 : Nat) = 0 + 1 from rfl, tgP_one _ _ _ hz]
      simp [tgP, tgB, h2]
    · have : x.2.2.2.length = 0 := by omega
      simp [tgP, this]
  by_cases h3 : x.1 = 251
  · refine targets_loop x 1 2 (by simp [tgA, h3]) (by omega) (by omega) (by omega) (fun k => k % 2 = 1) (by omega) ?_ (fun k hg hk => ⟨by omega, ?_⟩) a n c w hv hl hm
    · by_cases hz : 0 < x.2.2.2.length
      · rw [show (1 : Nat) = 0 + 1 from rfl, tgP_one _ _ _ hz]
        simp [tgP, tgB, h3]
      · have : x.2.2.2.length = 0 := by omega
        simp [tgP, this]
    · have e1 := hone k hk (by simp [tgB, h3, hg])
      by_cases hk2 : k + 1 < x.2.2.2.length
      · rw [show k + 2 = (k + 1) + 1 from rfl, tgP_one _ _ _ hk2, e1]
        have : tgB x.1 (k + 1) = false := by simp [tgB, h3]; omega
        rw [this]; simp
      · rw [tgP_past _ _ (k + 2) (by omega), ← e1]
        rw [tgP_past _ _ (k + 1) (by omega)]
  · have hn : ∀ j, tgB x.1 j = false := fun j => by simp [tgB, h1, h2, h3]
    have HRE : Hid (tgL x = []) := by show _ = _; unfold tgL; rw [tgP_none _ _ _ hn]; simp
    have hTA := fun wx => targetsAt_any x.1 wx
    have hA : tgA x.1 = (0, 0) := by simp [tgA, h1, h2, h3]
    rw [hA] at hTA
    generalize tgL x = RES at *
    obtain ⟨xo, xt, xr, l⟩ := x
    unfold instV
    have hba : Below w.heap.size w (w.alloc (.cells #[.int .u16 xo, .int .u32 xt, .int .u32 xr, .slice a n c] 26)) := (Below.refl _ _).alloc (Nat.le_refl _) _
    have HBA := hide hba
    have hta := hTA (w.alloc (.cells #[.int .u16 xo, .int .u32 xt, .int .u32 xr, .slice a n c] 26))
    clear hba hTA hA hn hone h1 h2 h3 hv hl
    go_enter Try.func11, Try.ntmps11
    go_wp2_with fail
    refine hta.mono ?_
    rintro e w1 ⟨rfl, rfl⟩
    clear hta
    go_wp2_with fail
    go_ret
    rw [HRE.out]
    exact ⟨_, rfl, World.ownsRow_nil _ _ _ _, HBA.out⟩

set_option maxHeartbeats 4000000 in
theorem refTargets14_any (x : InstT) (a : Option Addr) (n c : Nat) (w : World) (hv : ArgsV w a x.2.2.2) (hl : x.2.2.2.length = n) (hm : 24 * n ≤ 140737488351232) :
    Calls Try.prog 7 #[instV x a n c] w fun e w' => AnsW w w' e (tgL x) := by
  have HTP := hide (tgP_len x.1 x.2.2.2)
  have HT1 := hide (tgP_one x.1 x.2.2.2)
  have HTG : Hid (tgL x = if fitB x then tgP x.1 x.2.2.2 x.2.2.2.length else []) := rfl
  have hkl : (kindsL x.2.2.2).length = n := by rw [kindsL, List.length_map]; exact hl
  have hF := fun ax cx wx (h : View .u8 wx ax (kindsL x.2.2.2)) => refFits_any x.1 ax n cx (kindsL x.2.2.2) wx h hkl (by omega)
  have HFB : Hid ((fitsI (lookF refT x.1).2 (lookF refT x.1).1 (kindsL x.2.2.2)).2 = fitB x) := rfl
  generalize fitsI (lookF refT x.1).2 (lookF refT x.1).1 (kindsL x.2.2.2) = fi at *
  have HF := hide hF
  have HKL := hide hkl
  have HKN := hide (kindsL_nth x.2.2.2)
  generalize hfb : fitB x = fb at *
  clear hfb
  generalize tgL x = RES at *
  have HV := hide hv
  have HL := hide hl
  clear hv hl hF hkl
  obtain ⟨xo, xt, xr, l⟩ := x
  unfold instV at *
  simp only at *
  have hba : Below w.heap.size w (w.alloc (.cells #[.int .u16 xo, .int .u32 xt, .int .u32 xr, .slice a n c] 26)) := (Below.refl _ _).alloc (Nat.le_refl _) _
  have hbx : (w.alloc (.cells #[.int .u16 xo, .int .u32 xt, .int .u32 xr, .slice a n c] 26)).heap[w.heap.size]? = some (.cells #[.int .u16 xo, .int .u32 xt, .int .u32 xr, .slice a n c] 26 (0, 0)) := allocNew _ _ rfl
  have HS0 : Hid (TgS w (w.alloc (.cells #[.int .u16 xo, .int .u32 xt, .int .u32 xr, .slice a n c] 26)) .u8 5 (xo, xt, xr, l) a n c (.slice none 0 0) ((kindsL l).take 0)) := ⟨World.ownsRow_nil _ _ _ _, hbx, hba⟩
  clear hba hbx
  go_enter Try.func7, Try.ntmps7
  go_wp2_with fail
  go_loopw [4, 5] (fun v i wr => ∃ k : Nat, k ≤ n ∧ i = .int .i64 k ∧ TgS w wr .u8 5 (xo, xt, xr, l) a n c v ((kindsL l).take k)) (fun _ i _ => n - (intOf i).toNat)
  case atStart => exact ⟨0, Nat.zero_le _, rfl, HS0.out⟩
  case round =>
    obtain ⟨k, hk, rfl, hS⟩ := hrel
    obtain ⟨av, cv, rfl⟩ := own_shapeG hS.own
    have c3 := (one_block hS.box).1 3
    by_cases hlt : k < n
    · have hkl : k < l.length := by rw [HL.out]; exact hlt
      obtain ⟨b, off, rfl, hb, c1, c2, c4⟩ := HV.out k hkl
      have q1 := (hS.bel.cell (p := ⟨b, off + k * 3, none⟩) hb).trans c1
      have HSN := hide (take_snoc (kindsL l) k (by rw [HKL.out]; exact hlt))
      have HKK := hide (HKN.out k hkl)
      rw [HKK.out] at HSN
      have HPL : Hid (((kindsL l).take k).length < 17592186044415) := by show _ < _; rw [List.length_take]; omega
      generalize (kindsL l).take k = zs at *
      generalize (nthA l k).1 = y at *
      have hki : (k : Int) < (n : Int) := by omega
      have HS := hide (hS.below ((Below.refl _ _).alloc (Nat.le_refl _) (.cells #[.int .u8 y] 5)))
      have HLT := hide hlt
      have hsz : w.heap.size < wr.heap.size := (Array.getElem?_eq_some_iff.1 hS.box).1
      clear hS hk hlt hkl hb c1 c2 c4 HS0 HKK
      go_wp2_with (at_builtin; refine wpList_appK rfl (.tmp 16) (.tmp 23) .u8 5 37 1 rfl Try.underlying37 TgK.info (by omega) (w.heap.size + 1) _ zs y rfl wr.heap.size rfl (allocNew _ _ rfl) HS.out.own HPL.out (by simp; omega) ?_)
      intro g cap w5 ho5 hg5 _
      have HS5 := hide (HS.out.push (zs' := zs ++ [y]) hg5 (by simpa using ho5))
      clear ho5 hg5 HS
      go_wp2_with fail
      exact ⟨⟨k + 1, HLT.out, by simp, by rw [HSN.out]; simpa using HS5.out⟩, measZ2 HLT.out⟩
    · have e : n = k := by omega
      subst e
      have HTK : Hid ((kindsL l).take n = kindsL l) := by show _ = _; rw [← HKL.out, List.take_length]
      have hV := View.ofOwn hS.own (by simp)
      rw [HTK.out] at hV
      have hln : ((kindsL l).take n).length = n := by rw [HTK.out]; exact HKL.out
      rw [hln]
      have hf := HF.out av cv _ hV
      have c0 := (one_block hS.box).1 0
      have HBX := hide hS.box
      have HBL := hide hS.bel
      clear hS hV HS0 hk hln
      rename World => wo
      go_wp2_with fail
      refine hf.mono ?_
      rintro e w2 ⟨rfl, hb2⟩
      have hS2 : TgS w w2 .u32 23 (xo, xt, xr, l) a n c (.slice none 0 0) (tgP xo l 0) := ⟨by simp only [tgP, Nat.zero_min]; exact World.ownsRow_nil _ _ _ _, (hb2.block _ (Array.getElem?_eq_some_iff.1 HBX.out).1).trans HBX.out, HBL.out.trans (hb2.mono HBL.out.size)⟩
      have HS2 := hide hS2
      clear hf hb2 hS2 c3 c0 HBX HBL
      obtain ⟨fi1, fi2⟩ := fi
      have HF2 : Hid (fi2 = fb) := HFB.out
      cases fi2 with
      | false =>
        have HRE : Hid (RES = []) := by show _ = _; rw [HTG.out, ← HF2.out]; rfl
        go_wp2_with fail
        go_ret
        rw [HRE.out]
        exact ⟨_, rfl, World.ownsRow_nil _ _ _ _, HS2.out.bel⟩
      | true =>
        have HRE : Hid (RES = tgP xo l l.length) := by show _ = _; rw [HTG.out, ← HF2.out]; rfl
        clear HF2 HFB
        go_wp2_with fail
        go_loopw [3, 8] (fun v i wr => ∃ k : Nat, k ≤ n ∧ i = .int .i64 k ∧ TgS w wr .u32 23 (xo, xt, xr, l) a n c v (tgP xo l k)) (fun _ i _ => n - (intOf i).toNat)
        case atStart => exact ⟨0, Nat.zero_le _, rfl, HS2.out⟩
        case round =>
          obtain ⟨k, hk, rfl, hS⟩ := hrel
          obtain ⟨av, cv, rfl⟩ := own_shapeG hS.own
          have c3 := (one_block hS.box).1 3
          have c0 := (one_block hS.box).1 0
          by_cases hlt : k < n
          · have hkl : k < l.length := by rw [HL.out]; exact hlt
            obtain ⟨b, off, rfl, hb, c1, c2, c4⟩ := HV.out k hkl
            have q2 := (hS.bel.cell (p := ⟨b, off + k * 3 + 1, none⟩) hb).trans c2
            have HON := hide (HT1.out k hkl)
            have HPL : Hid ((tgP xo l k).length < 17592186044415) := by show _ < _; have := HTP.out k; rw [HL.out] at this; omega
            generalize tgP xo l k = zs at *
            generalize (nthA l k).2.1 = y at *
            have hki : (k : Int) < (n : Int) := by omega
            have HLT := hide hlt
            have hsz : w.heap.size < wr.heap.size := (Array.getElem?_eq_some_iff.1 hS.box).1
            rcases Decidable.em (xo = 249) with h249 | h249
            · have ht : tgB xo k = true := by simp [tgB, h249]
              have b1 : (xo == 249) = true := by simp [h249]
              clear h249
              have HP' : Hid (tgP xo l (k + 1) = zs ++ [y]) := by show _ = _; rw [HON.out, ht]; rfl
              have HS := hide (hS.below ((Below.refl _ _).alloc (Nat.le_refl _) (.cells #[.int .u32 y] 23)))
              clear hS hk hlt hkl hb c1 c2 c4 HS2 HON ht
              go_wp2_with (at_builtin; refine wpList_appK rfl (.tmp 64) (.tmp 71) .u32 23 28 4 rfl Try.underlying28 TgW.info (by omega) (w.heap.size + 1) _ zs y rfl wr.heap.size rfl (allocNew _ _ rfl) HS.out.own HPL.out (by simp; omega) ?_)
              intro g cap w5 ho5 hg5 _
              have HS5 := hide (HS.out.push (zs' := zs ++ [y]) hg5 (by simpa using ho5))
              clear ho5 hg5 HS
              go_wp2_with fail
              exact ⟨⟨k + 1, HLT.out, by simp, by rw [HP'.out]; simpa using HS5.out⟩, measZ2 HLT.out⟩
            have b1 : (xo == 249) = false := by simpa using h249
            rcases Decidable.em (xo = 250) with h250 | h250
            · have b2 : (xo == 250) = true := by simp [h250]
              rcases Nat.eq_zero_or_pos k with hk0 | hk0
              · have ht : tgB xo k = false := by simp [tgB, h250, hk0]
                subst hk0
                have b4 : (xo == 251) = false := by simp [h250]
                clear h249 h250
                have HP' : Hid (tgP xo l (0 + 1) = zs) := by show _ = _; rw [HON.out, ht]; simp
                have HS := hide hS
                clear hS hk hlt hkl hb c1 c2 c4 HS2 HON ht
                go_wp2_with fail
                exact ⟨⟨0 + 1, HLT.out, by simp, by rw [HP'.out]; exact HS.out⟩, by have h1 := HLT.out; simp [intOf]; omega⟩
              · have ht : tgB xo k = true := by simp [tgB, h250, hk0]
                have b3 : (0 : Int) < (k : Int) := by omega
                clear h249 h250 hk0
                have HP' : Hid (tgP xo l (k + 1) = zs ++ [y]) := by show _ = _; rw [HON.out, ht]; rfl
                have HS := hide (hS.below ((Below.refl _ _).alloc (Nat.le_refl _) (.cells #[.int .u32 y] 23)))
                clear hS hk hlt hkl hb c1 c2 c4 HS2 HON ht
                go_wp2_with (at_builtin; refine wpList_appK rfl (.tmp 64) (.tmp 71) .u32 23 28 4 rfl Try.underlying28 TgW.info (by omega) (w.heap.size + 1) _ zs y rfl wr.heap.size rfl (allocNew _ _ rfl) HS.out.own HPL.out (by simp; omega) ?_)
                intro g cap w5 ho5 hg5 _
                have HS5 := hide (HS.out.push (zs' := zs ++ [y]) hg5 (by simpa using ho5))
                clear ho5 hg5 HS
                go_wp2_with fail
                exact ⟨⟨k + 1, HLT.out, by simp, by rw [HP'.out]; simpa using HS5.out⟩, measZ2 HLT.out⟩
            have b2 : (xo == 250) = false := by simpa using h250
            rcases Decidable.em (xo = 251) with h251 | h251
            · have b4 : (xo == 251) = true := by simp [h251]
              rcases Decidable.em (k % 2 = 1) with hk0 | hk0
              · have ht : tgB xo k = true := by simp [tgB, h251, hk0]
                have b3 : ((k : Int) % 2 == 1) = true := by
                  have : (k : Int) % 2 = 1 := by omega
                  simp [this]
                clear h249 h250 h251 hk0
                have HP' : Hid (tgP xo l (k + 1) = zs ++ [y]) := by show _ = _; rw [HON.out, ht]; rfl
                have HS := hide (hS.below ((Below.refl _ _).alloc (Nat.le_refl _) (.cells #[.int .u32 y] 23)))
                clear hS hk hlt hkl hb c1 c2 c4 HS2 HON ht
                go_wp2_with (at_builtin; refine wpList_appK rfl (.tmp 64) (.tmp 71) .u32 23 28 4 rfl Try.underlying28 TgW.info (by omega) (w.heap.size + 1) _ zs y rfl wr.heap.size rfl (allocNew _ _ rfl) HS.out.own HPL.out (by simp; omega) ?_)
                intro g cap w5 ho5 hg5 _
                have HS5 := hide (HS.out.push (zs' := zs ++ [y]) hg5 (by simpa using ho5))
                clear ho5 hg5 HS
                go_wp2_with fail
                exact ⟨⟨k + 1, HLT.out, by simp, by rw [HP'.out]; simpa using HS5.out⟩, measZ2 HLT.out⟩
              · have ht : tgB xo k = false := by simp [tgB, h251, hk0]
                have b3 : ((k : Int) % 2 == 1) = false := by
                  have : ¬ (k : Int) % 2 = 1 := by omega
                  simpa using this
                clear h249 h250 h251 hk0
                have HP' : Hid (tgP xo l (k + 1) = zs) := by show _ = _; rw [HON.out, ht]; simp
                have HS := hide hS
                clear hS hk hlt hkl hb c1 c2 c4 HS2 HON ht
                go_wp2_with fail
                exact ⟨⟨k + 1, HLT.out, by simp, by rw [HP'.out]; exact HS.out⟩, measZ2 HLT.out⟩
            have b4 : (xo == 251) = false := by simpa using h251
            have ht : tgB xo k = false := by simp [tgB, h249, h250, h251]
            clear h249 h250 h251
            have HP' : Hid (tgP xo l (k + 1) = zs) := by show _ = _; rw [HON.out, ht]; simp
            have HS := hide hS
            clear hS hk hlt hkl hb c1 c2 c4 HS2 HON ht
            go_wp2_with fail
            exact ⟨⟨k + 1, HLT.out, by simp, by rw [HP'.out]; exact HS.out⟩, measZ2 HLT.out⟩
          · have e : n = k := by omega
            subst e
            have HS := hide hS
            clear hS HS2 hk
            go_wp2_with fail
            go_ret
            have h1 := HS.out.own
            refine ⟨_, rfl, ?_, HS.out.bel⟩
            rw [HRE.out, HL.out]
            exact own_mono h1 (by omega)

theorem graphTargets_any (x : InstT) (a : Option Addr) (n c : Nat) (w : World) (hv : ArgsV w a x.2.2.2) (hl : x.2.2.2.length = n) (hm : 24 * n ≤ 140737488351232) :
    Calls Try.prog 5 #[instV x a n c] w fun e w' => AnsW w w' e (tgL x) := by
  obtain ⟨xo, xt, xr, l⟩ := x
  have hbl : Below w.heap.size w (w.alloc (.cells #[.int .u16 xo, .int .u32 xt, .int .u32 xr, .slice a n c] 26)) := (Below.refl _ _).alloc (Nat.le_refl _) _
  have hT := blkTargets_any (xo, xt, xr, l) a n c _ (hv.below hbl) hl hm
  have k := one_block (allocNew w (.cells #[.int .u16 xo, .int .u32 xt, .int .u32 xr, .slice a n c] 26) rfl)
  have x0 := k.1 0
  have x1 := k.1 1
  have x2 := k.1 2
  have x3 := k.1 3
  generalize tgL (xo, xt, xr, l) = T at *
  unfold instV at *
  clear hv hl hm k
  have HBL := hide hbl
  clear hbl
  simp only at hT
  go_enter Try.func5, Try.ntmps5
  go_wp2_with fail
  refine hT.mono ?_
  rintro e w1 ⟨v, rfl, ho, hb⟩
  have HO := hide (own_mono ho HBL.out.size)
  have HB := hide (HBL.out.trans (hb.mono HBL.out.size))
  clear ho hb hT x0 x1 x2 x3
  go_wp2_with fail
  go_ret
  exact ⟨_, rfl, HO.out, HB.out⟩

end Go.Proofs.Ytclgjolplobdbaa

/-
  Plain arithmetic for the layer of frames: where the instructions of words lie. No condition but the bounds that each lemma names.
-/
namespace Go.Proofs.Ytclgjolplobdbaa
open Go.RowKit

/-- How many words the instruction at a place says that it has. -/
def cntN (zs : List Int) (p : Nat) : Nat := (nth zs p).toNat / 65536
/-- Its operation. -/
def opI (zs : List Int) (p : Nat) : Int := nth zs p % 65536

theorem cntN_int (zs : List Int) (p : Nat) (h : 0 ≤ nth zs p) : nth zs p / 65536 = (cntN zs p : Int) := by unfold cntN; omega
theorem opI_lo (zs : List Int) (p : Nat) : 0 ≤ opI zs p := Int.emod_nonneg _ (by decide)
theorem opI_hi (zs : List Int) (p : Nat) : opI zs p < 65536 := Int.emod_lt_of_pos _ (by decide)

/-- No instruction begins there: it says no words, or more than are left. -/
def badAt (zs : List Int) (p : Nat) : Prop := cntN zs p = 0 ∨ zs.length < p + cntN zs p
def badB (zs : List Int) (p : Nat) : Bool := cntN zs p == 0 || decide (zs.length < p + cntN zs p)
theorem badB_true {zs : List Int} {p : Nat} (h : badAt zs p) : badB zs p = true := by
  unfold badB; rcases h with h | h <;> simp [h]
theorem badB_false {zs : List Int} {p : Nat} (h : ¬ badAt zs p) : badB zs p = false := by
  unfold badAt at h; unfold badB
  have h1 : ¬ cntN zs p = 0 := fun e => h (.inl e)
  have h2 : ¬ zs.length < p + cntN zs p := fun e => h (.inr e)
  simp [h1, h2]

def restF (zs : List Int) : Nat → Nat → List Nat
  | 0, _ => []
  | f + 1, p => if p < zs.length then (if badB zs p then [] else p :: restF zs f (p + cntN zs p)) else []
def stopF (zs : List Int) : Nat → Nat → Nat
  | 0, p => p
  | f + 1, p => if p < zs.length then (if badB zs p then p else stopF zs f (p + cntN zs p)) else p
/-- The places of the instructions from a place on. -/
def rest (zs : List Int) (p : Nat) : List Nat := restF zs (zs.length - p) p
/-- Where they end. -/
def stop (zs : List Int) (p : Nat) : Nat := stopF zs (zs.length - p) p

theorem restF_end (zs : List Int) (f p : Nat) (h : zs.length ≤ p) : restF zs f p = [] := by
  cases f with
  | zero => rfl
  | succ f => rw [restF, if_neg (by omega)]
theorem stopF_end (zs : List Int) (f p : Nat) (h : zs.length ≤ p) : stopF zs f p = p := by
  cases f with
  | zero => rfl
  | succ f => rw [stopF, if_neg (by omega)]
theorem cnt_pos {zs : List Int} {p : Nat} (h : badB zs p = false) : 0 < cntN zs p := by
  unfold badB at h; simp at h; omega
theorem cnt_fits {zs : List Int} {p : Nat} (h : badB zs p = false) : p + cntN zs p ≤ zs.length := by
  unfold badB at h; simp at h; omega

theorem restF_fuel (zs : List Int) : ∀ (f g p : Nat), zs.length - p ≤ f → zs.length - p ≤ g → restF zs f p = restF zs g p
  | 0, g, p, h, _ => by rw [restF_end zs 0 p (by omega), restF_end zs g p (by omega)]
  | f + 1, 0, p, _, h => by rw [restF_end zs 0 p (by omega), restF_end zs (f + 1) p (by omega)]
  | f + 1, g + 1, p, h1, h2 => by
    rw [restF, restF]
    by_cases hp : p < zs.length
    · rw [if_pos hp, if_pos hp]
      cases hb : badB zs p with
      | true => rfl
      | false =>
        have := cnt_pos hb
        simp only [Bool.false_eq_true, if_false]
        rw [restF_fuel zs f g (p + cntN zs p) (by omega) (by omega)]
    · rw [if_neg hp, if_neg hp]
theorem stopF_fuel (zs : List Int) : ∀ (f g p : Nat), zs.length - p ≤ f → zs.length - p ≤ g → stopF zs f p = stopF zs g p
  | 0, g, p, h, _ => by rw [stopF_end zs 0 p (by omega), stopF_end zs g p (by omega)]
  | f + 1, 0, p, _, h => by rw [stopF_end zs 0 p (by omega), stopF_end zs (f + 1) p (by omega)]
  | f + 1, g + 1, p, h1, h2 => by
    rw [stopF, stopF]
    by_cases hp : p < zs.length
    · rw [if_pos hp, if_pos hp]
      cases hb : badB zs p with
      | true => rfl
      | false =>
        have := cnt_pos hb
        simp only [Bool.false_eq_true, if_false]
        rw [stopF_fuel zs f g (p + cntN zs p) (by omega) (by omega)]
    · rw [if_neg hp, if_neg hp]

theorem rest_end (zs : List Int) (p : Nat) (h : zs.length ≤ p) : rest zs p = [] := restF_end zs _ p h
theorem stop_end (zs : List Int) (p : Nat) (h : zs.length ≤ p) : stop zs p = p := stopF_end zs _ p h
theorem rest_bad (zs : List Int) (p : Nat) (hp : p < zs.length) (h : badB zs p = true) : rest zs p = [] := by
  obtain ⟨f, hf⟩ : ∃ f, zs.length - p = f + 1 := ⟨zs.length - p - 1, by omega⟩
  rw [rest, hf, restF, if_pos hp, h]; rfl
theorem stop_bad (zs : List Int) (p : Nat) (hp : p < zs.length) (h : badB zs p = true) : stop zs p = p := by
  obtain ⟨f, hf⟩ : ∃ f, zs.length - p = f + 1 := ⟨zs.length - p - 1, by omega⟩
  rw [stop, hf, stopF, if_pos hp, h]; rfl
theorem rest_go (zs : List Int) (p : Nat) (hp : p < zs.length) (h : badB zs p = false) : rest zs p = p :: rest zs (p + cntN zs p) := by
  obtain ⟨f, hf⟩ : ∃ f, zs.length - p = f + 1 := ⟨zs.length - p - 1, by omega⟩
  have := cnt_pos h
  rw [rest, hf, restF, if_pos hp, h]
  simp only [Bool.false_eq_true, if_false]
  rw [restF_fuel zs f (zs.length - (p + cntN zs p)) (p + cntN zs p) (by omega) (by omega)]
  rfl
theorem stop_go (zs : List Int) (p : Nat) (hp : p < zs.length) (h : badB zs p = false) : stop zs p = stop zs (p + cntN zs p) := by
  obtain ⟨f, hf⟩ : ∃ f, zs.length - p = f + 1 := ⟨zs.length - p - 1, by omega⟩
  have := cnt_pos h
  rw [stop, hf, stopF, if_pos hp, h]
  simp only [Bool.false_eq_true, if_false]
  rw [stopF_fuel zs f (zs.length - (p + cntN zs p)) (p + cntN zs p) (by omega) (by omega)]
  rfl
theorem restF_len (zs : List Int) : ∀ (f p : Nat), (restF zs f p).length ≤ f
  | 0, _ => Nat.le_refl _
  | f + 1, p => by
    rw [restF]
    split
    · split
      · simp
      · have := restF_len zs f (p + cntN zs p)
        simp only [List.length_cons]; omega
    · simp
theorem rest_len (zs : List Int) (p : Nat) : (rest zs p).length ≤ zs.length - p := restF_len zs _ p
theorem restF_mem (zs : List Int) : ∀ (f p q : Nat), q ∈ restF zs f p → p ≤ q ∧ q < zs.length ∧ badB zs q = false
  | 0, _, _, h => by simp [restF] at h
  | f + 1, p, q, h => by
    rw [restF] at h
    by_cases hp : p < zs.length
    · rw [if_pos hp] at h
      cases hb : badB zs p with
      | true => rw [hb] at h; simp at h
      | false =>
        rw [hb] at h
        simp only [Bool.false_eq_true, if_false, List.mem_cons] at h
        rcases h with rfl | h
        · exact ⟨Nat.le_refl _, hp, hb⟩
        · have := restF_mem zs f (p + cntN zs p) q h
          exact ⟨by omega, this.2⟩
    · rw [if_neg hp] at h; simp at h
theorem rest_mem (zs : List Int) (p q : Nat) (h : q ∈ rest zs p) : p ≤ q ∧ q < zs.length ∧ badB zs q = false := restF_mem zs _ p q h

/-- Places as numbers. -/
def natI (l : List Nat) : List Int := l.map fun (q : Nat) => (q : Int)
theorem natI_len (l : List Nat) : (natI l).length = l.length := by simp [natI]
theorem nth_natI (l : List Nat) (k : Nat) (h : k < l.length) : nth (natI l) k = ((l.getD k 0 : Nat) : Int) := by
  simp [nth, natI, List.getD, h]

end Go.Proofs.Ytclgjolplobdbaa
